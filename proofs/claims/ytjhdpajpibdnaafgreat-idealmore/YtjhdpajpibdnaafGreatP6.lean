import Derived.Test.YtjhdpajpibdnaafGreatP5
import Derived.Lib.SliceRun
set_option maxHeartbeats 16000000
set_option maxRecDepth 100000
namespace Go.Proofs.YtjhdpajpibdnaafGreat
open Go.ChangeShapes Go.WideShapes Go.ChangeAt Go.RowKit _root_.Go.Proofs.Tryz
set_option linter.unusedSimpArgs false
set_option linter.unusedVariables false
variable {w w' w6 wc wr w1 w2 w9:World}{b n c k X g m B i N rc ac cm fi bh R bi d j cap most q ca x ci na id f s cR cA rl al G o pages fl fm:Nat}{O A Q O' Q2 OO:Nat→Prop}{v u:Value}{a p ag pm pa pi pR pA ra aa:Option Addr}{t e:TypeId}{l inp:List Int}{P:Program}{xa xb xc xk words fu fr xn pg:Int}{L bs:List Bool}{cs xs ds:List Value}{ops:Array Oper}
theorem QlD {regs:List Int}(h:∀ x∈regs,-9223372036854775808<=x/\x<=9223372036854775807){t:TT 6}(b:t.ok):(Qao regs t).ok:=by
 unfold Qao
 cases e:t.ren regs.length (fun i=>regs.getD i 0) with
 | none=>exact⟨⟨by decide,by decide⟩,fun x c=>by simp[zeroTT] at c⟩
 | some u=>exact Qgr (fun i a=>h (regs.getD i 0) (by simp[List.getD,a])) b e
theorem Qcv.types {M:Nat}{l:List (TT 6)}(h:Qcv w G M l) (o:l.length=M) (e:∀ x∈l,x.ok) (m:∀ k,G<=k->¬ A k):(Qx 6).In w (fun g=>¬ A g) l [.slice (some ⟨G,0,none⟩) M M]:=by
 obtain⟨q,b,v,t⟩:=h.row
 subst o;refine⟨_,_,Z,fun i x f=>?_⟩
 obtain⟨a,c,p,s,n,u⟩:=t i x f
 refine⟨G,0,[Iv x.kind,Iv x.r,.slice a x.len c],Z,m G Ze,XC b,fun j d=>?_,a,c,Z,u.mono (fun k y _=>m k (by omega)),e x (Zm f)⟩
 have d:j<3:=d;show w.cell? ⟨G,0+i*3+j,none⟩=_;rw[XK]
 match j,d with
 | 0,_=>exact Qa b _ _ p
 | 1,_=>exact Qa b _ _ s
 | 2,_=>exact Qa b _ _ n
 | j+3,h=>exact absurd h (by omega)
noncomputable def JSt.callC (s:JSt) (x:Qv):Int:=match s.m[x.k.toNat]? with
 | none=>0
 | some g=>Qt (QbZ s.H x.regs g.regs) (Qt (s.handC x.args (g.params.map (Qao x.regs))) (Q4 s.L.length g.results.length))
def JSt.callS (s:JSt) (x:Qv):JSt:={ s with L:=s.L++(match s.m[x.k.toNat]? with | none=>[] | some g=>g.results.map (Qao x.regs)) }
def QnH (w2:World) (b X mg mo nm cm k n1 d1 n2 d2 n3 d3:Nat) (fr:Int) (p1 p2 p3:Option Addr) (t:Tmp) (v:Value) (w:World):Prop :=
 match ([(4,fun v w=>∃ B,v=.pointer (some ⟨B,0,none⟩)/\w2.heap.size<=B/\Blk w B #[.int .i64 0,.slice none 0 0,.slice none 0 0,.slice none 0 0] 89)]:List (Tmp × (Value->World->Prop))).lookup t with
 | some p=>p v w
 | none=>v=(([(0,.pointer (some ⟨b,0,none⟩)),(3,.pointer (some ⟨X,0,none⟩)),(5,.pointer (some ⟨b,0,none⟩)),(6,.pointer (some ⟨b,0,none⟩)),(7,.pointer (some ⟨b,0,none⟩)),(8,.pointer (some ⟨b,0,none⟩)),(9,.slice (some ⟨mg,mo,none⟩) nm cm),(10,.pointer (some ⟨X,4,none⟩)),(11,.int .i64 (k:Int)),(12,.pointer (some ⟨mg,mo+k*4,none⟩)),(13,.agg #[.int .i64 fr,.slice p1 n1 d1,.slice p2 n2 d2,.slice p3 n3 d3])]:List (Tmp × Value)).lookup t).getD undef
theorem jc1 {d f D r o s x u l:Nat}{j q y:Option Addr}(R:w2.cell? ⟨b,0,none⟩=some (.slice (some ⟨d,f,none⟩) D cm)) (L:w2.cell? ⟨X,4,none⟩=some (Iv (k:Int))) (F:w2.cell? ⟨d,f+k*4,none⟩=some (Iv fr)) (M:w2.cell? ⟨d,f+k*4+1,none⟩=some (.slice j r o)) (P:w2.cell? ⟨d,f+k*4+2,none⟩=some (.slice q s x)) (S:w2.cell? ⟨d,f+k*4+3,none⟩=some (.slice y u l)) (H:(k:Int)<D){Q:Exit->Act->World->Prop}
 (a:Act) (m:Nat) (hn:a.tmps.size=m) (A:36<=m) (I:a.tmps.getD 0 undef=Pv b 0) (O:a.tmps.getD 3 undef=Pv X 0)
 (hend:∀ ops vs w',vs 13=.agg #[Iv fr,.slice j r o,.slice q s x,.slice y u l]->(fun v w=>∃ B,v=Pv B 0/\w2.heap.size<=B/\Blk w B #[Iv 0,Nv,Nv,Nv] 89) (vs 4) w'->Below w2.heap.size w2 w'->wpList prog ops Q (QaR 10 ((Tryz.f249.body.bind (Qg 1)).getD .skip)) (QI a vs [5,6,7,8,9,10,11,12,13,4]) w') :
 Code.wp prog ((Tryz.f249.body.bind (Qg 1)).getD .skip) Q a w2:=by
 conv=>arg 2;whnf
 refine Qm 10 (QnH w2 b X d f D cm k r o s x u l fr j q y) (fun w=>Below w2.heap.size w2 w) (fun w w'=>Below w.heap.size w w') (outs:=[0,3]) (gs:=[]) (bs:=[true,true,true,true,true,true,true,true,true,true]) (by kernel_rfl) (n:=36) hn A (by kernel_rfl) (by kernel_rfl) ?hR ?hG (Qs Zr 1) ⟨I,O,Y⟩ ?hA ?hend
 case hR =>
  intro t v w w' J h;unfold QnH at h |-;split at h
  ·rename_i p i
   simp only[List.lookup_cons,List.lookup_nil] at i
   split at i
   ·cases i;exact(by obtain⟨B,e,N,E⟩:=h;exact⟨B,e,N,(J.block B (XC E)).trans E⟩)
   ·cases i
  ·exact h
 case hG=>exact Y
 case hend=>exact fun ops vs w' c g=>hend ops vs w' (g 13 (by kernel_rfl)) (g 4 (by kernel_rfl)) c
 case hA =>
  repeat
   refine⟨fun a w c g K z=>?_,?_⟩
   focus first
    | obtain⟨C,-⟩:=g
      conv at C=>whnf;rhs;whnf
      have T:=Qo R c;have U:=Qo L c;have V:=Qo F c;have W:=Qo M c;have c4:=Qo P c;have c5:=Qo S c;go_simp;exact z _ _ Zr c Z
    | clear g
      go_simp;exact z _ _ (ZO _ _) (c.alloc c.size _) ⟨_,Z,c.size,Qf _ _ _⟩
    | obtain⟨C,G,-⟩:=g
      conv at C=>whnf;rhs;whnf
      conv at G=>whnf;rhs;whnf
      go_simp;exact z _ _ Zr c Z
  trivial
def QnJ (w2:World) (b X C N ac n1 d1 Kn rc:Nat) (ag rg p1:Option Addr) (ps:List (TT 6)) (regs:List Int) (t:Tmp) (v:Value) (w:World):Prop :=
 match ([(27,fun v w=>∃ g,v=.slice (some ⟨g,0,none⟩) n1 n1/\w2.heap.size<=g/\Qcv w g n1 (ps.map (Qao regs)))]:List (Tmp × (Value->World->Prop))).lookup t with
 | some p=>p v w
 | none=>v=(([(0,.pointer (some ⟨b,0,none⟩)),(3,.pointer (some ⟨X,0,none⟩)),(4,.pointer (some ⟨C,0,none⟩)),(20,.pointer (some ⟨b,0,none⟩)),(21,.pointer (some ⟨X,7,none⟩)),(22,.slice ag N ac),(23,.pointer (some ⟨C,1,none⟩)),(24,.slice p1 n1 d1),(25,.pointer (some ⟨X,6,none⟩)),(26,.slice rg Kn rc)]:List (Tmp × Value)).lookup t).getD undef
theorem jc3 {C d B j:Nat}{r l:Option Addr}{i:List (TT 6)}{regs:List Int}{R:Nat->Prop}(E:w2.cell? ⟨X,6,none⟩=some (.slice r j rc)) (L:w2.cell? ⟨X,7,none⟩=some (.slice ag N ac)) (W:w2.cell? ⟨C,1,none⟩=some (.slice l d B)) (P:Hid (regs.length=j)) (o:Hid (i.length=d)) (z:d<=1000) (O:Hid (intsL.In w2 Q regs [.slice r j rc])) (H:Hid (LIn w2 R i l)) (T:Hid (∀ x∈i,x.count<=2000)){Q:Exit->Act->World->Prop}
 (a:Act) (m:Nat) (hn:a.tmps.size=m) (u:36<=m) (G:a.tmps.getD 0 undef=Pv b 0) (V:a.tmps.getD 3 undef=Pv X 0) (I:a.tmps.getD 4 undef=Pv C 0)
 (hend:∀ ops vs w',vs 22=.slice ag N ac->vs 20=Pv b 0->(fun v w=>∃ g,v=.slice (some ⟨g,0,none⟩) d d/\w2.heap.size<=g/\Qcv w g d (i.map (Qao regs))) (vs 27) w'->Below w2.heap.size w2 w'->wpList prog ops Q (QaR 8 ((Tryz.f249.body.bind (Qg 3)).getD .skip)) (QI a vs [20,21,22,23,24,25,26,27]) w') :
 Code.wp prog ((Tryz.f249.body.bind (Qg 3)).getD .skip) Q a w2:=by
 conv=>arg 2;whnf
 refine Qm 8 (QnJ w2 b X C N ac d B j rc ag r l i regs) (fun w=>Below w2.heap.size w2 w) (fun w w'=>Below w.heap.size w w') (outs:=[0,3,4]) (gs:=[]) (bs:=[true,true,true,true,true,true,true,true]) (by kernel_rfl) (n:=36) hn u (by kernel_rfl) (by kernel_rfl) ?hR ?hG (Qs Zr 1) ⟨G,V,I,Y⟩ ?hA ?hend
 case hR =>
  intro t v w w' M h;unfold QnJ at h |-;split at h
  ·rename_i p k
   simp only[List.lookup_cons,List.lookup_nil] at k
   split at k
   ·cases k;exact(by obtain⟨g,e,U,S⟩:=h;exact⟨g,e,U,S.below M⟩)
   ·cases k
  ·exact h
 case hG=>exact Y
 case hend=>exact fun ops vs w' c f=>hend ops vs w' (f 22 (by kernel_rfl)) (f 20 (by kernel_rfl)) (f 27 (by kernel_rfl)) c
 case hA =>
  iterate 7
   refine⟨fun a w c f K s=>?_,?_⟩
   ·obtain⟨y,-⟩:=f
    conv at y=>whnf;rhs;whnf
    have u0:=Qo L c;have u1:=Qo W c;have u2:=Qo E c;go_simp;exact s _ _ Zr c Z
  refine⟨fun a w c f K s=>?_,?_⟩
  ·obtain⟨y,F,-⟩:=f
   conv at y=>whnf;rhs;whnf
   conv at F=>whnf;rhs;whnf
   go_simp;refine Xm (QaU P.out o.out z (Ya O.out c) (H.out.below c) T.out) ?_;rintro r7 w7 ⟨J,rfl,A,q,D⟩;go_simp;exact s _ _ D (c.trans (D.mono c.size)) ⟨J,Z,Zt c.size A,q⟩
  trivial
theorem QhV {s:JSt}{x:Qv}{J:Option Addr}(hA:∀ k,A k->k<w.heap.size) (hJ:JOk s) (h:SAt w b O A s) (n:intsL.In w Q x.regs [.slice J x.regs.length rc]) (j:intsL.In w Q x.args [.slice ag x.args.length ac]) (ae:x.regs.length<=rc) (az:x.regs.length<=6) (aw:x.args.length<=8) (an:0<=x.k/\x.k<s.m.length) :
 Calls prog 249 #[Pv b 0,Qel x J ag rc ac] w fun e w'=>QU w b O A s (s.callS x) (s.callC x) e w':=by
 obtain⟨F,B,I,M,xk,D,a,f⟩:=x
 simp only at n j ae az aw an
 have HJ:=Qb hJ;have H0:=Qb h;have HA:=Qb hA;have hL:=hJ.vals;have b1:=ZO w (.cells #[Iv F,Iv B,Iv I,Iv M,Iv xk,Iv D,.slice J a.length rc,.slice ag f.length ac] 78);have H:=Qb (h.below b1);have HR:Hid (intsL.In _ Q a [.slice J a.length rc]):=Ya n b1;have HG:Hid (intsL.In _ Q f [.slice ag f.length ac]):=Ya j b1;have HB:=Qb b1;have X1:Hid (Blk (w.alloc (.cells #[Iv F,Iv B,Iv I,Iv M,Iv xk,Iv D,.slice J a.length rc,.slice ag f.length ac] 78)) w.heap.size #[Iv F,Iv B,Iv I,Iv M,Iv xk,Iv D,.slice J a.length rc,.slice ag f.length ac] 78):=Blk.new _ _ _;clear h hA hJ b1 n j;obtain⟨k,rfl⟩:=Xc an.1
 have bf:k<s.m.length:=by omega
 have q:s.m[k]?=some s.m[k]:=Zg bf;generalize s.m[k]=g at q;have bd:Hid (g∈s.m):=Zm q
 have E:Hid (s.callC ⟨F,B,I,M,(k:Int),D,a,f⟩=Qt (QbZ s.H a g.regs) (Qt (s.handC f (g.params.map (Qao a))) (Q4 s.L.length g.results.length))):=by
  show _=_;unfold JSt.callC;simp only[Int.toNat_natCast,q]
 have ES:Hid (s.callS ⟨F,B,I,M,(k:Int),D,a,f⟩={ s with L:=s.L++g.results.map (Qao a) }):=by
  show _=_;unfold JSt.callS;simp only[Int.toNat_natCast,q]
 have ba:=Qb (HJ.out.mod.2 g bd.out);have ax:Hid (¬ MFunc.great g):=fun hg=>HJ.out.tiny (.inr ⟨g,bd.out,hg⟩);have bm:Hid (∀ t∈g.params,t.count<=2000):=fun t ht=>Xo fun am=>ax.out (.inr (.inl (.inr ⟨t,ht,am⟩)));have bh:Hid (∀ t∈g.results,t.count<=2000):=fun t ht=>Xo fun am=>ax.out (.inr (.inr (.inl (.inr ⟨t,ht,am⟩))));have bl:Hid (∀ t∈s.L,t.count<=100000):=fun t ht=>Zt (Z7 (HJ.out.types t ht)) (by omega);have bc:(k:Int)<s.m.length:=by omega
 go_enter func249,ntmps249
 go_upto_region 1 with fail
 generalize w.alloc (.cells #[Iv F,Iv B,Iv I,Iv M,Iv (k:Int),Iv D,.slice J a.length rc,.slice ag f.length ac] 78)=w1 at H HR HG HB X1 |-;obtain⟨X,hX⟩:∃ X,w.heap.size=X:=⟨_,Z⟩
 rw[hX] at X1 |-
 clear hX;have x4:=Qa X1.out 4 _ Z;have x6:=Qa X1.out 6 _ Z;have x7:=Qa X1.out 7 _ Z;obtain⟨pm,cm,hh,a1,c1,a2,c2,a3,c3,aL,cL,RR⟩:=H.out.read
 obtain⟨q0,-⟩:=RR.cells
 obtain⟨mg,mo,p1,d1,T,G,p3,d3,rfl,f0,f1,f2,f3,hP,be⟩:=Qhw RR.mod q
 have ao:Hid ((Qx 6).In w1 (fun g=>¬ A g) g.params [.slice p1 g.params.length d1]):=hP;have af:Hid ((Qx 6).In w1 (fun g=>¬ A g) g.results [.slice T g.results.length G]):=be;clear RR hP be q an;generalize s.m.length=nm at q0 bf bc;generalize bj:g.regs=fr at f0 E;generalize ai:g.params.length=R at f1 ao;have au:=Qb ai;generalize ah:g.results.length=o at f2 af E;have a7:=Qb ah;generalize g.blocks.length=n3 at f3;have bn:R<=8:=by rw[<-ai];exact ba.out.params.1
 have bo:o<=8:=by rw[<-ah];exact ba.out.results.1
 clear ai ah bj;refine jc1 q0 x4 f0 f1 f2 f3 bc _ _ Z (Xg (by kernel_rfl)) Z Z ?_;rintro aj vs w5 aa ⟨C,a0,hC,l⟩ b5;show wpList _ aj _ [_] (QI _ vs [5,6,7,8,9,10,11,12,13,4]) w5;simp only[QI,Act.put,List.setIfInBounds_toArray,List.set_cons_zero,List.set_cons_succ,aa,a0]
 have e0:=Qa l 0 _ Z;have e1:=Qa l 1 _ Z;have e2:=Qa l 2 _ Z;have e3:=Qa l 3 _ Z;have ef:∀ i,w5.frozen? ⟨C,i,none⟩=false:=fun i=>Qe l i
 have B6:Hid (Blk ((((w5.setCell ⟨C,0,none⟩ (Iv fr)).setCell ⟨C,1,none⟩ (.slice p1 R d1)).setCell ⟨C,2,none⟩ (.slice T o G)).setCell ⟨C,3,none⟩ (.slice p3 n3 d3)) C #[Iv fr,.slice p1 R d1,.slice T o G,.slice p3 n3 d3] 89):=by
  have h3:=Qh (Qh (Qh (Qh l 0 (Iv fr)) 1 (.slice p1 R d1)) 2 (.slice T o G)) 3 (.slice p3 n3 d3);exact h3
 have P:Hid (Below w1.heap.size w1 ((((w5.setCell ⟨C,0,none⟩ (Iv fr)).setCell ⟨C,1,none⟩ (.slice p1 R d1)).setCell ⟨C,2,none⟩ (.slice T o G)).setCell ⟨C,3,none⟩ (.slice p3 n3 d3))) :=
  (((b5.setCell (p:=⟨C,0,none⟩) hC _).setCell (p:=⟨C,1,none⟩) hC _).setCell (p:=⟨C,2,none⟩) hC _).setCell (p:=⟨C,3,none⟩) hC _
 clear l hC b5 aa a0 q0 f0 f1 f2 f3;go_upto_region 2 with fail
 generalize ((((w5.setCell ⟨C,0,none⟩ (Iv fr)).setCell ⟨C,1,none⟩ (.slice p1 R d1)).setCell ⟨C,2,none⟩ (.slice T o G)).setCell ⟨C,3,none⟩ (.slice p3 n3 d3))=w6 at B6 P |-;clear e0 e1 e2 e3 ef;obtain⟨e0,e1,e2,e3⟩:=QmG B6.out
 have x6:=Qo x6 P.out;have x7:=Qo x7 P.out;have H6:=Qb (H.out.below P.out);have U:=Qb (HB.out.trans (P.out.mono HB.out.size));have z:Hid (intsL.In w6 Q a [.slice J a.length rc]):=Ya HR.out P.out;have ap:Hid (intsL.In w6 Q f [.slice ag f.length ac]):=Ya HG.out P.out;have a8:Hid ((Qx 6).In w6 (fun g=>¬ A g) g.params [.slice p1 R d1]):=Ya ao.out P.out;have a9:Hid ((Qx 6).In w6 (fun g=>¬ A g) g.results [.slice T o G]):=Ya af.out P.out;clear H HB HR HG ao af P B6 X1 x4;obtain⟨K,hK⟩:∃ K,a.length=K:=⟨_,Z⟩
 have HK:=Qb hK;rw[hK] at x6 z ae az
 clear hK;obtain⟨N,hN⟩:∃ N,f.length=N:=⟨_,Z⟩
 have HN:=Qb hN;rw[hN] at x7 ap aw
 clear hN;have CL:=Qb (Qen fr HK.out (by omega) ae z.out H6.out);go_wp2_with fail
 refine CL.out.mono ?_;rintro e' w' ⟨hO,hw⟩;have hw:=hw.symm;subst hw;rcases hO with ⟨u,y,rfl,hy⟩|⟨u,rfl⟩
 rotate_left
 ·exact⟨Z,QU.bad (by rw[E.out,Qr u]) u (Yh H0.out U.out)⟩
 subst hy;have E2:Hid (s.callC ⟨F,B,I,M,(k:Int),D,a,f⟩=Qt (s.handC f (g.params.map (Qao a))) (Q4 s.L.length o)):=by show _=_;rw[E.out,Qw u]
 clear u CL E;go_upto_region 3 with fail
 refine jc3 x6 x7 e1 HK au (by omega) z (Qb (Q7 a8.out).1) bm _ _ Z (Xg (by kernel_rfl)) Z Z Z ?_;rintro aj vs w7 W V ⟨gP,ab,bi,av⟩ b7;show wpList _ aj _ [_] (QI _ vs [20,21,22,23,24,25,26,27]) w7;simp only[QI,Act.put,List.setIfInBounds_toArray,List.set_cons_zero,List.set_cons_succ,W,V,ab]
 have H7:=Qb (H6.out.below b7);have S:=Qb (U.out.trans (b7.mono U.out.size))
 have CH:Hid (Calls prog 251 #[Pv b 0,.slice ag N ac,.slice (some ⟨gP,0,none⟩) R R] w7 fun e w'=>ZP (s.handC f (g.params.map (Qao a))) VNone e/\Below w7.heap.size w7 w') :=
  QaO HN.out (by omega) (by rw[XN,au.out]) (by omega) (Ya ap.out b7) av.lin hL bl.out (fun k hk=>Zl (HA.out k (H0.out.sub k hk)) S.out.size) H7.out
 have a5:Hid ((Qx 6).In w7 (fun g=>¬ A g) g.results [.slice T o G]):=Ya a9.out b7;have ay:Hid (intsL.In w7 Q a [.slice J K rc]):=Ya z.out b7;have bb:=Qo e2 b7;have ar:=Qo x6 b7;clear av bi b7 W V ab H6 U z ap a8 a9 e0 e1 e2 e3 x6 x7;go_wp2_with fail
 refine CH.out.mono ?_;rintro e' w8 ⟨hO,b8⟩;have H8:=Qb (H7.out.below b8);have r:=Qb (S.out.trans (b8.mono S.out.size));rcases hO with ⟨u,y,rfl,hy⟩|⟨u,rfl⟩
 rotate_left
 ·exact⟨Z,QU.bad (by rw[E2.out,Qr u]) u (Yh H0.out r.out)⟩
 subst hy;have E3:Hid (s.callC ⟨F,B,I,M,(k:Int),D,a,f⟩=Q4 s.L.length o):=by show _=_;rw[E2.out,Qw u]
 have ak:Hid ((Qx 6).In w8 (fun g=>¬ A g) g.results [.slice T o G]):=Ya a5.out b8;have al:Hid (intsL.In w8 Q a [.slice J K rc]):=Ya ay.out b8;have a6:=Qo bb b8;have bg:=Qo ar b8;clear u CH E2 b8 a5 ay bb ar H7 S;have CR:=Qb (QaU (d:=G) (c:=rc) HK.out a7.out (by omega) al.out (Q7 ak.out).1 bh.out);go_wp2_with fail
 refine CR.out.mono ?_;rintro e' w9 ⟨gR,rfl,bk,a4,b9⟩;have aq:=Qb (r.out.trans (b9.mono r.out.size))
 have CM:Hid (Calls prog 244 #[Pv b 0,.slice (some ⟨gR,0,none⟩) o o] w9 fun e w'=>QU w b O A s (s.callS ⟨F,B,I,M,(k:Int),D,a,f⟩) (s.callC ⟨F,B,I,M,(k:Int),D,a,f⟩) e w'):=by
  rw[ES.out,E3.out]
  have ad:(g.results.map (Qao a)).length=o:=by rw[XN,a7.out]
  refine(Qap ad (by omega) (a4.types ad (fun y hy=>?_) (fun k hk e=>?_)) hL (fun k hk=>Zl (HA.out k hk) aq.out.size) (H8.out.below b9)).mono (fun e w' hd=>hd.after aq.out)
  ·obtain⟨t,ht,rfl⟩:=List.mem_map.1 hy
   exact QlD (Qjh al.out) ((Q7 ak.out).2 t ht)
  ·have h1:=HA.out k e;have h2:=r.out.size;omega
 clear a4 bk b9 CR ak al a6 bg H8 r E3;go_wp2_with fail
 refine CM.out.mono ?_;rintro e' bp hd;have FF:=Qb hd;rcases hd with ⟨h1,rfl,h3⟩|⟨h1,rfl,h3⟩
 rotate_left
 ·exact⟨Z,FF.out⟩
 clear h1 h3 CM;go_wp2
 exact Xz (v:=.tuple #[]) (by simp[results,results249,go_sem]) Z FF.out
def passC (H:List Bool) (kept:Int) (l:List Int) (asked:Int):Int:=if (l.length:Int)=asked then Qt (Qft kept.toNat l) (hPass H [] l) else 2
theorem QkD (a:k<n) (h:l.getD k 0≠(k:Int)):Qft n l=11:=by
 unfold Qft;rw[Xr]
 intro e;rw[Xe] at e
 have:=e k (List.mem_range.2 a)
 exact h (by simpa using this)
theorem QjY (h:∀ k,k<n->l.getD k 0=(k:Int)):Qft n l=0:=by
 unfold Qft;rw[Xs]
 rw[Xe]
 intro k a;exact Xt (h k (List.mem_range.1 a))
theorem Qeu {s:JSt}(a:Int) (hN:l.length=N) (R:N<=100000) (hl:intsL.In w Q l [.slice p N c]) (G:0<=s.f.regs) (D:s.f.regs<=a) (h:SAt w b O A s) :
 Calls prog 275 #[Pv b 0,.slice p N c,Iv a] w fun e w'=>ZP (passC s.H s.f.regs l a) VNone e/\Below w.heap.size w w':=by
 have HL:=Qb hl;have K:=Qb hN;obtain⟨pm,cm,hh,a1,c1,a2,c2,a3,c3,aL,cL,U⟩:=h.read
 obtain⟨-,q1,q2,-⟩:=U.cells
 have HH:=Qb U.held;clear h hl hN U;by_cases n:(N:Int)=a
 rotate_left
 ·have t:((N:Int)==a)=false:=by simpa using n
  have E:Hid (passC s.H s.f.regs l a=2):=by show _=_;unfold passC;rw[K.out,Xr n]
  go_enter func275,ntmps275
  go_wp2_with fail
  refine(Q9 _ 2).mono ?_
  rintro q w' ⟨rfl,d⟩;subst d;exact⟨Z,ZP.bad E.out (by decide),Zr⟩
 subst n;have t:((N:Int)==(N:Int))=true:=by simp
 obtain⟨M,W⟩:∃ M:Nat,s.f.regs=(M:Int):=Xc G
 have E:Hid (passC s.H s.f.regs l N=Qt (Qft M l) (hPass s.H [] l)):=by show _=_;unfold passC;rw[K.out,Xs Z,W];rfl
 rw[W] at q2 D
 have ac:M<=N:=by omega
 have S:Hid (passC s.H s.f.regs l N=passC s.H s.f.regs l N):=rfl;clear G D S;generalize passC s.H s.f.regs l N=pc at E |-;clear W;go_enter func275,ntmps275
 go_wp2_with (go_at_call 268;refine(Zd _ _).mono ?_;rintro q w' ⟨rfl,d⟩;have d:=d.symm;subst d)
 go_loop [18] (fun i=>∃ k:Nat,k<=M/\i=Iv k/\∀ j,j<k->l.getD j 0=(j:Int)) (fun i=>M - (intOf i).toNat)
 case atStart=>exact⟨0,Xb _,Z,fun j hj=>by omega⟩
 case round =>
  obtain⟨k,hk,rfl,hz⟩:=hrel
  have P:=Qb hz;clear hz;by_cases r:k<M
  ·have I:(k:Int)<M:=by omega
   have aa:(k:Int)<N:=by omega
   have x:k<l.length:=by rw[K.out];omega
   obtain⟨g,o,rfl,-,hg,F⟩:=ZJ HL.out x
   clear x;by_cases m:l.getD k 0=(k:Int)
   ·have HY:=Qb m;rw[m] at F
    have ab:((k:Int)==(k:Int))=true:=by simp
    clear m;go_wp2_with (go_at_call 268;refine(Zd _ _).mono ?_;rintro q w' ⟨rfl,d⟩;have d:=d.symm;subst d)
    go_round
    case rel =>
     refine⟨k+1,r,by go_num,fun j hj=>?_⟩
     rcases Nat.lt_or_ge j k with h | h
     ·exact P.out j h
     ·have:j=k:=by omega
      subst this;exact HY.out
    case measure=>simp[intOf];omega
   ·have u:Hid (pc=11):=by show _=_;rw[E.out,QkD r m];rfl
    have X:(l.getD k 0==(k:Int))=false:=by simpa using m
    generalize l.getD k 0=y at F m X;clear m;go_wp2_with fail
    refine(Q9 _ 11).mono ?_
    rintro q w' ⟨rfl,d⟩;subst d;exact⟨Z,ZP.bad u.out (by decide),Zr⟩
  ·have I:¬ (k:Int)<M:=by omega
   have T:k=M:=by omega
   have u:Hid (pc=hPass s.H [] l):=by show _=_;rw[E.out,QjY (fun j hj=>P.out j (by omega))];rfl
   have C:=Qb (Qif K.out R HL.out HH.out);generalize hPass s.H [] l=J at u C;clear P T;by_cases z:J=0
   ·have L:(J==0)=true:=by simpa using z
    subst z;go_wp2_with (first | (go_at_call 286;refine(C.out).mono ?_;rintro q w2 ⟨rfl,B⟩;have V:=Qb B;clear B) | (go_at_call 268;refine(Zd _ _).mono ?_;rintro q w' ⟨rfl,d⟩;have d:=d.symm;subst d))
    exact Xz (v:=.tuple #[]) (by simp[results,results275,go_sem]) Z ⟨ZP.good u.out Z,V.out⟩
   ·have L:(J==0)=false:=by simpa using z
    have H0:=Qb z;clear z;go_wp2_with (go_at_call 286;refine(C.out).mono ?_;rintro q w2 ⟨rfl,B⟩;have V:=Qb B;clear B)
    refine(Q9 _ J).mono ?_
    rintro q w' ⟨rfl,d⟩;subst d;exact⟨Z,ZP.bad u.out H0.out,V.out⟩
theorem Qgz {s:JSt}{regs:List Int}{r:Int}(f:∀ x∈regs,hHas s.H x=true) (g:(regs.length:Int)=r){t:TT 6}(e:t.check r=0):t.ren regs.length (fun i=>regs.getD i 0)=some (Qao regs t):=by
 obtain⟨u,c,-⟩:=Qi1 (m:=regs.length) (too:=fun i=>regs.getD i 0) (a:=r) (b:=s.H.length) (by omega) (fun i d=>Z3 (f (regs.getD i 0) (by simp[List.getD,d]))) e
 unfold Qao;rw[c]
 rfl
theorem QdP {s:JSt}{regs:List Int}{b f:List (TT 6)}(a:f.length=b.length) (h:∀ (i:Nat) t u,b[i]?=some t->f[i]?=some u->t.ren regs.length (fun i=>regs.getD i 0)=some u):s.handC l f=s.args l b regs:=by
 unfold JSt.handC JSt.args;rw[a]
 by_cases c:l.length=b.length
 ·rw[Xs c,Xs c]
  refine QaZ (by rw[List.length_zip,List.length_zip,a]) (fun i p q j g=>?_);rw[List.getElem?_zip_eq_some] at j g
  obtain⟨o,m⟩:=j
  obtain⟨d,n⟩:=g
  rw[o] at d
  injection d with d
  have k:=h i q.2 p.2 n m;show s.beC p.1 p.2=s.arg regs q.1 q.2;unfold JSt.beC JSt.arg;rw[<-d]
  cases s.at p.1 with
  | none=>rfl
  | some u =>
    show (if Qam (u=p.2) then (0:Int) else 9)=if Qam (q.2.ren regs.length (fun i=>regs.getD i 0)=some u) then 0 else 9
    rw[k]
    have:Qam (u=p.2)=Qam (some p.2=some u):=Qf3 (by rw[Qbb];exact⟨fun e=>by rw[e],fun e=>(Xn e).symm⟩)
    rw[this]
 ·rw[Xr c,Xr c]
theorem Qff {s:JSt}{regs:List Int}{b:List (TT 6)}(h:∀ t∈b,t.ren regs.length (fun i=>regs.getD i 0)=some (Qao regs t)):s.handC l (b.map (Qao regs))=s.args l b regs :=
 QdP (by rw[XN]) (fun i t u c a=>by
  rw[XS,c] at a
  injection a with a
  rw[<-a]
  exact h t (Zm c))
theorem Qgu {m:Nat}{too:Nat->Int}{a:Int}(g:a<=m) (c:∀ i,i<m->too i=(i:Int)):{n:Nat}->{t:TT n}->t.fault a=0->t.ren m too=some t
 | 0,t,_=>Empty.elim t
 | n+1,t,h=>by
   obtain⟨b,e⟩:=TT.fault_zero h
   have d:Qay m too t.1 t.2.1=some t.2.1:=by
    unfold ownC at b;split at b
    ·cases b
    split at b
    ·cases b
    split at b
    ·cases b
    split at b
    ·cases b
    split at b
    ·cases b
    rename_i u r v s q
    by_cases j:t.1=1
    ·rw[Qay,Xs j]
    ·have:=c t.2.1.toNat (by omega)
     rw[Qay,Xr j,Xr (by omega),Xr (by omega),this]
     congr 1
     omega
   have p:QbW (TT.ren m too) t.2.2=some t.2.2:=by
    generalize t.2.2=l at e
    induction l with
    | nil=>rfl
    | cons x xs ih =>
      have o:=Qgu g c (e x (by simp));have f:=ih (fun y k=>e y (by simp[k]));simp[QbW,o,f]
   simp only[TT.ren,d,p]
   rfl
theorem Qe3 {H:List Bool}:∀ {rest ahead:List Int},hPass H ahead rest=0->∀ x∈rest,hHas H x=true
 | [],ahead,h,x,a=>by cases a
 | r::rest,ahead,h,x,a=>by
   simp only[hPass] at h
   split at h
   ·rename_i b
    split at h
    ·cases h
    ·rcases List.mem_cons.1 a with rfl | a
     ·exact b
     ·exact Qe3 h x a
   ·cases h
theorem Qnf {s:JSt}{g:MBlock 6}{a xs:List Int}(e:s.f.blocks[k]?=some g) (i:∀ t∈g.params,t.check g.regs=0):s.to ⟨(k:Int),a,xs⟩=Qt (passC s.H s.f.regs a g.regs) (s.handC xs (g.params.map (Qao a))):=by
 unfold JSt.to passC;simp only[Int.toNat_natCast,e]
 by_cases c:(a.length:Int)=g.regs
 ·rw[Xs c,Xs c]
  by_cases d:Qft s.f.regs.toNat a=0
  ·rw[Qw d,Qw d]
   by_cases b:hPass s.H [] a=0
   ·rw[Qw b,Qw b,Qff (fun t h=>Qgz (s:=s) (Qe3 b) c (i t h))]
   ·rw[Qr b,Qr b]
  ·rw[Qr d,Qr d];rw[Qr d]
 ·rw[Xr c,Xr c];rfl
theorem QmJ {s:JSt}(hn:s.f.regs=(n:Int)) (e:∀ t∈s.f.results,t.check s.f.regs=0):s.handC l s.f.results=s.args l s.f.results (Qmz s.f.regs.toNat) :=
 QdP Z (fun i t u d b=>by
  rw[d] at b
  injection b with b
  rw[<-b,hn,XT]
  have:=e t (Zm d)
  refine Qgu (a:=s.f.regs) (by rw[hn];unfold Qmz;simp) (fun i c=>?_) (Q0.1 this).2;unfold Qmz at c |-;simp at c
  simp[List.getD,c])
theorem Qks {s:JSt}{x:Qv}{J:Option Addr}(hA:∀ k,A k->k<w.heap.size) (T:JOk s) (h:SAt w b O A s) (o:intsL.In w Q x.regs [.slice J x.regs.length rc]) (n:intsL.In w Q x.args [.slice ag x.args.length ac]) (z:x.regs.length<=rc) (C:ZM x) (hf:x.form s.m.length=0) (q:x.op=14) :
 Calls prog 212 #[Pv b 0,Qel x J ag rc ac] w fun e w'=>QU w b O A s (s.next x) (s.goC x) e w':=by
 have hE:=Qd6 (s:=s) q;obtain⟨op,f,j,d,p,i,a,c⟩:=x
 have q:op=14:=q;subst q;have HE:=Qb hE;obtain⟨f1,f2,f3,-⟩:=Q5 hf
 have F:=Qb (Xh f1 (Xh f2 f3));obtain⟨V,rb,E⟩:=C
 have HI:=Qb (Xh V (Xh rb E));have hL:=T.vals;have B:=Qb (QgA hA T h o n z #[Iv 14,Iv f,Iv j,Iv d,Iv p,Iv i,.slice J a.length rc,.slice ag c.length ac]);clear h hA T o n hE hf f1 f2 f3 V rb E z;go_enter func212,ntmps212
 go_upto_region 1 with fail
 generalize w.alloc (.cells #[Iv 14,Iv f,Iv j,Iv d,Iv p,Iv i,.slice J a.length rc,.slice ag c.length ac] 78)=w1 at B |-;generalize w.heap.size=X at B |-;obtain⟨HJ,H0,aa,H,HR,HG,HB,HA,HO,W,M⟩:=B.out
 clear B;obtain⟨x0,x1,x2,x3,x4,-,x6,x7⟩:=Q3 W.out
 have N:Hid (∀ e D,QU w b O A s (s.callS ⟨14,f,j,d,p,i,a,c⟩) (s.callC ⟨14,f,j,d,p,i,a,c⟩) e D->QU w b O A s (s.next ⟨14,f,j,d,p,i,a,c⟩) (s.goC ⟨14,f,j,d,p,i,a,c⟩) e D):=fun e D I=>(by
  have hk:=F.out.2.1 Z;obtain⟨k,u⟩:=Xc hk.1
  have u:p=(k:Int):=u;subst u;have K:k<s.m.length:=by have:=hk.2.1;omega
  have l:s.m[k]?=some s.m[k]:=Zg K;generalize s.m[k]=g at l;have P:g∈s.m:=Zm l;have S:=HJ.out.mod.2 g P;have e1:s.callC ⟨14,f,j,d,(k:Int),i,a,c⟩=Qt (QbZ s.H a g.regs) (Qt (s.handC c (g.params.map (Qao a))) (Q4 s.L.length g.results.length)):=by unfold JSt.callC;simp only[Int.toNat_natCast,l]
  have U:s.makes ⟨14,f,j,d,(k:Int),i,a,c⟩=if (a.length:Int)=g.regs then (Qt (QX s.H [] a) (s.args c g.params a),g.results.map (Qao a)) else (2,[]):=by rw[HE.out];simp only[Int.toNat_natCast,l]
  have R:s.goC ⟨14,f,j,d,(k:Int),i,a,c⟩=s.callC ⟨14,f,j,d,(k:Int),i,a,c⟩:=by
   rw[e1]
   unfold JSt.goC QbZ;rw[U]
   by_cases r:(a.length:Int)=g.regs
   ·rw[Xs r,Xs r]
    by_cases y:QX s.H [] a=0
    ·rw[Qff (fun t ht=>Qgz (s:=s) (QaB y) r (S.params.2 t ht)),Qw y,XN,Qw y]
    ·rw[Qr y,Qr y,Qr y]
   ·rw[Xr r,Xr r];rfl
  refine I.to R (fun G=>?_);rw[QZ (by simp) (by simp),U]
  unfold JSt.callS;simp only[Int.toNat_natCast,l]
  rw[e1] at G
  unfold QbZ at G;by_cases r:(a.length:Int)=g.regs
  ·rw[Xs r]
  ·rw[Xr r] at G;cases G)
 have CM:=Qb (QhV (x:=⟨14,f,j,d,p,i,a,c⟩) HA.out HJ.out H.out HR.out HG.out M.out (F.out.2.1 Z).2.2.1 (F.out.2.1 Z).2.2.2 ⟨(F.out.2.1 Z).1,(F.out.2.1 Z).2.1⟩);have x5:=Qa W.out 5 _ Z;go_wp2_with fail
 refine CM.out.mono ?_;rintro e' D I;have FF:Hid (QU w b O A s (s.next ⟨14,f,j,d,p,i,a,c⟩) (s.goC ⟨14,f,j,d,p,i,a,c⟩) e' D):=N.out _ _ (I.after HB.out);rcases I with ⟨h1,rfl,h3⟩|⟨h1,rfl,h3⟩
 rotate_left
 ·exact⟨Z,FF.out⟩
 clear h1 h3 CM;go_wp2
 exact Xz (v:=.tuple #[]) (by simp[results,results212,go_sem]) Z FF.out
theorem QlV {s:JSt}{x:Qv}{rg:Option Addr}(hA:∀ k,A k->k<w.heap.size) (hJ:JOk s) (h:SAt w b O A s) (i:intsL.In w Q x.regs [.slice rg x.regs.length rc]) (f:intsL.In w Q x.args [.slice ag x.args.length ac]) (M:x.regs.length<=rc) (T:ZM x) (hf:x.form s.m.length=0) (n:x.op=6) :
 Calls prog 212 #[Pv b 0,Qel x rg ag rc ac] w fun e w'=>QU w b O A s (s.next x) (s.goC x) e w':=by
 have hE:=QeY (s:=s) n;obtain⟨op,a,q,z,xk,o,D,E⟩:=x
 have n:op=6:=n;subst n;have HE:=Qb hE;obtain⟨f1,f2,f3,-⟩:=Q5 hf
 have HF:=Qb (Xh f1 (Xh f2 f3));obtain⟨ra,rb,S⟩:=T
 have HI:=Qb (Xh ra (Xh rb S));have hL:=hJ.vals;have B:=Qb (QgA hA hJ h i f M #[Iv 6,Iv a,Iv q,Iv z,Iv xk,Iv o,.slice rg D.length rc,.slice ag E.length ac]);clear h hA hJ i f hE hf f1 f2 f3 ra rb S M;go_enter func212,ntmps212
 go_upto_region 1 with fail
 generalize w.alloc (.cells #[Iv 6,Iv a,Iv q,Iv z,Iv xk,Iv o,.slice rg D.length rc,.slice ag E.length ac] 78)=w1 at B |-;generalize w.heap.size=X at B |-;obtain⟨HJ,H0,ak,H,HR,HG,HB,HA,HO,X1,ai⟩:=B.out
 clear B;obtain⟨x0,x1,x2,x3,x4,-,x6,x7⟩:=Q3 X1.out
 obtain⟨k,I⟩:=Xc (HF.out.1 (by simp)).1
 have I:xk=(k:Int):=I;subst I;have aj:k<=7:=by have:=(HF.out.1 (by simp)).2;simp only at this;omega
 have EG:Hid (s.goC ⟨6,a,q,z,(k:Int),o,D,E⟩=Qt (s.fieldC a k) (Q4 s.L.length 1)):=by
  show _=_;unfold JSt.goC JSt.fieldC;rw[HE.out]
  simp only[Int.toNat_natCast]
  cases J:s.at a with
  | none=>unfold JSt.want;rw[J];rfl
  | some t =>
    simp only
    by_cases y:s.want a 3 true=0
    ·rw[Xs y,Qw y]
     by_cases j:k<t.2.2.length
     ·rw[Zg j,Xs j];rfl
     ·rw[Xk (by omega),Xr j];rfl
    ·rw[Xr y,Qr y];rw[Qr y,Qr y]
 have C1:=Qb (QdT a k (by omega) hL HO.out H.out);go_wp2_with fail
 refine(C1.out ).mono ?_
 rintro e' w2 ⟨hq,U⟩;have W:=Qb (HB.out.trans (U.mono HB.out.size));have H2:=Qb (H.out.below U);have P:=Qb (fun k j=>Zl (HA.out k j) U.size);have ah:=Qb (fun k j=>Zl (HO.out k j) U.size);rcases hq with ⟨G,y2,rfl,hy⟩|⟨G,rfl⟩
 rotate_left
 ·exact⟨Z,QU.bad ((fun G=>by rw[EG.out,Qr G]) G) G (Yh H0.out W.out)⟩
 have R:=Qb G;clear G U C1;obtain⟨t,u,p,c,J,hu,rfl,N⟩:=hy
 have af:=TT.height_lt u;have h5:u.height<=5:=by omega
 have aa:t.check s.H.length=0:=HJ.out.types t (QdE J).1
 have C:u.ok:=by
  obtain⟨pm,cm,hh,a1,c1,a2,c2,a3,c3,aL,cL,RR⟩:=H0.out.read
  obtain⟨-,hn,-,ae⟩:=QdE J
  obtain⟨g,a',c',e,-,-,-,-,ad⟩:=RR.row _ t ae
  exact ad.2 u (Zm hu)
 have HS:Hid (s.next ⟨6,a,q,z,(k:Int),o,D,E⟩={ s with L:=s.L++[u.at 5] }):=by
  show _=_;rw[QZ (by simp) (by simp),HE.out]
  have y:s.want a 3 true=0:=by
   have:=R.out
   unfold JSt.fieldC at this;exact(Qba this).1
  simp only[Int.toNat_natCast,J,if_pos y,hu]
 have ab:Hid (∀ e V,QU w b O A s { s with L:=s.L++[u.at 5] } (Q4 s.L.length 1) e V->QU w b O A s (s.next ⟨6,a,q,z,(k:Int),o,D,E⟩) (s.goC ⟨6,a,q,z,(k:Int),o,D,E⟩) e V):=fun e V K=>K.to (by rw[EG.out,Qw R.out]) (fun _=>HS.out)
 have CM:Hid (∀ d,Calls prog 244 #[Pv b 0,.slice (some ⟨w2.heap.size,0,none⟩) 1 d] (w2.alloc (.cells #[Iv u.kind,Iv u.r,.slice p u.len c] 105)) fun e w'=>QU w2 b O A s { s with L:=s.L++[u.at 5] } (Q4 s.L.length 1) e w'):=fun d=>by
  have b1:=ZO w2 (.cells #[Iv u.kind,Iv u.r,.slice p u.len c] 105);have F:=Qet (t:=u.at 5) (p:=p) (c:=c) (d:=d) P.out (TIn.at 5 h5 N) (TT.at_ok 5 C);rw[TT.at_kind,TT.at_r,TT.at_len 5 _ h5] at F
  exact(Qap (l:=[u.at 5]) Z (by simp) F hL (fun k j=>Zl (P.out k j) b1.size) (H2.out.below b1)).mono (fun e w' K=>K.after b1)
 clear J hu N af h5 aa C HS EG;simp only[Tv]
 go_wp2_with fail
 refine(CM.out _).mono ?_
 rintro e' V K;have FF:Hid (QU w b O A s (s.next ⟨6,a,q,z,(k:Int),o,D,E⟩) (s.goC ⟨6,a,q,z,(k:Int),o,D,E⟩) e' V):=ab.out _ _ (K.after W.out);rcases K with ⟨h1,rfl,h3⟩|⟨h1,rfl,h3⟩
 rotate_left
 ·exact⟨Z,FF.out⟩
 clear h1 h3 CM;go_wp2
 exact Xz (v:=.tuple #[]) (by simp[results,results212,go_sem]) Z FF.out
theorem Qls {s:JSt}{x:Qv}{V:Option Addr}(hA:∀ k,A k->k<w.heap.size) (hJ:JOk s) (h:SAt w b O A s) (j:intsL.In w Q x.regs [.slice V x.regs.length rc]) (i:intsL.In w Q x.args [.slice ag x.args.length ac]) (M:x.regs.length<=rc) (R:ZM x) (hf:x.form s.m.length=0) (n:x.op=7) :
 Calls prog 212 #[Pv b 0,Qel x V ag rc ac] w fun e w'=>QU w b O A s (s.next x) (s.goC x) e w':=by
 have hE:=Qfq (s:=s) n;obtain⟨op,a,f,D,xk,q,G,I⟩:=x
 have n:op=7:=n;subst n;have HE:=Qb hE;obtain⟨f1,f2,f3,-⟩:=Q5 hf
 have HF:=Qb (Xh f1 (Xh f2 f3));obtain⟨ra,rb,P⟩:=R
 have HI:=Qb (Xh ra (Xh rb P));have hL:=hJ.vals;have B:=Qb (QgA hA hJ h j i M #[Iv 7,Iv a,Iv f,Iv D,Iv xk,Iv q,.slice V G.length rc,.slice ag I.length ac]);clear h hA hJ j i hE hf f1 f2 f3 ra rb P M;go_enter func212,ntmps212
 go_upto_region 1 with fail
 generalize w.alloc (.cells #[Iv 7,Iv a,Iv f,Iv D,Iv xk,Iv q,.slice V G.length rc,.slice ag I.length ac] 78)=K at B |-;generalize w.heap.size=X at B |-;obtain⟨HJ,H0,aj,H,HR,HG,HB,HA,HO,X1,af⟩:=B.out
 clear B;obtain⟨x0,x1,x2,x3,x4,-,x6,x7⟩:=Q3 X1.out
 obtain⟨k,E⟩:=Xc (HF.out.1 (by simp)).1
 have E:xk=(k:Int):=E;subst E;have ah:k<=7:=by have:=(HF.out.1 (by simp)).2;simp only at this;omega
 have EG:Hid (s.fieldC a k≠0->s.goC ⟨7,a,f,D,(k:Int),q,G,I⟩=s.fieldC a k):=fun d=>by
  unfold JSt.goC;rw[HE.out]
  unfold JSt.fieldC at d |-;simp only[Int.toNat_natCast]
  cases y:s.at a with
  | none=>unfold JSt.want;rw[y];rfl
  | some t =>
    rw[y] at d
    simp only at d |-
    by_cases C:s.want a 3 true=0
    ·rw[Qw C] at d |-
     rw[Xs C]
     by_cases U:k<t.2.2.length
     ·rw[Xs U] at d;exact absurd Z d
     ·rw[Xk (by omega),Xr U];rfl
    ·rw[Xr C,Qr C,Qr C]
 have ae:Hid (∀ t u,s.fieldC a k=0->s.at a=some t->t.2.2[k]?=some u->s.goC ⟨7,a,f,D,(k:Int),q,G,I⟩=s.beC f (u.at 5)/\s.next ⟨7,a,f,D,(k:Int),q,G,I⟩=s):=fun t u h0 y J=>by
  have C:s.want a 3 true=0:=by
   unfold JSt.fieldC at h0;exact(Qba h0).1
  rw[QZ (by simp) (by simp)]
  unfold JSt.goC JSt.beC;rw[HE.out]
  simp only[Int.toNat_natCast,y,if_pos C,J]
  cases s.at f with
  | none=>exact⟨Z,by simp⟩
  | some v =>
    simp only
    have e:Qam (u.at 5=v)=Qam (v=u.at 5):=Qf3 (by rw[Qbb];exact⟨fun e=>e.symm,fun e=>e.symm⟩);rw[e]
    cases Qam (v=u.at 5) with
    | true=>exact⟨by show Qt 0 (Q4 s.L.length 0)=_;rw[QbI hL];rfl,by simp⟩
    | false=>exact⟨Z,by simp⟩
 have ad:Hid (∀ t∈s.L,t.count<=100000):=fun t ht=>Zt (Z7 (HJ.out.types t ht)) (by omega);go_upto_region 17 with fail
 have BD:Hid (Below K.heap.size K K.drew):=QcR Zr;have C1:Hid (Calls prog 245 #[Pv b 0,Iv a,Iv k] K.drew fun e w'=>ZP (s.fieldC a k) (QnU w' A s a k) e/\Below K.drew.heap.size K.drew w'):=QdT a k (by omega) hL HO.out (H.out.below BD.out)
 have DM:Hid (∀ (u:TT 5) (p:Option Addr) (c:Nat) (o:World),TIn o (fun g=>¬ A g) u p->SAt o b O A s->(∀ k,O k->k<o.heap.size)->Calls prog 246 #[Pv b 0,Iv f,.agg #[Iv u.kind,Iv u.r,.slice p u.len c]] o fun e w'=>ZP (s.beC f (u.at 5)) VNone e/\Below o.heap.size o w'):=fun u p c o J hs ho=>by
  have h5:u.height<=5:=by have:=TT.height_lt u;omega
  have:=QcV (s:=s) f (t:=u.at 5) (p:=p) (c:=c) (TIn.at 5 h5 J) hL ad.out ho hs
  rw[show Tv (u.at 5) p c=.agg #[Iv u.kind,Iv u.r,.slice p u.len c] by simp only[Tv,TT.at_kind,TT.at_r,TT.at_len 5 _ h5]] at this
  exact this
 go_region_with (first
  | (go_at_call 245;refine(C1.out).mono ?_;rintro e' w2 ⟨W,S⟩;have F:=Qb (HB.out.trans ((ZA S).mono HB.out.size));rcases W with ⟨l,y2,rfl,t,u,p,c,y,J,rfl,N⟩|⟨l,rfl⟩;rotate_left;exact⟨Z,QU.bad (EG.out l) l (Yh H0.out F.out)⟩;have ai:=Qo x2 (ZA S);have H2:=Qb (H.out.below (ZA S));have aa:=Qb (fun k U=>Zl (HO.out k U) (ZA S).size);have HU:=Qb N;have z:=Qb (ae.out t u l y J);clear N y J l S)
  | (go_at_call 246;refine(DM.out _ _ _ _ HU.out H2.out aa.out).mono ?_;rintro e' w3 ⟨W,b3⟩;have T:=Qb (F.out.trans (b3.mono F.out.size));rcases W with ⟨l,y3,rfl,hy⟩|⟨l,rfl⟩;rotate_left;exact⟨Z,QU.bad z.out.1 l (Yh H0.out T.out)⟩;subst hy;have ab:=Qb l;clear l b3))
 all_goals
  have FF:Hid (QU w b O A s (s.next ⟨7,a,f,D,(k:Int),q,G,I⟩) (s.goC ⟨7,a,f,D,(k:Int),q,G,I⟩) (.returned (.tuple #[])) w3):=QU.none H0.out T.out (by rw[z.out.1,ab.out]) z.out.2;go_wp2
  exact Xz (v:=.tuple #[]) (by simp[results,results212,go_sem]) Z FF.out
def QnY (w6:World) (b X mg mo nb cb k:Nat) (ds:List Value) (t:Tmp) (v:Value) (w:World):Prop :=
 match ([(4,fun v w=>∃ B,v=.pointer (some ⟨B,0,none⟩)/\w6.heap.size<=B/\∃ c,c.size=12/\Blk w B c 86)]:List (Tmp × (Value->World->Prop))).lookup t with
 | some p=>p v w
 | none=>v=(([(0,.pointer (some ⟨b,0,none⟩)),(3,.pointer (some ⟨X,0,none⟩)),(5,.pointer (some ⟨b,0,none⟩)),(6,.pointer (some ⟨b,0,none⟩)),(7,.pointer (some ⟨b,2,none⟩)),(8,.pointer (some ⟨b,5,none⟩)),(9,.slice (some ⟨mg,mo,none⟩) nb cb),(10,.pointer (some ⟨X,0,none⟩)),(11,.int .i64 (k:Int)),(12,.pointer (some ⟨mg,mo+k*12,none⟩)),(13,.agg ds.toArray)]:List (Tmp × Value)).lookup t).getD undef
theorem jt1 {i j u y:Nat}(I:w6.cell? ⟨b,5,none⟩=some (.slice (some ⟨i,j,none⟩) u y)) (C:w6.cell? ⟨X,0,none⟩=some (Iv (k:Int))) (F:Hid (w6.rangeAt i (j+k*12) ds)) (q:ds.length=12) (D:(k:Int)<u){Q:Exit->Act->World->Prop}
 (a:Act) (m:Nat) (hn:a.tmps.size=m) (x:29<=m) (E:a.tmps.getD 0 undef=Pv b 0) (s:a.tmps.getD 3 undef=Pv X 0)
 (hend:∀ ops vs w',vs 13=.agg ds.toArray->(fun v w=>∃ B,v=Pv B 0/\w6.heap.size<=B/\∃ c,c.size=12/\Blk w B c 86) (vs 4) w'->Below w6.heap.size w6 w'->wpList prog ops Q (QaR 10 ((Tryz.f250.body.bind (Qg 1)).getD .skip)) (QI a vs [5,6,7,8,9,10,11,12,13,4]) w') :
 Code.wp prog ((Tryz.f250.body.bind (Qg 1)).getD .skip) Q a w6:=by
 conv=>arg 2;whnf
 refine Qm 10 (QnY w6 b X i j u y k ds) (fun w=>Below w6.heap.size w6 w) (fun w w'=>Below w.heap.size w w') (outs:=[0,3]) (gs:=[]) (bs:=[true,true,true,true,true,true,true,true,true,true]) (by kernel_rfl) (n:=29) hn x (by kernel_rfl) (by kernel_rfl) ?hR ?hG (Qs Zr 1) ⟨E,s,Y⟩ ?hA ?hend
 case hR =>
  intro t v w w' G h;unfold QnY at h |-;split at h
  ·rename_i p l
   simp only[List.lookup_cons,List.lookup_nil] at l
   split at l
   ·cases l;exact(by obtain⟨B,e,H,c,s,z⟩:=h;exact⟨B,e,H,c,s,(G.block B (XC z)).trans z⟩)
   ·cases l
  ·exact h
 case hG=>exact Y
 case hend=>exact fun ops vs w' d f=>hend ops vs w' (f 13 (by kernel_rfl)) (f 4 (by kernel_rfl)) d
 case hA =>
  repeat
   refine⟨fun a w d f K o=>?_,?_⟩
   focus first
    | obtain⟨g,-⟩:=f
      conv at g=>whnf;rhs;whnf
      have J:=Qo I d;have L:=Qo C d;go_simp;exact o _ _ Zr d Z
    | clear f
      go_simp;exact o _ _ (ZO _ _) (d.alloc d.size _) ⟨_,Z,d.size,_,Z,Qf _ _ _⟩
    | obtain⟨g,A,-⟩:=f
      conv at g=>whnf;rhs;whnf
      conv at A=>whnf;rhs;whnf
      go_simp;exact o _ _ Zr d Z
    | obtain⟨g,-⟩:=f
      conv at g=>whnf;rhs;whnf
      obtain⟨M,r⟩:=underBk
      refine wp_load_mid 86 (.tmp 12) Z i (j+k*12) g ds _ (QcU F.out d) r Z (by rw[q];exact sizeBk) ?_;exact o _ _ Zr d Z
  trivial
def QnX (w2:World) (b X C N ac n1 d1 Kn rc:Nat) (ag rg p1:Option Addr) (ps:List (TT 6)) (regs:List Int) (t:Tmp) (v:Value) (w:World):Prop :=
 match ([(27,fun v w=>∃ g,v=.slice (some ⟨g,0,none⟩) n1 n1/\w2.heap.size<=g/\Qcv w g n1 (ps.map (Qao regs)))]:List (Tmp × (Value->World->Prop))).lookup t with
 | some p=>p v w
 | none=>v=(([(0,.pointer (some ⟨b,0,none⟩)),(3,.pointer (some ⟨X,0,none⟩)),(4,.pointer (some ⟨C,0,none⟩)),(20,.pointer (some ⟨b,0,none⟩)),(21,.pointer (some ⟨X,2,none⟩)),(22,.slice ag N ac),(23,.pointer (some ⟨C,1,none⟩)),(24,.slice p1 n1 d1),(25,.pointer (some ⟨X,1,none⟩)),(26,.slice rg Kn rc)]:List (Tmp × Value)).lookup t).getD undef
theorem jt3 {C d B j:Nat}{r l:Option Addr}{i:List (TT 6)}{regs:List Int}{R:Nat->Prop}(W:w2.cell? ⟨X,1,none⟩=some (.slice r j rc)) (F:w2.cell? ⟨X,2,none⟩=some (.slice ag N ac)) (V:w2.cell? ⟨C,1,none⟩=some (.slice l d B)) (O:Hid (regs.length=j)) (o:Hid (i.length=d)) (z:d<=1000) (M:Hid (intsL.In w2 Q regs [.slice r j rc])) (H:Hid (LIn w2 R i l)) (S:Hid (∀ x∈i,x.count<=2000)){Q:Exit->Act->World->Prop}
 (a:Act) (m:Nat) (hn:a.tmps.size=m) (u:29<=m) (G:a.tmps.getD 0 undef=Pv b 0) (U:a.tmps.getD 3 undef=Pv X 0) (I:a.tmps.getD 4 undef=Pv C 0)
 (hend:∀ ops vs w',vs 22=.slice ag N ac->vs 20=Pv b 0->(fun v w=>∃ g,v=.slice (some ⟨g,0,none⟩) d d/\w2.heap.size<=g/\Qcv w g d (i.map (Qao regs))) (vs 27) w'->Below w2.heap.size w2 w'->wpList prog ops Q (QaR 8 ((Tryz.f250.body.bind (Qg 3)).getD .skip)) (QI a vs [20,21,22,23,24,25,26,27]) w') :
 Code.wp prog ((Tryz.f250.body.bind (Qg 3)).getD .skip) Q a w2:=by
 conv=>arg 2;whnf
 refine Qm 8 (QnX w2 b X C N ac d B j rc ag r l i regs) (fun w=>Below w2.heap.size w2 w) (fun w w'=>Below w.heap.size w w') (outs:=[0,3,4]) (gs:=[]) (bs:=[true,true,true,true,true,true,true,true]) (by kernel_rfl) (n:=29) hn u (by kernel_rfl) (by kernel_rfl) ?hR ?hG (Qs Zr 1) ⟨G,U,I,Y⟩ ?hA ?hend
 case hR =>
  intro t v w w' L h;unfold QnX at h |-;split at h
  ·rename_i p k
   simp only[List.lookup_cons,List.lookup_nil] at k
   split at k
   ·cases k;exact(by obtain⟨g,e,T,P⟩:=h;exact⟨g,e,T,P.below L⟩)
   ·cases k
  ·exact h
 case hG=>exact Y
 case hend=>exact fun ops vs w' c f=>hend ops vs w' (f 22 (by kernel_rfl)) (f 20 (by kernel_rfl)) (f 27 (by kernel_rfl)) c
 case hA =>
  iterate 7
   refine⟨fun a w c f K s=>?_,?_⟩
   ·obtain⟨y,-⟩:=f
    conv at y=>whnf;rhs;whnf
    have u0:=Qo F c;have u1:=Qo V c;have u2:=Qo W c;go_simp;exact s _ _ Zr c Z
  refine⟨fun a w c f K s=>?_,?_⟩
  ·obtain⟨y,E,-⟩:=f
   conv at y=>whnf;rhs;whnf
   conv at E=>whnf;rhs;whnf
   go_simp;refine Xm (QaU O.out o.out z (Ya M.out c) (H.out.below c) S.out) ?_;rintro r7 w7 ⟨J,rfl,A,q,D⟩;go_simp;exact s _ _ D (c.trans (D.mono c.size)) ⟨J,Z,Zt c.size A,q⟩
  trivial
theorem Qb9 {s:JSt}{x:MTo}{F:Option Addr}(hJ:JOk s) (hO:∀ k,O k->k<w.heap.size) (h:SAt w b O A s) (n:intsL.In w Q x.regs [.slice F x.regs.length rc]) (l:intsL.In w Q x.args [.slice ag x.args.length ac]) (ad:x.regs.length<=16) (az:x.args.length<=8) (ao:0<=x.block/\x.block<s.f.blocks.length) :
 Calls prog 250 #[Pv b 0,toV x F ag rc ac] w fun e w'=>ZP (s.to x) VNone e/\Below w.heap.size w w':=by
 have HJ:=Qb hJ;have HO:=Qb hO;have hL:=hJ.vals;obtain⟨xb,c,d⟩:=x
 simp only at n l ad az ao
 obtain⟨k,rfl⟩:=Xc ao.1
 have a6:k<s.f.blocks.length:=by omega
 have D:s.f.blocks[k]?=some s.f.blocks[k]:=Zg a6;generalize s.f.blocks[k]=g at D;have b1:=ZO w (.cells #[Iv (k:Int),.slice F c.length rc,.slice ag d.length ac] 82);have aa:=Qf w #[Iv (k:Int),.slice F c.length rc,.slice ag d.length ac] 82;have K1:=Qb (h.below b1);have ap:Hid (intsL.In (w.alloc (.cells #[Iv (k:Int),.slice F c.length rc,.slice ag d.length ac] 82)) Q c [.slice F c.length rc]):=Ya n b1;have ak:Hid (intsL.In (w.alloc (.cells #[Iv (k:Int),.slice F c.length rc,.slice ag d.length ac] 82)) Q d [.slice ag d.length ac]):=Ya l b1;have T:=Qb b1;have q:=Qb aa;clear h n l b1 aa hJ hO;go_enter func250,ntmps250
 go_upto_region 1 with fail
 obtain⟨X,hX⟩:∃ X,w.heap.size=X:=⟨_,Z⟩
 generalize bl:w.alloc (.cells #[Iv (k:Int),.slice F c.length rc,.slice ag d.length ac] 82)=w1 at K1 ap ak T q |-;rw[hX] at q
 rw[hX]
 clear bl hX;have x0:=Qa q.out 0 _ Z;have x1:=Qa q.out 1 _ Z;have x2:=Qa q.out 2 _ Z;obtain⟨pm,cm,hh,a1,c1,a2,c2,a3,c3,aL,cL,R⟩:=K1.out.read
 obtain⟨-,-,-,-,-,q5,-⟩:=R.cells
 obtain⟨fa,fc,fb,fd,fe,ff,av,-,-,bf,-⟩:=QaY R.fn
 simp only[List.cons.injEq,Value.slice.injEq,and_true,true_and] at av
 obtain⟨-,-,rfl,rfl⟩:=av
 obtain⟨mg,mo,i,m,r,rfl,o,bd,ae,af⟩:=QfY bf D
 have be:=Qb o;have aq:Hid ((Qx 6).In w1 (fun g=>¬ A g) g.params [.slice i g.params.length m]):=ae;have ar:Hid (r.length=10):=bd;have ah:=Qb af;have bj:(k:Int)<s.f.blocks.length:=by omega
 have bi:=Qb (HJ.out.mod.2 s.f HJ.out.fn);have bk:Hid (g∈s.f.blocks):=Zm D;have K:=Qb (bi.out.blocks g bk.out);have a0:Hid (¬ MBlock.great g):=fun hg=>HJ.out.tiny (.inr ⟨s.f,HJ.out.fn,.inr (.inr (.inr ⟨g,bk.out,hg⟩))⟩);have bt:Hid (∀ t∈g.params,t.count<=2000):=fun t ht=>Xo fun bq=>a0.out (.inr (.inl (.inr ⟨t,ht,bq⟩)));have br:Hid (∀ t∈s.L,t.count<=100000):=fun t ht=>Zt (Z7 (HJ.out.types t ht)) (by omega);have E:Hid (s.to ⟨(k:Int),c,d⟩=Qt (passC s.H s.f.regs c g.regs) (s.handC d (g.params.map (Qao c)))):=Qnf D K.out.params.2;clear R bf o ae af bd D ao;generalize bw:s.f.blocks.length=nb at q5 a6 bj;refine jt1 q5 x0 be (by simp[ar.out]) bj _ _ Z (Xg (by kernel_rfl)) Z Z ?_;rintro bn vs p ai ⟨B,ax,hB,cB,a8,G⟩ b5;show wpList _ bn _ [_] (QI _ vs [5,6,7,8,9,10,11,12,13,4]) p;simp only[QI,Act.put,List.setIfInBounds_toArray,List.set_cons_zero,List.set_cons_succ,ai,ax]
 have a:(Value.int .i64 g.regs::Value.slice i g.params.length m::r).length=12:=by simp[ar.out]
 have TH:Hid (p.there B 0 (Value.int .i64 g.regs::Value.slice i g.params.length m::r).toArray.size):=by
  intro j hj;rw[List.size_toArray,a] at hj
  rw[XK]
  refine⟨?_,Qe G j⟩
  rw[Qa G j cB[j] (by simp)];rfl
 have TS:Hid ((prog.info? 86).map (·.size)=some (Value.int .i64 g.regs::Value.slice i g.params.length m::r).toArray.size):=by show _=_;rw[List.size_toArray,a];exact sizeBk
 have TO:Hid ((Value.int .i64 g.regs::Value.slice i g.params.length m::r).toArray.all (·.oneCell')=true):=by
  refine all_oneCell_toArray fun v hv=>?_;simp only[List.mem_cons] at hv
  rcases hv with rfl | rfl | hv
  ·rfl
  ·rfl
  ·exact ah.out v hv
 have B6:Hid (Blk (p.setCells B 0 (Value.int .i64 g.regs::Value.slice i g.params.length m::r).toArray.toList) B (Value.int .i64 g.regs::Value.slice i g.params.length m::r).toArray 86):=by
  have h0:Blk p B ([]++cB.toList).toArray 86:=by rw[List.nil_append,Array.toArray_toList];exact G
  have:=Blk.sets (Value.int .i64 g.regs::Value.slice i g.params.length m::r) [] cB.toList p (by rw[a];simp[a8]) h0
  exact this
 have C:Hid (Below w1.heap.size w1 (p.setCells B 0 (Value.int .i64 g.regs::Value.slice i g.params.length m::r).toArray.toList)):=by
  have:=QE.setCells (O:=fun k=>k=B) (O':=fun k=>k=B) (b:=B) Z (Value.int .i64 g.regs::Value.slice i g.params.length m::r).toArray.toList 0 _ (QE.refl _ p)
  exact b5.trans (this.below b5.size (fun k hk=>by omega))
 clear G hB a8 b5 ai ax a;generalize ba:g.regs=gr at E K B6 C TH TS TO |-;have bs:Hid (g.regs=gr):=ba;generalize al:g.params.length=J at aq B6 C TH TS TO |-;have aw:Hid (g.params.length=J):=al;have bv:J<=8:=by rw[<-al];exact K.out.params.1
 have y0:(p.setCells B 0 (Value.int .i64 gr::Value.slice i J m::r).toArray.toList).cell? ⟨B,0,none⟩=some (Iv gr):=Qa B6.out 0 _ Z;have y1:(p.setCells B 0 (Value.int .i64 gr::Value.slice i J m::r).toArray.toList).cell? ⟨B,1,none⟩=some (.slice i J m):=Qa B6.out 1 _ Z;generalize bo:(Value.int .i64 gr::Value.slice i J m::r).toArray=u at B6 C TH TS TO y0 y1 |-;have K6:=Qb (K1.out.below C.out);have z:Hid (intsL.In (p.setCells B 0 u.toList) Q c [.slice F c.length rc]):=Ya ap.out C.out;have M:Hid (intsL.In (p.setCells B 0 u.toList) Q d [.slice ag d.length ac]):=Ya ak.out C.out;have am:Hid ((Qx 6).In (p.setCells B 0 u.toList) (fun g=>¬ A g) g.params [.slice i J m]):=Ya aq.out C.out;have BW:Hid (Below w.heap.size w (p.setCells B 0 u.toList)):=T.out.trans (C.out.mono T.out.size);have bu:Hid (s.f.regs<=gr):=by have:=K.out.regs.1;rw[bs.out] at this;exact this
 have V:=Qo x1 C.out;have U:=Qo x2 C.out;clear ba al bo K1 ap ak aq T C B6 q5 x0 x1 x2 ar ah a0 q be;go_upto_region 2 with (refine wpList_store_mid Z 86 (.tmp 4) (.tmp 13) Z B 0 u Z Z TH.out TS.out TO.out ?_)
 clear TH TS TO;generalize p.setCells B 0 u.toList=w6 at K6 z M am BW V U y0 y1 |-;obtain⟨Kn,au⟩:∃ Kn,c.length=Kn:=⟨_,Z⟩
 have HK:=Qb au;rw[au] at V z ad
 clear au;obtain⟨N,hN⟩:∃ N,d.length=N:=⟨_,Z⟩
 have HN:=Qb hN;rw[hN] at U M az
 clear hN;have CP:=Qb (Qeu gr HK.out (by omega) z.out bi.out.regs.1 bu.out K6.out);go_wp2_with fail
 refine CP.out.mono ?_;rintro e' w7 ⟨hO,S⟩;have P:=Qb (BW.out.trans (S.mono BW.out.size));rcases hO with ⟨I,y,rfl,hy⟩|⟨I,rfl⟩
 rotate_left
 ·exact⟨Z,.inr ⟨by rw[E.out,Qr I];exact I,by rw[E.out,Qr I]⟩,P.out⟩
 subst hy;have E2:Hid (s.to ⟨(k:Int),c,d⟩=s.handC d (g.params.map (Qao c))):=by show _=_;rw[E.out,Qw I]
 have K7:=Qb (K6.out.below S);have a4:Hid (intsL.In w7 Q c [.slice F Kn rc]):=Ya z.out S;have bb:Hid (intsL.In w7 Q d [.slice ag N ac]):=Ya M.out S;have a9:=Qb (Q7 (Ya am.out S)).1;have bg:=Qo V S;have bc:=Qo U S;have a7:=Qo y1 S;clear I CP E S K6 z M am V U y0 y1 BW;go_upto_region 3 with fail
 refine jt3 bg bc a7 HK aw (by omega) a4 a9 bt _ _ Z (Xg (by kernel_rfl)) Z Z Z ?_;rintro bh bp w8 ab W ⟨gP,aj,bm,ay⟩ b8;show wpList _ bh _ [_] (QI _ bp [20,21,22,23,24,25,26,27]) w8;simp only[QI,Act.put,List.setIfInBounds_toArray,List.set_cons_zero,List.set_cons_succ,ab,W,aj]
 have an:=Qb (P.out.trans (b8.mono P.out.size))
 have CH:Hid (Calls prog 251 #[Pv b 0,.slice ag N ac,.slice (some ⟨gP,0,none⟩) J J] w8 fun e w'=>ZP (s.handC d (g.params.map (Qao c))) VNone e/\Below w8.heap.size w8 w') :=
  QaO HN.out (by omega) (by rw[XN,aw.out]) (by omega) (Ya bb.out b8) ay.lin hL br.out (fun k hk=>Zl (HO.out k hk) an.out.size) (K7.out.below b8)
 clear ay bm b8 ab W aj K7 a4 bb a9 bg bc a7 P;go_wp2_with fail
 refine CH.out.mono ?_;rintro e' w9 ⟨hO,b9⟩;have a5:=Qb (an.out.trans (b9.mono an.out.size));have FF:Hid (ZP (s.to ⟨(k:Int),c,d⟩) VNone e'):=by show ZP _ _ _;rw[E2.out];exact hO
 rcases hO with ⟨I,y,rfl,hy⟩|⟨I,rfl⟩
 rotate_left
 ·exact⟨Z,FF.out,a5.out⟩
 subst hy;clear I CH E2 b9;go_wp2
 exact Xz (v:=.tuple #[]) (by simp[results,results250,go_sem]) Z ⟨FF.out,a5.out⟩
def QiQ (H:List Bool) (regs:Int):Int:=if (Qas H).all (fun r=>decide (r<regs)) then 0 else 12
theorem QhD {s:JSt}(r:Int) (t:w.cell? ⟨B,0,none⟩=some (Pv b 0)) (h:SAt w b O A s) :
 Calls prog 276 #[Iv r,Pv B 0] w fun e w'=>e=.returned (.bool (decide (r>=s.f.regs)))/\w'=w:=by
 obtain⟨d,i,c,j,g,m,n,k,o,p,l,R⟩:=h.read
 obtain⟨-,-,a,-⟩:=R.cells
 clear R h;generalize s.f.regs=q at a |-;go_enter func276,ntmps276
 go_wp2
 go_ret;exact⟨Z,Z⟩
theorem enters_left1:Qaf 276:=fun _ _=>by kernel_rfl
theorem Qf6 {s:JSt}(H:l.length=N) (U:N<=100000) (F:intsL.In w Q l [.slice p N c]) (I:w.cell? ⟨B,0,none⟩=some (Pv b 0)) (h:SAt w b O A s) :
 Calls prog 287 #[.slice p N c,.func (.func 276) #[] #[Pv B 0]] w fun e w'=>(∃ i:Int,e=.returned (Iv i)/\(0<=i↔∃ x∈l,s.f.regs<=x))/\w'=w:=by
 have M:=Qb F;have K:=Qb H;have C:=Qb (fun r=>QhD r I h);have R:=enters_left1;unfold Qaf at R;clear F H h I;generalize s.f.regs=t at C |-;go_enter func287,ntmps287
 go_wp2
 go_loop [8] (fun i=>∃ k:Nat,k<=N/\i=Iv k/\∀ (j:Nat) (y:Int),j<k->l[j]?=some y->y<t) (fun i=>N - (intOf i).toNat)
 case atStart=>exact⟨0,Xb _,Z,fun j y z=>by omega⟩
 case round =>
  obtain⟨k,X,rfl,L⟩:=hrel
  have G:=Qb L;clear L;by_cases q:k<N
  ·have u:(k:Int)<N:=by omega
   have m:k<l.length:=by rw[K.out];exact q
   obtain⟨g,o,rfl,-,V,D⟩:=ZJ M.out m
   obtain⟨y,n⟩:∃ y,l[k]?=some y:=⟨_,Zg m⟩
   rw[show l.getD k 0=y by rw[List.getD_eq_getElem?_getD,n];rfl] at D
   have J:=Qb n;have v:=Qb (C.out y);clear n m;by_cases a:t<=y
   ·rw[show decide (y>=t)=true from Xt a] at v
    have P:Hid (∃ x∈l,t<=x):=⟨y,Zm J.out,a⟩;clear a;go_wp2_with (go_at_call 276;refine(v.out).mono ?_;rintro e w' ⟨rfl,d⟩;have d:=d.symm;subst d)
    go_ret;exact⟨⟨k,Z,by simp only[P.out,iff_true];omega⟩,Z⟩
   ·rw[show decide (y>=t)=false from Xu a] at v
    have E:=Qb (Int.not_le.1 a);clear a;go_wp2_with (go_at_call 276;refine(v.out).mono ?_;rintro e w' ⟨rfl,d⟩;have d:=d.symm;subst d)
    go_round
    case rel =>
     refine⟨k+1,q,by go_num,fun j S z n=>?_⟩
     rcases Nat.lt_or_ge j k with h | h
     ·exact G.out j S h n
     ·have:j=k:=by omega
      subst this;have e:=J.out.symm.trans n;injection e with e
      subst e;exact E.out
    case measure=>simp[intOf];omega
  ·have u:¬ (k:Int)<N:=by omega
   go_wp2
   go_ret;refine⟨⟨-1,Z,by omega,fun hm=>?_⟩,Z⟩
   obtain⟨x,T,W⟩:=hm
   obtain⟨j,z,e⟩:=List.mem_iff_getElem.1 T
   have:=G.out j x (by have:=K.out;omega) (by rw[Zg z,e])
   omega
theorem Qdo {s:JSt}(n:l.length=N) (g:N<=100000) (m:intsL.In w Q l [.slice p N c]) (j:w.cell? ⟨B,0,none⟩=some (Pv b 0)) (h:SAt w b O A s) :
 Calls prog 277 #[.slice p N c,.func (.func 276) #[] #[Pv B 0]] w fun e w'=>e=.returned (.bool (!(l.all (fun r=>decide (r<s.f.regs)))))/\w'=w:=by
 have C:=Qb (Qf6 n g m j h);clear m n h j;go_enter func277,ntmps277
 go_wp2_with fail
 refine C.out.mono ?_;rintro e w' ⟨⟨i,rfl,k⟩,a⟩;have a:=a.symm;subst a
 have E:Hid ((!(l.all (fun r=>decide (r<s.f.regs))))=decide (i>=0)):=by
  show _=_;rw[Bool.eq_iff_iff]
  simp only[Bool.not_eq_true',decide_eq_true_eq,ge_iff_le,k]
  rw[<-Bool.not_eq_true,Xe]
  constructor
  ·intro h;exact Classical.byContradiction fun q=>h (fun x d=>Xt (Int.not_le.1 (fun o=>q ⟨x,d,o⟩)))
  ·rintro ⟨x,d,t⟩ h
   have:=Xv (h x d)
   omega
 clear C k;go_wp2
 go_ret;exact⟨by rw[E.out];rfl,Z⟩
theorem QhE {s:JSt}(S:s.H.length<=16) (h:SAt w b O A s) :
 Calls prog 252 #[Pv b 0] w fun e w'=>ZP (QiQ s.H s.f.regs) VNone e/\Below w.heap.size w w':=by
 have B:∀ (fn:Fn) (first cap:Array Value) (w:World),(Instr.makeFunc fn first cap).run prog w=.ok (.func fn first cap) w:=fun _ _ _ _=>rfl;have u:=ZO w (.cells #[Pv b 0] 234);have H:=Qb (h.below u);have o:=Qb u;have j:=Qf w #[Pv b 0] 234;have m:=Qa j 0 _ Z;obtain⟨M,J,Q,T,F,a2,G,V,I,P,W,R⟩:=H.out.read
 obtain⟨-,y,-⟩:=R.cells
 have p:=Qb (QiD R.held);clear R h u j;go_enter func252,ntmps252
 go_upto_region 1 with fail
 generalize w.alloc (.cells #[Pv b 0] 234)=L at H o m y p |-;obtain⟨X,j⟩:∃ X,w.heap.size=X:=⟨_,Z⟩
 rw[j] at m |-
 rw[<-j]
 have x:=Qb j;go_wp2_with fail
 refine p.out.mono ?_;rintro D K ⟨a,c,rfl,g,k⟩;have C:=Qb (H.out.below k);have l:=Qb (o.out.trans (k.mono o.out.size));have t:=Qb (Qdo Z (by have:=Qjf s.H;omega) g (Qo m k) C.out);have U:=Qo m k;clear g k p m y;generalize (Qas s.H).length=N at t |-;have E:Hid (QiQ s.H s.f.regs=if (Qas s.H).all (fun r=>decide (r<s.f.regs)) then 0 else 12):=rfl;generalize (Qas s.H).all (fun r=>decide (r<s.f.regs))=q at t E;rw[x.out]
 go_wp2_with (go_at_call 277;refine(t.out).mono ?_;rintro e w' ⟨rfl,i⟩;have i:=i.symm;subst i)
 refine(Qbw _ _ _).mono ?_
 rintro D w' ⟨i,⟨n,rfl⟩|⟨n,rfl⟩⟩
 rotate_left
 ·exact⟨Z,ZP.bad (d:=12) (by rw[E.out,show q=false by simpa using n];rfl) (by decide),by rw[i];exact l.out⟩
 have i:=i.symm;subst i;have z:Hid (QiQ s.H s.f.regs=0):=by show _=_;rw[E.out,show q=true by simpa using n];rfl
 clear n;go_wp2
 exact Xz (v:=.tuple #[]) (by simp[results,results252,go_sem]) Z ⟨ZP.good z.out Z,l.out⟩
structure EnT (w wc:World) (b X:Nat) (O A Q:Nat->Prop) (s:JSt) (x:Z0) (e:EP):Prop where
 st:SAt wc b O A s
 box:Blk wc X (Qdl x e) 84
 lists:Qej wc Q x e
 bel:Below w.heap.size w wc
theorem EnT.below {s:JSt}{x:Z0}{e:EP}(h:EnT w wc b X O A Q s x e) (k:Below wc.heap.size wc w'):EnT w w' b X O A Q s x e :=
 ⟨h.st.below k,(k.block X (XC h.box)).trans h.box,h.lists.below k,h.bel.trans (k.mono h.bel.size)⟩
theorem EnT.cells {s:JSt}{x:Z0}{e:EP}(h:EnT w wc b X O A Q s x e):wc.cell? ⟨X,0,none⟩=some (Iv x.op)/\wc.cell? ⟨X,1,none⟩=some (Iv x.a)/\wc.cell? ⟨X,2,none⟩=some (Iv x.yes.block)/\wc.cell? ⟨X,3,none⟩=some (.slice e.pYR x.yes.regs.length e.cYR)/\wc.cell? ⟨X,4,none⟩=some (.slice e.pYA x.yes.args.length e.cYA)/\wc.cell? ⟨X,5,none⟩=some (Iv x.no.block)/\wc.cell? ⟨X,6,none⟩=some (.slice e.pNR x.no.regs.length e.cNR)/\wc.cell? ⟨X,7,none⟩=some (.slice e.pNA x.no.args.length e.cNA)/\wc.cell? ⟨X,8,none⟩=some (.slice e.pA x.args.length e.cA) :=
 ⟨Qa h.box 0 _ Z,Qa h.box 1 _ Z,Qa h.box 2 _ Z,Qa h.box 3 _ Z,Qa h.box 4 _ Z,Qa h.box 5 _ Z,Qa h.box 6 _ Z,Qa h.box 7 _ Z,Qa h.box 8 _ Z⟩
theorem QjV {s:JSt}{x:Z0}{e:EP}(hJ:JOk s) (hO:∀ k,O k->k<w.heap.size) (h:SAt w b O A s) (hx:Qej w Q x e) (T:-9223372036854775808<=x.a/\x.a<=9223372036854775807) (hf:x.form s.f.blocks.length=0) :
 Calls prog 214 #[Pv b 0,.agg (Qdl x e)] w fun r w'=>ZP (s.fin x) VNone r/\Below w.heap.size w w':=by
 have C:=Qb hJ;have K:=Qb hO;have hL:=hJ.vals;have V:=ZO w (.cells (Qdl x e) 84);have S0:Hid (EnT w (w.alloc (.cells (Qdl x e) 84)) b w.heap.size O A Q s x e):=⟨h.below V,Qf w _ _,hx.below V,V⟩;have u:=Qb (C.out.mod.2 s.f C.out.fn);have U:=Qb (QkJ u.out.many.2 hf);have ad:=Qb T;have ac:Hid (∀ t∈s.L,t.count<=100000):=fun t ht=>Zt (Z7 (C.out.types t ht)) (by omega);have E1:s.fin x=if x.op=1 then s.to x.yes else if x.op=2 then Qt (s.want x.a 1 false) (Qt (s.to x.yes) (s.to x.no)) else Qt (s.args x.args s.f.results (Qmz s.f.regs.toNat)) (if (Qas s.H).all (fun r=>decide (r<s.f.regs)) then 0 else 12):=by rw[JSt.fin,Xr (by rw[hf];simp)]
 have i:=Qb E1;clear h hx V hJ hO T hf E1;go_enter func214,ntmps214
 go_upto_region 1 with fail
 obtain⟨X,hX⟩:∃ X,w.heap.size=X:=⟨_,Z⟩
 unfold Qdl at S0;generalize ab:w.alloc (.cells #[Iv x.op,Iv x.a,Iv x.yes.block,.slice e.pYR x.yes.regs.length e.cYR,.slice e.pYA x.yes.args.length e.cYA,Iv x.no.block,.slice e.pNR x.no.regs.length e.cNR,.slice e.pNA x.no.args.length e.cNA,.slice e.pA x.args.length e.cA] 84)=w1 at S0 |-;have S:Hid (EnT w w1 b X O A Q s x e):=by rw[<-hX];exact S0.out
 rw[hX]
 clear ab hX S0;obtain⟨D,W,x2,x3,x4,x5,x6,x7,J⟩:=S.out.cells
 rcases U.out.1 with g | g | g
 ·have l:Hid (s.fin x=s.to x.yes):=by show _=_;rw[i.out,Xs g]
  have E:Hid (x.yes.form s.f.blocks.length true=0):=by have:=U.out.2.2.2.2.1;rw[g] at this;exact this
  rw[g] at D
  clear i;go_wp2_with fail
  refine(Qb9 (x:=x.yes) C.out (fun k q=>Zl (K.out k q) S.out.bel.size) S.out.st S.out.lists.yr S.out.lists.ya (QaM E.out).2.1 (QaM E.out).2.2 (QaM E.out).1).mono ?_
  rintro e9 w9 ⟨m,p⟩;have j:=Qb (S.out.below p);rcases m with ⟨c,y,rfl,o⟩|⟨c,rfl⟩
  rotate_left
  ·exact⟨Z,.inr ⟨by rw[l.out];exact c,by rw[l.out]⟩,j.out.bel⟩
  subst o;have M:Hid (s.fin x=0):=by show _=_;rw[l.out];exact c
  clear c p;go_wp2
  exact Xz (v:=.tuple #[]) (by simp[results,results214,go_sem]) Z ⟨ZP.good M.out Z,j.out.bel⟩
 ·have l:Hid (s.fin x=Qt (s.want x.a 1 false) (Qt (s.to x.yes) (s.to x.no))):=by show _=_;rw[i.out,Xr (by omega),Xs g]
  have E:Hid (x.yes.form s.f.blocks.length true=0):=by have:=U.out.2.2.2.2.1;rw[g] at this;exact this
  have h2:Hid (x.no.form s.f.blocks.length true=0):=by have:=U.out.2.2.2.2.2;rw[g] at this;exact this
  rw[g] at D
  have CI:=Qb (fun d=>QbA x.a ad.out d hL (fun k q=>Zl (K.out k q) S.out.bel.size) S.out.st);clear i;go_wp2_with fail
  refine(CI.out _).mono ?_
  rintro e8 w8 ⟨m,G⟩;have F:=Qb (S.out.below G);rcases m with ⟨c,y,rfl,o⟩|⟨c,rfl⟩
  rotate_left
  ·exact⟨Z,.inr ⟨by rw[l.out,Qr c];exact c,by rw[l.out,Qr c]⟩,F.out.bel⟩
  subst o;have B:Hid (s.fin x=Qt (s.to x.yes) (s.to x.no)):=by show _=_;rw[l.out,Qw c]
  clear c G l S CI;have S:=F;clear F D W x2 x3 x4 x5 x6 x7 J;obtain⟨D,W,x2,x3,x4,x5,x6,x7,J⟩:=S.out.cells
  go_wp2_with fail
  refine(Qb9 (x:=x.yes) C.out (fun k q=>Zl (K.out k q) S.out.bel.size) S.out.st S.out.lists.yr S.out.lists.ya (QaM E.out).2.1 (QaM E.out).2.2 (QaM E.out).1).mono ?_
  rintro e9 w9 ⟨m,p⟩;have j:=Qb (S.out.below p);rcases m with ⟨c,y,rfl,o⟩|⟨c,rfl⟩
  rotate_left
  ·exact⟨Z,.inr ⟨by rw[B.out,Qr c];exact c,by rw[B.out,Qr c]⟩,j.out.bel⟩
  subst o;have E4:Hid (s.fin x=s.to x.no):=by show _=_;rw[B.out,Qw c]
  clear c p B S;have S:=j;clear j D W x2 x3 x4 x5 x6 x7 J;obtain⟨D,W,x2,x3,x4,x5,x6,x7,J⟩:=S.out.cells
  go_wp2_with fail
  refine(Qb9 (x:=x.no) C.out (fun k q=>Zl (K.out k q) S.out.bel.size) S.out.st S.out.lists.nr S.out.lists.na (QaM h2.out).2.1 (QaM h2.out).2.2 (QaM h2.out).1).mono ?_
  rintro e9 w9 ⟨m,p⟩;have j:=Qb (S.out.below p);rcases m with ⟨c,y,rfl,o⟩|⟨c,rfl⟩
  rotate_left
  ·exact⟨Z,.inr ⟨by rw[E4.out];exact c,by rw[E4.out]⟩,j.out.bel⟩
  subst o;have M:Hid (s.fin x=0):=by show _=_;rw[E4.out];exact c
  clear c p;go_wp2
  exact Xz (v:=.tuple #[]) (by simp[results,results214,go_sem]) Z ⟨ZP.good M.out Z,j.out.bel⟩
 ·have P:=u.out.regs.1;obtain⟨n,hn⟩:=Xc P
  have l:Hid (s.fin x=Qt (s.handC x.args s.f.results) (QiQ s.H s.f.regs)):=by show _=_;rw[i.out,Xr (by omega),Xr (by omega),QmJ hn u.out.results.2];rfl
  have aa:x.args.length<=8:=U.out.2.2.2.1;obtain⟨pm,cm,hh,a1,c1,a2,c2,a3,c3,aL,cL,R⟩:=S.out.st.read
  obtain⟨-,-,-,-,q4,-⟩:=R.cells
  obtain⟨fa,fc,fb,fd,fe,ff,I,-,z,-,-⟩:=QaY R.fn
  simp only[List.cons.injEq,Value.slice.injEq,and_true,true_and] at I
  obtain⟨⟨-,-⟩,⟨rfl,rfl⟩,-⟩:=I
  have N:=Qb (Q7 z).1
  have CH:Hid (Calls prog 251 #[Pv b 0,.slice e.pA x.args.length e.cA,.slice a2 s.f.results.length c2] w1.drew fun e w'=>ZP (s.handC x.args s.f.results) VNone e/\Below w1.drew.heap.size w1.drew w') :=
   QaO Z (by omega) Z (by have:=u.out.results.1;omega) (Ya S.out.lists.ar (QcR Zr)) N.out.drew hL ac.out (fun k q=>Zl (K.out k q) S.out.bel.size) (S.out.st.below (QcR Zr))
  rw[g] at D
  clear i R z N hn P;generalize s.f.results.length=nr at q4 CH;generalize x.args.length=na at J CH aa;go_upto_region 9 with fail
  go_region_with (go_at_call 251;refine(CH.out).mono ?_;rintro e8 w8 ⟨m,G⟩;have F:=Qb (S.out.below (ZA G));rcases m with ⟨c,y,rfl,o⟩|⟨c,rfl⟩;rotate_left;exact⟨Z,.inr ⟨by rw[l.out,Qr c];exact c,by rw[l.out,Qr c]⟩,F.out.bel⟩;subst o;have B:Hid (s.fin x=QiQ s.H s.f.regs):=(by show _=_;rw[l.out,Qw c]);clear c G)
  all_goals
   have CV:=Qb (QhE C.out.regs F.out.st);go_wp2_with fail
   refine CV.out.mono ?_;rintro e9 w9 ⟨m,p⟩;have j:=Qb (F.out.below p);rcases m with ⟨c,y,rfl,o⟩|⟨c,rfl⟩
   rotate_left
   ·exact⟨Z,.inr ⟨by rw[B.out];exact c,by rw[B.out]⟩,j.out.bel⟩
   subst o;have M:Hid (s.fin x=0):=by show _=_;rw[B.out];exact c
   clear c p;go_wp2
   exact Xz (v:=.tuple #[]) (by simp[results,results214,go_sem]) Z ⟨ZP.good M.out Z,j.out.bel⟩
theorem Qcp {a:Nat}(c:Int) (b:Blk w a #[Iv 0] 3) :
 CallsD prog 238 #[QdJ a] (.panicking (QeZ c)) w fun e u' w' =>
  e=.returned (.tuple #[])/\u'=.panicking [{ v:=.iface 304 (Iv c),recovered:=true }]/\(Blk w' a #[Iv c] 3/\Chg a w w'):=by
 have d:=b.lt;have k:=Qa b 0 _ Z;have h:=Qe b 0;have i:=Qb b;refine callsD_of_wpS func238 Z fun m n f=>?_;apply wpS_seq
 apply wpS_region
 simp[wpOpsS,go_sem,recoverD,f,ntmps238,Exit.thenS]
 rw[show (#[QdJ a]++((Array.replicate 15 undef).setIfInBounds 3 (Value.iface 304 (Iv c))).setIfInBounds 0 (Value.iface 304 (Iv c)):Array Value)=#[QdJ a,Value.iface 304 (Iv c),undef,undef,Value.iface 304 (Iv c),undef,undef,undef,undef,undef,undef,undef,undef,undef,undef,undef] from Z]
 refine wpS_of_wp ?_;have l:∀ w:World,(Instr.typeAssert (.iface 304 (Iv c)) 20 304 true).run prog w=.ok (.tuple #[Iv c,.bool true]) w:=fun _=>by kernel_rfl
 clear b;go_wp2
 have g:Blk (w.setCell ⟨a,0,none⟩ (Iv c)) a #[Iv c] 3:=by
  have:=Qh i.out 0 (Iv c)
  simpa using this
 have j:Chg a w (w.setCell ⟨a,0,none⟩ (Iv c)):=Chg.set w 0 _ d;exact(show bodyPostS _ _ _ _ _ _ _ _ _ from ⟨Z,_,Z,.tuple #[],by simp[results,results238,go_sem],Z,Z,g,j⟩)
theorem Qgf (a:Nat) :
 CallsD prog 238 #[QdJ a] .returning w fun e u' w'=>e=.returned (.tuple #[])/\u'=.returning/\w'=w:=by
 refine callsD_of_wpS func238 Z fun c d b=>?_;apply wpS_seq
 apply wpS_region
 simp[wpOpsS,go_sem,recoverD,b,ntmps238,Exit.thenS]
 rw[show (#[QdJ a]++((Array.replicate 15 undef).setIfInBounds 3 (Value.nilIface)).setIfInBounds 0 (Value.nilIface):Array Value)=#[QdJ a,Value.nilIface,undef,undef,Value.nilIface,undef,undef,undef,undef,undef,undef,undef,undef,undef,undef,undef] from Z]
 refine wpS_of_wp ?_;go_wp2_with fail
 cases c
 simp_all [bodyPostS,results,results238]
def QmV (Fb:Nat) (R1:World->Prop) (R2:Int->World->Prop) (en:Ending) (w2:World):Prop :=
 Blk w2 Fb #[Iv 0] 3/\((en=.returned (.tuple #[])/\R1 w2)\/(∃ c,en=.panicked (QeZ c)/\R2 c w2))
def QfX (Fb:Nat) (R1:World->Prop) (R2:Int->World->Prop) (en:Ending) (w':World):Prop :=
 (∃ w2,R1 w2/\en=.returned (Iv 0)/\Chg Fb w2 w')\/(∃ w2,∃ c:Int,R2 c w2/\en=.returned (Iv c)/\Chg Fb w2 w')
theorem Qdg (F:Nat) (a:Array Value) (e:Qaf F) (g:World->Prop) (l:Int->World->Prop) (d:Calls prog F a (w.alloc (.cells #[Iv 0] 3)) fun en w2=>QmV w.heap.size g l en w2) :
 Calls prog 210 #[.func (.func F) #[] a] w fun en w'=>QfX w.heap.size g l en w':=by
 have y:∀ (fn:Fn) (first cap:Array Value) (w:World),(Instr.makeFunc fn first cap).run prog w=.ok (.func fn first cap) w:=fun _ _ _ _=>rfl;have q:=e;unfold Qaf at q;have r:Hid (Calls prog F a (w.alloc (.cells #[Iv 0] 3)) fun en w2=>QmV w.heap.size g l en w2):=d;clear d e;go_enter_defers func210,ntmps210
 go_wp2_with fail
 refine r.out.mono ?_;rintro B b ⟨j,⟨rfl,h⟩|⟨c,rfl,h⟩⟩
 ·have i:=Qb j;have m:=Qa i.out 0 _ Z;have k:=Qe i.out 0;have x:Hid (g b):=h;clear j h r q;go_wp2
  have o:Blk (b.setCell ⟨w.heap.size,0,none⟩ (Iv 0)) w.heap.size #[Iv 0] 3:=by
   have:=Qh i.out 0 (Iv 0)
   simpa using this
  have p:Chg w.heap.size b (b.setCell ⟨w.heap.size,0,none⟩ (Iv 0)):=Chg.set b 0 _ i.out.lt;clear m k;generalize b.setCell ⟨w.heap.size,0,none⟩ (Iv 0)=v at o p |-;refine leaves_cons (f:=238) (args:=#[QdJ w.heap.size]) (by simp) (by simp[go_sem]) ?_;refine(Qgf w.heap.size).mono ?_
  rintro z s A ⟨rfl,rfl,rfl⟩;have n:=Qa o 0 _ Z;exact⟨Iv 0,by simp[results,results210,go_sem,n],.inl ⟨b,x.out,Z,p⟩⟩
 ·show bodyPostD _ _ _ _ _ _;refine leaves_cons (f:=238) (args:=#[QdJ w.heap.size]) (by simp) (by simp[go_sem]) ?_;refine(Qcp c j).mono ?_
  rintro z s v ⟨rfl,rfl,u,t⟩;have n:=Qa u 0 _ Z;exact⟨Iv c,by simp[results,results210,go_sem,n],.inr ⟨b,c,h,Z,t⟩⟩
theorem QlJ {s:JSt}{x:Qv}{l:Option Addr}(i:∀ k,A k->k<w.heap.size) (j:JOk s) (h:SAt w b O A s) (a:intsL.In w Q x.regs [.slice l x.regs.length rc]) (c:intsL.In w Q x.args [.slice ag x.args.length ac]) (f:x.regs.length<=rc) (d:ZM x) (g:x.form s.m.length=0) :
 Calls prog 212 #[Pv b 0,Qel x l ag rc ac] w fun e w'=>QU w b O A s (s.next x) (s.goC x) e w':=by
 obtain⟨-,-,-,n⟩:=Q5 g
 rcases n with e | e | e | e | e | e | e | e | e | e | e | e | e | e
 ·exact Qk7 i j h a c f d g e
 ·exact Qld i j h a c f d g e
 ·exact Qlx i j h a c f d g e
 ·exact Qkm i j h a c f d g e
 ·exact QiO i j h a c f d g e
 ·exact QlV i j h a c f d g e
 ·exact Qls i j h a c f d g e
 ·exact Qh7 i j h a c f d g e
 ·exact Qkx i j h a c f d g e
 ·exact QiM i j h a c f d g e
 ·exact Qlg i j h a c f d g e
 ·exact Ql6 i j h a c f d g e
 ·exact Qlh i j h a c f d g e
 ·exact Qks i j h a c f d g e
theorem STo.seal {f:Nat}{s:JSt}(l:∀ k,O k->k<w.heap.size) (hb:Below w.heap.size w wc) (j:w.heap.size<=f/\f<wc.heap.size) (h:STo wc w2 b O (fun k=>A k\/(w.heap.size<=k/\k<wc.heap.size)) s) (c:Chg f w2 w9):STo w w9 b O A s:=by
 obtain⟨N,g,i,d⟩:=h
 have p:=hb.size;have q:=d.size;have o:=c.size;refine⟨fun k=>N k\/(w.heap.size<=k/\k<wc.heap.size),fun k a=>?_,?_,?_⟩
 ·rcases a with a | a
  ·have:=g k a;omega
  ·omega
 ·refine i.keep (fun k m a=>c.block k m (fun e=>?_)) (fun k a _=>?_) (fun k a _ e=>a ?_) (fun k a=>?_)
  ·subst e;rcases a with a | a
   ·rcases a with a | a
    ·have:=l k a;omega
    ·have:=g k a;omega
   ·exact a (.inl (.inr j))
  ·rcases a with a | a
   ·exact .inl a
   ·exact .inr (.inl a)
  ·rcases e with e | e | e
   ·exact .inl (.inl e)
   ·exact .inr e
   ·exact .inl (.inr e)
  ·rcases a with a | a
   ·have:=i.sub k (.inl a)
    rcases this with (h | h) | h
    ·exact .inl h
    ·exact .inr (.inr h)
    ·exact .inr (.inl h)
   ·exact .inr a
 ·refine⟨c.os.trans (d.os.trans hb.os),c.tape.trans (d.tape.trans hb.tape),c.output.trans (d.output.trans hb.output),by omega,fun k a n=>?_,fun k a=>?_⟩
  ·exact(c.block k (by omega) (by omega)).trans ((d.block k (by omega) n).trans (hb.block k a))
  ·rcases a with a | a | a
   ·exact .inl a
   ·have:=g k a;exact .inr (by omega)
   ·exact .inr a.1
theorem SAt.wall {s:JSt}(h:SAt w b O A s) (hb:Below w.heap.size w wc):SAt wc b O (fun k=>A k\/(w.heap.size<=k/\k<wc.heap.size)) s :=
 h.keep (fun g c _=>hb.block g c) (fun _ h _=>h) (fun k a d e=>by rcases e with e | e;exact a e;omega) (fun k a=>.inl (h.sub k a))
theorem enters_ins1:Qaf 211:=fun _ _=>by kernel_rfl
theorem enters_end1:Qaf 213:=fun _ _=>by kernel_rfl
def Qow (b S0 X nm cm rc ac:Nat) (cf:Int) (pm rg ag:Option Addr) (x:Qv) (t:Tmp) (v:Value) (w:World):Prop :=
 v=(([(2,Pv S0 0),(3,Pv X 0),(6,Pv b 0),(7,Pv b 0),(8,Pv b 0),(9,.agg #[.slice pm nm cm]),(10,.agg #[Iv x.op,Iv x.a,Iv x.b,Iv x.c,Iv x.k,Iv x.n,.slice rg x.regs.length rc,.slice ag x.args.length ac]),(11,Iv cf),(5,Iv cf)]:List (Tmp × Value)).lookup t).getD undef
theorem ji1 {i f:Nat}{o:Int}{j:Option Addr}{x:Qv}(L:w6.cell? ⟨i,0,none⟩=some (Pv b 0)) (B:w6.cell? ⟨b,0,none⟩=some (.slice pm f cm)) (E:w6.cell? ⟨X,0,none⟩=some (Iv x.op)) (J:w6.cell? ⟨X,1,none⟩=some (Iv x.a)) (z:w6.cell? ⟨X,2,none⟩=some (Iv x.b)) (A:w6.cell? ⟨X,3,none⟩=some (Iv x.c)) (D:w6.cell? ⟨X,4,none⟩=some (Iv x.k)) (H:w6.cell? ⟨X,5,none⟩=some (Iv x.n)) (u:w6.cell? ⟨X,6,none⟩=some (.slice j x.regs.length rc)) (C:w6.cell? ⟨X,7,none⟩=some (.slice ag x.args.length ac)) (l:f<2305843009213693952) (F:Hid (x.form f=o))
 (a:Act) (m:Nat) (hn:a.tmps.size=m) (p:17<=m) (G:a.tmps.getD 2 undef=Pv i 0) (I:a.tmps.getD 3 undef=Pv X 0) :
 Code.wp prog ((Tryz.f164.body.bind (Qg 1)).getD .skip) (fun e a' w'=>e=.normal/\∃ vs,a'=QI a vs [6,7,8,9,10,11,5]/\vs 5=Iv o/\Below w6.heap.size w6 w') a w6:=by
 conv=>arg 2;whnf
 refine QV (Qow b i X f cm rc ac o pm j ag x) (fun w=>Below w6.heap.size w6 w) (fun w w'=>Below w.heap.size w w') (outs:=[2,3]) (gs:=[]) (bs:=[true,true,true,true,true,true,true]) (by kernel_rfl) (n:=17) hn p (by kernel_rfl) ?hR ?hG (Qs Zr 1) ⟨G,I,Y⟩ ?hA ?hend
 case hR=>exact fun t v w w' _ h=>h
 case hG=>exact Y
 case hend=>exact fun vs w' d g=>⟨Z,vs,Z,g 5 (by kernel_rfl),d⟩
 case hA =>
  repeat
   refine⟨fun a w d g K s=>?_,?_⟩
   focus first
    | obtain⟨q,-⟩:=g
      conv at q=>whnf;rhs;whnf
      have M:=Qo L d;have N:=Qo B d;have Q:=Qo E d;have P:=Qo J d;have W:=Qo z d;have S:=Qo A d;have O:=Qo D d;have R:=Qo H d;have c8:=Qo u d;have U:=Qo C d;go_simp;exact s _ _ Zr d Z
    | obtain⟨q,y,-⟩:=g
      conv at q=>whnf;rhs;whnf
      conv at y=>whnf;rhs;whnf
      go_simp;refine Xm (QgV f x ⟨j,rc,ag,ac⟩ pm cm _ l) ?_;rw[F.out];rintro V T ⟨rfl,r⟩;go_simp;exact s _ _ r (d.trans (r.mono d.size)) Z
  trivial
theorem Qh6 {l:Nat}{s:JSt}{x:Qv}{r:Option Addr}(y:Blk w l #[Pv b 0] 234) (g:Blk w X #[Iv x.op,Iv x.a,Iv x.b,Iv x.c,Iv x.k,Iv x.n,.slice r x.regs.length rc,.slice ag x.args.length ac] 78) (p:∀ k,A k->k<w.heap.size) (z:JOk s) (h:SAt w b O A s) (f:intsL.In w Q x.regs [.slice r x.regs.length rc]) (d:intsL.In w Q x.args [.slice ag x.args.length ac]) (j:x.regs.length<=rc) (i:ZM x) (u:x.form s.m.length=0) :
 Calls prog 211 #[Pv l 0,Pv X 0] w fun e w'=>QU w b O A s (s.next x) (s.goC x) e w':=by
 have C:=Qb (QlJ p z h f d j i u);have M:=Qa y 0 _ Z;have J:=Qa g 0 _ Z;have L:=Qa g 1 _ Z;have E:=Qa g 2 _ Z;have F:=Qa g 3 _ Z;have I:=Qa g 4 _ Z;have K:=Qa g 5 _ Z;have D:=Qa g 6 _ Z;have H:=Qa g 7 _ Z;clear y g p z h f d j i u;go_enter func211,ntmps211
 go_wp2_with fail
 refine C.out.mono ?_;rintro N G o;have B:=Qb o;rcases o with ⟨q,rfl,t⟩|⟨q,rfl,t⟩
 rotate_left
 ·exact⟨Z,B.out⟩
 clear q t C;go_wp2
 exact Xz (v:=.tuple #[]) (by simp[results,results211,go_sem]) Z B.out
theorem QgN {s:JSt}{x:Qv}{q:Option Addr}(hA:∀ k,A k->k<w.heap.size) (hJ:JOk s) (h:SAt w b O A s) (o:intsL.In w Q x.regs [.slice q x.regs.length rc]) (j:intsL.In w Q x.args [.slice ag x.args.length ac]) (J:x.regs.length<=rc) (v:ZM x) :
 Calls prog 164 #[Pv b 0,Qel x q ag rc ac] w fun e w'=>e=.returned (Iv (s.code x))/\STo w w' b O A (s.ins x):=by
 have ai:∀ (fn:Fn) (first cap:Array Value) (w:World),(Instr.makeFunc fn first cap).run prog w=.ok (.func fn first cap) w:=fun _ _ _ _=>rfl;have HJ:=Qb hJ;have H0:=Qb h;have C:=Qb hA;have ae:=Qb v;have ad:=Qb J;have b1:=ZO w (.cells #[Pv b 0] 234);have b2:=ZO (w.alloc (.cells #[Pv b 0] 234)) (.cells #[Iv x.op,Iv x.a,Iv x.b,Iv x.c,Iv x.k,Iv x.n,.slice q x.regs.length rc,.slice ag x.args.length ac] 78);have U:=b1.trans (b2.mono b1.size);have HB:=Qb U;have H:=Qb (h.below U);have HR:Hid (intsL.In _ Q x.regs [.slice q x.regs.length rc]):=Ya o U;have HG:Hid (intsL.In _ Q x.args [.slice ag x.args.length ac]):=Ya j U;have hS:Blk ((w.alloc (.cells #[Pv b 0] 234)).alloc (.cells #[Iv x.op,Iv x.a,Iv x.b,Iv x.c,Iv x.k,Iv x.n,.slice q x.regs.length rc,.slice ag x.args.length ac] 78)) w.heap.size #[Pv b 0] 234:=(Blk.new _ _ _:Blk (w.alloc (.cells #[Pv b 0] 234)) w.heap.size _ _).below b2
 have K:Blk ((w.alloc (.cells #[Pv b 0] 234)).alloc (.cells #[Iv x.op,Iv x.a,Iv x.b,Iv x.c,Iv x.k,Iv x.n,.slice q x.regs.length rc,.slice ag x.args.length ac] 78)) (w.heap.size+1) #[Iv x.op,Iv x.a,Iv x.b,Iv x.c,Iv x.k,Iv x.n,.slice q x.regs.length rc,.slice ag x.args.length ac] 78:=by
  have:=Blk.new (w.alloc (.cells #[Pv b 0] 234)) #[Iv x.op,Iv x.a,Iv x.b,Iv x.c,Iv x.k,Iv x.n,.slice q x.regs.length rc,.slice ag x.args.length ac] 78
  simpa using this
 have HS:=Qb hS;have g:=Qb K;clear hS K b1 b2 U h hA hJ o j J v;go_enter func164,ntmps164
 go_upto_region 1 with fail
 generalize (w.alloc (.cells #[Pv b 0] 234)).alloc (.cells #[Iv x.op,Iv x.a,Iv x.b,Iv x.c,Iv x.k,Iv x.n,.slice q x.regs.length rc,.slice ag x.args.length ac] 78)=w1 at HB H HR HG HS g |-;obtain⟨S0,S⟩:∃ S0,w.heap.size=S0:=⟨_,Z⟩
 obtain⟨X,K⟩:∃ X,S0+1=X:=⟨_,Z⟩
 rw[S] at HS g |-
 rw[K] at g |-
 clear K S;have s0:=Qa HS.out 0 _ Z;have x0:=Qa g.out 0 _ Z;have x1:=Qa g.out 1 _ Z;have x2:=Qa g.out 2 _ Z;have x3:=Qa g.out 3 _ Z;have x4:=Qa g.out 4 _ Z;have x5:=Qa g.out 5 _ Z;have x6:=Qa g.out 6 _ Z;have x7:=Qa g.out 7 _ Z;obtain⟨pm,cm,hh,a1,c1,a2,c2,a3,c3,aL,cL,RR⟩:=H.out.read
 obtain⟨q0,-⟩:=RR.cells
 obtain⟨E,V⟩:∃ E,x.form s.m.length=E:=⟨_,Z⟩
 have r:Hid (x.form s.m.length=E):=V;clear V RR;refine Code.wp_mono ?_ (ji1 s0 q0 x0 x1 x2 x3 x4 x5 x6 x7 (by have:=HJ.out.mod.1.2;omega) r _ _ Z (Xg (by kernel_rfl)) Z Z);rintro ee aa d ⟨rfl,vs,rfl,L,D⟩;simp only[QI,Act.put,List.setIfInBounds_toArray,List.set_cons_zero,List.set_cons_succ,L]
 have i:=Qb (HB.out.trans (D.mono HB.out.size));have W:=Qb (HS.out.below D);have R:=Qb (g.out.below D);have ab:Hid (intsL.In d Q x.regs [.slice q x.regs.length rc]):=Ya HR.out D;have T:Hid (intsL.In d Q x.args [.slice ag x.args.length ac]):=Ya HG.out D;clear D L s0 x0 x1 x2 x3 x4 x5 x6 x7 q0 HS g HR HG HB H;by_cases u:E=0
 rotate_left
 ·have ah:(E != 0)=true:=by simpa using u
  have E1:Hid (s.code x=E):=by show _=_;unfold JSt.code;rw[r.out,Xs u]
  have E2:Hid (s.ins x=s):=by show _=_;unfold JSt.ins;rw[Xr (by rw[E1.out];exact u)]
  go_wp2_with fail
  go_ret;exact⟨by rw[E1.out];rfl,by rw[E2.out];exact Yh H0.out i.out⟩
 subst u;have EC:=Qb (Qk8 r.out);have F:=ZO d (.cells #[Iv 0] 3);have t:=i.out.trans (F.mono i.out.size);have af:=Qb t
 have CK:Hid (Calls prog 210 #[.func (.func 211) #[] #[Pv S0 0,Pv X 0]] d fun en w'=>QfX d.heap.size (fun f=>s.goC x=0/\STo (d.alloc (.cells #[Iv 0] 3)) f b O (fun k=>A k\/(w.heap.size<=k/\k<(d.alloc (.cells #[Iv 0] 3)).heap.size)) (s.next x)) (fun c f=>s.goC x=c/\c≠0/\STo (d.alloc (.cells #[Iv 0] 3)) f b O (fun k=>A k\/(w.heap.size<=k/\k<(d.alloc (.cells #[Iv 0] 3)).heap.size)) s) en w'):=by
  refine Qdg _ _ enters_ins1 _ _ ?_;refine(Qh6 (A:=fun k=>A k\/(w.heap.size<=k/\k<(d.alloc (.cells #[Iv 0] 3)).heap.size)) (W.out.below F) (R.out.below F) (fun k p=>?_) HJ.out (H0.out.wall t) (Ya ab.out F) (Ya T.out F) ad.out ae.out r.out).mono ?_
  ·rcases p with p | p
   ·exact Zl (C.out k p) t.size
   ·exact p.2
  ·intro en f hd
   have B:STo (d.alloc (.cells #[Iv 0] 3)) f b O (fun k=>A k\/(w.heap.size<=k/\k<(d.alloc (.cells #[Iv 0] 3)).heap.size)) s\/STo (d.alloc (.cells #[Iv 0] 3)) f b O (fun k=>A k\/(w.heap.size<=k/\k<(d.alloc (.cells #[Iv 0] 3)).heap.size)) (s.next x):=by
    rcases hd with ⟨-,-,h⟩|⟨-,-,h⟩
    ·exact .inr h
    ·exact .inl h
   have l:Blk f d.heap.size #[Iv 0] 3:=by
    have hn:Blk (d.alloc (.cells #[Iv 0] 3)) d.heap.size #[Iv 0] 3:=Blk.new _ _ _;have P:¬ O d.heap.size:=fun e=>by have I:=C.out _ (H0.out.sub _ e);have G:=i.out.size;omega
    rcases B with ⟨N,-,-,st⟩|⟨N,-,-,st⟩
    ·exact(st.block _ hn.lt P).trans hn
    ·exact(st.block _ hn.lt P).trans hn
   rcases hd with ⟨I,G,h3⟩|⟨I,G,h3⟩
   ·exact⟨l,.inl ⟨G,I,h3⟩⟩
   ·exact⟨l,.inr ⟨_,G,Z,I,h3⟩⟩
 have y:Hid (∀ f z s',STo (d.alloc (.cells #[Iv 0] 3)) f b O (fun k=>A k\/(w.heap.size<=k/\k<(d.alloc (.cells #[Iv 0] 3)).heap.size)) s'->Chg d.heap.size f z->STo w z b O A s'):=fun f z s' I G=>STo.seal (fun k p=>C.out k (H0.out.sub k p)) af.out ⟨i.out.size,by simp⟩ I G;clear F t W R ab T;go_wp2_with fail
 refine CK.out.mono ?_;intro e' z p
 have FF:Hid (e'=.returned (Iv (s.code x))/\STo w z b O A (s.ins x)):=by
  rcases p with ⟨f,⟨g1,g2⟩,rfl,g3⟩|⟨f,c,⟨g1,g2,g3⟩,rfl,g4⟩
  ·have M:s.code x=0:=by rw[EC.out,g1]
   refine⟨by rw[M],?_⟩
   unfold JSt.ins;rw[Xs M]
   exact y.out f z _ g2 g3
  ·have M:s.code x=c:=by rw[EC.out,g1]
   refine⟨by rw[M],?_⟩
   unfold JSt.ins;rw[Xr (by rw[M];exact g2)]
   exact y.out f z _ g3 g4
 obtain⟨rfl,-⟩:=id FF.out
 clear p CK y;go_wp2
 go_ret;exact⟨Z,FF.out.2⟩
def Qn3 (b S0 X fl c1 fm c2 bl c3:Nat) (fr cf:Int) (a1 a2 a3:Option Addr) (x:Z0) (e:EP) (t:Tmp) (v:Value) (w:World):Prop :=
 v=(([(2,Pv S0 0),(3,Pv X 0),(6,Pv b 0),(7,Pv b 0),(8,Pv b 2),(9,.agg #[Iv fr,.slice a1 fl c1,.slice a2 fm c2,.slice a3 bl c3]),(10,.agg (Qdl x e)),(11,Iv cf),(5,Iv cf)]:List (Tmp × Value)).lookup t).getD undef
theorem jE1 {o g k bl j:Nat}{p:Int}{u z y:Option Addr}{x:Z0}{e:EP}(L:w6.cell? ⟨o,0,none⟩=some (Pv b 0)) (B:w6.cell? ⟨b,2,none⟩=some (Iv fr)) (E:w6.cell? ⟨b,3,none⟩=some (.slice u fl g)) (C:w6.cell? ⟨b,4,none⟩=some (.slice z fm k)) (F:w6.cell? ⟨b,5,none⟩=some (.slice y bl j)) (G:Hid (w6.rangeAt X 0 (Qdl x e).toList)) (D:Hid (x.yes.regs.length<2305843009213693952/\x.yes.args.length<2305843009213693952/\x.no.regs.length<2305843009213693952/\x.no.args.length<2305843009213693952)) (i:bl<2305843009213693952) (H:Hid (x.form bl=p))
 (a:Act) (m:Nat) (hn:a.tmps.size=m) (r:17<=m) (I:a.tmps.getD 2 undef=Pv o 0) (J:a.tmps.getD 3 undef=Pv X 0) :
 Code.wp prog ((Tryz.f165.body.bind (Qg 1)).getD .skip) (fun e a' w'=>e=.normal/\∃ vs,a'=QI a vs [6,7,8,9,10,11,5]/\vs 5=Iv p/\Below w6.heap.size w6 w') a w6:=by
 conv=>arg 2;whnf
 refine QV (Qn3 b o X fl g fm k bl j fr p u z y x e) (fun w=>Below w6.heap.size w6 w) (fun w w'=>Below w.heap.size w w') (outs:=[2,3]) (gs:=[]) (bs:=[true,true,true,true,true,true,true]) (by kernel_rfl) (n:=17) hn r (by kernel_rfl) ?hR ?hG (Qs Zr 1) ⟨I,J,Y⟩ ?hA ?hend
 case hR=>exact fun t v w w' _ h=>h
 case hG=>exact Y
 case hend=>exact fun vs w' c f=>⟨Z,vs,Z,f 5 (by kernel_rfl),c⟩
 case hA =>
  repeat
   refine⟨fun a w c f K q=>?_,?_⟩
   focus first
    | obtain⟨d,-⟩:=f
      conv at d=>whnf;rhs;whnf
      have M:=Qo L c;have g:=Qo B c;have k:=Qo E c;have j:=Qo C c;have Q:=Qo F c;go_simp;exact q _ _ Zr c Z
    | obtain⟨d,-⟩:=f
      conv at d=>whnf;rhs;whnf
      obtain⟨O,l⟩:=underEnd
      refine wp_load_mid 84 (.tmp 3) Z X 0 d (Qdl x e).toList _ (QcU G.out c) l Z sizeEnd ?_;exact q _ _ Zr c Z
    | obtain⟨d,A,-⟩:=f
      conv at d=>whnf;rhs;whnf
      conv at A=>whnf;rhs;whnf
      go_simp;refine Xm (Qgq (x:=x) (e:=e) D.out i) ?_;rw[H.out];rintro P N ⟨rfl,s⟩;go_simp;exact q _ _ s (c.trans (s.mono c.size)) Z
  trivial
theorem QeQ {c:Array Value}(h:Blk w X c t):w.rangeAt X 0 c.toList:=fun j v a=>by
 rw[XK]
 rw[Array.getElem?_toList] at a
 exact Qa h j v a
theorem Qjt {m:Nat}{s:JSt}{x:Z0}{e:EP}(B:Blk w m #[Pv b 0] 234) (q:Blk w X (Qdl x e) 84) (D:JOk s) (t:∀ k,O k->k<w.heap.size) (h:SAt w b O A s) (u:Qej w Q x e) (d:-9223372036854775808<=x.a/\x.a<=9223372036854775807) (z:x.form s.f.blocks.length=0) :
 Calls prog 213 #[Pv m 0,Pv X 0] w fun r w'=>ZP (s.fin x) VNone r/\Below w.heap.size w w':=by
 have C:=Qb (QjV D t h u d z);have K:=Qa B 0 _ Z;have p:=Qb (QeQ q);clear B q D h u d z t;obtain⟨J,c⟩:=underEnd
 have i:=Qb c;clear c;generalize g:Qdl x e=n at C p;have j:Hid ((prog.info? 84).map (·.size)=some n.toList.length):=by show _=_;rw[<-g];exact sizeEnd
 clear g;go_enter func213,ntmps213
 go_wp2_with (refine wpList_load_mid Z 84 (.tmp 1) Z X 0 Z n.toList _ p.out i.out Z j.out ?_)
 refine C.out.mono ?_;rintro L I o;have E:=Qb o;obtain⟨G,H⟩:=o
 rcases G with ⟨l,y,rfl,F⟩|⟨l,rfl⟩
 rotate_left
 ·exact⟨Z,E.out⟩
 subst F;clear l H C;go_wp2
 exact Xz (v:=.tuple #[]) (by simp[results,results213,go_sem]) Z E.out
theorem Qj7 {s:JSt}{x:Z0}{e:EP}(hA:∀ k,A k->k<w.heap.size) (hJ:JOk s) (h:SAt w b O A s) (hx:Qej w Q x e) (I:-9223372036854775808<=x.a/\x.a<=9223372036854775807) (hs:x.yes.regs.length<2305843009213693952/\x.yes.args.length<2305843009213693952/\x.no.regs.length<2305843009213693952/\x.no.args.length<2305843009213693952) :
 Calls prog 165 #[Pv b 0,.agg (Qdl x e)] w fun r w'=>r=.returned (Iv (s.fin x))/\Below w.heap.size w w':=by
 have af:∀ (fn:Fn) (first cap:Array Value) (w:World),(Instr.makeFunc fn first cap).run prog w=.ok (.func fn first cap) w:=fun _ _ _ _=>rfl;have W:=Qb hJ;have H0:=Qb h;have ab:=Qb hA;have ad:=Qb I;have U:=Qb hs;have V:=ZO w (.cells #[Pv b 0] 234);have b2:=ZO (w.alloc (.cells #[Pv b 0] 234)) (.cells #[Iv x.op,Iv x.a,Iv x.yes.block,.slice e.pYR x.yes.regs.length e.cYR,.slice e.pYA x.yes.args.length e.cYA,Iv x.no.block,.slice e.pNR x.no.regs.length e.cNR,.slice e.pNA x.no.args.length e.cNA,.slice e.pA x.args.length e.cA] 84);have T:=V.trans (b2.mono V.size);have R:=Qb T;have H:=Qb (h.below T);have n:=Qb (hx.below T);have hS:Blk ((w.alloc (.cells #[Pv b 0] 234)).alloc (.cells #[Iv x.op,Iv x.a,Iv x.yes.block,.slice e.pYR x.yes.regs.length e.cYR,.slice e.pYA x.yes.args.length e.cYA,Iv x.no.block,.slice e.pNR x.no.regs.length e.cNR,.slice e.pNA x.no.args.length e.cNA,.slice e.pA x.args.length e.cA] 84)) w.heap.size #[Pv b 0] 234:=(Blk.new _ _ _:Blk (w.alloc (.cells #[Pv b 0] 234)) w.heap.size _ _).below b2
 have C:Blk ((w.alloc (.cells #[Pv b 0] 234)).alloc (.cells #[Iv x.op,Iv x.a,Iv x.yes.block,.slice e.pYR x.yes.regs.length e.cYR,.slice e.pYA x.yes.args.length e.cYA,Iv x.no.block,.slice e.pNR x.no.regs.length e.cNR,.slice e.pNA x.no.args.length e.cNA,.slice e.pA x.args.length e.cA] 84)) (w.heap.size+1) (Qdl x e) 84:=by
  have:=Blk.new (w.alloc (.cells #[Pv b 0] 234)) (Qdl x e) 84
  simpa using this
 have N:=Qb hS;have z:=Qb C;clear hS C V b2 T h hA hJ hx I hs;go_enter func165,ntmps165
 go_upto_region 1 with fail
 generalize (w.alloc (.cells #[Pv b 0] 234)).alloc (.cells #[Iv x.op,Iv x.a,Iv x.yes.block,.slice e.pYR x.yes.regs.length e.cYR,.slice e.pYA x.yes.args.length e.cYA,Iv x.no.block,.slice e.pNR x.no.regs.length e.cNR,.slice e.pNA x.no.args.length e.cNA,.slice e.pA x.args.length e.cA] 84)=w1 at R H n N z |-;obtain⟨S,p⟩:∃ S,S=w.heap.size:=⟨_,Z⟩
 obtain⟨X,C⟩:∃ X,X=S+1:=⟨_,Z⟩
 rw[<-p] at N z |-
 rw[<-C] at z |-
 have G:=Qb p;clear C p;have s0:=Qa N.out 0 _ Z;have K:=Qb (QeQ z.out);obtain⟨pm,cm,hh,a1,c1,a2,c2,a3,c3,aL,cL,RR⟩:=H.out.read
 obtain⟨-,-,q2,q3,q4,q5,-⟩:=RR.cells
 obtain⟨v,L⟩:∃ v,x.form s.f.blocks.length=v:=⟨_,Z⟩
 have m:Hid (x.form s.f.blocks.length=v):=L;have ac:=Qb (W.out.mod.2 s.f W.out.fn);clear L RR;refine Code.wp_mono ?_ (jE1 s0 q2 q3 q4 q5 K U (by have:=ac.out.many.2;omega) m _ _ Z (Xg (by kernel_rfl)) Z Z);rintro ee aa i ⟨rfl,vs,rfl,D,B⟩;simp only[QI,Act.put,List.setIfInBounds_toArray,List.set_cons_zero,List.set_cons_succ,D]
 have j:=Qb (R.out.trans (B.mono R.out.size));have M:=Qb (N.out.below B);have F:=Qb (z.out.below B);have E:=Qb (n.out.below B);clear B D s0 q2 q3 q4 q5 N z R H K n;by_cases u:v=0
 rotate_left
 ·have ae:(v != 0)=true:=by simpa using u
  have E1:Hid (s.fin x=v):=by show _=_;unfold JSt.fin;rw[m.out,Xs u]
  go_wp2_with fail
  go_ret;exact⟨by rw[E1.out];rfl,by first | exact j.out | (rw[G.out];exact j.out)⟩
 subst u;have J:=ZO i (.cells #[Iv 0] 3);have g:=j.out.trans (J.mono j.out.size)
 have CK:Hid (Calls prog 210 #[.func (.func 213) #[] #[Pv S 0,Pv X 0]] i fun en w'=>QfX i.heap.size (fun d=>s.fin x=0/\Below (i.alloc (.cells #[Iv 0] 3)).heap.size (i.alloc (.cells #[Iv 0] 3)) d) (fun c d=>s.fin x=c/\Below (i.alloc (.cells #[Iv 0] 3)).heap.size (i.alloc (.cells #[Iv 0] 3)) d) en w'):=by
  refine Qdg _ _ enters_end1 _ _ ?_;refine(Qjt (M.out.below J) (F.out.below J) W.out (fun k P=>Zl (ab.out k (H0.out.sub k P)) g.size) (H0.out.below g) (E.out.below J) ad.out m.out).mono ?_
  rintro en d ⟨hd,o⟩;have l:Blk d i.heap.size #[Iv 0] 3:=(Blk.new i #[Iv 0] 3).below o;rcases hd with ⟨hc,y,rfl,hy⟩|⟨hc,rfl⟩
  ·subst hy;exact⟨l,.inl ⟨Z,hc,o⟩⟩
  ·exact⟨l,.inr ⟨_,Z,Z,o⟩⟩
 have q:Hid (∀ d t,Below (i.alloc (.cells #[Iv 0] 3)).heap.size (i.alloc (.cells #[Iv 0] 3)) d->Chg i.heap.size d t->Below w.heap.size w t):=fun d t h1 h2 =>
  Chg.last (g.trans (h1.mono g.size)) h2 j.out.size (Zt g.size h1.size)
 clear J g M F E;go_wp2_with fail
 refine CK.out.mono ?_;intro e' t P
 have FF:Hid (e'=.returned (Iv (s.fin x))/\Below w.heap.size w t):=by
  rcases P with ⟨d,⟨g1,g2⟩,rfl,g3⟩|⟨d,c,⟨g1,g2⟩,rfl,g4⟩
  ·exact⟨by rw[g1],q.out d t g2 g3⟩
  ·exact⟨by rw[g1],q.out d t g2 g4⟩
 obtain⟨rfl,-⟩:=id FF.out
 clear P CK q;go_wp2
 go_ret;first | exact⟨Z,FF.out.2⟩ | exact⟨Z,by rw[G.out];exact FF.out.2⟩
def Qgw {n:Nat}(w:World) (Q:Nat->Prop) (l:List (TT n)) (e:Ending) (w':World):Prop :=
 ∃ v ds,e=.returned v/\w'.ownsRow 0 105 3 v l.length ds/\(∀ g,v.ownBlock=some g->w.heap.size<=g)/\(∀ i x,l[i]?=some x->(Lay.tt n).In w Q x ((ds.drop (i*3)).take 3))/\Below w.heap.size w w'
def Qgc {n:Nat}(lo:Nat) (w:World) (g N i:Nat) (l:List (TT n)):Prop :=
 ∃ cur,w.heap[g]?=some (.cells cur 105 (0,0))/\N*3<=cur.size/\∀ (j:Nat) (x:TT n),l[j]?=some x->∃ a c,cur[j*3]?=some (Iv x.kind)/\cur[j*3+1]?=some (Iv x.r)/\cur[j*3+2]?=some (.slice a x.len c)/\TIn w (fun k=>k≠g/\(j<i->lo<=k)) x a
section
variable {n lo g N i:Nat}{w w':World}{l:List (TT n)}
theorem Qgc.below (h:Qgc lo w g N i l) (b:Below w.heap.size w w'):Qgc lo w' g N i l:=by
 obtain⟨d,e,k,p⟩:=h
 refine⟨d,(b.block g (XC e)).trans e,k,fun j x f=>?_⟩
 obtain⟨a,c,n,o,m,q⟩:=p j x f
 exact⟨a,c,n,o,m,q.below b⟩
theorem Qgc.lt (h:Qgc lo w g N i l):g<w.heap.size:=by obtain⟨b,a,-⟩:=h;exact XC a
theorem Qgc.free (h:Qgc lo w g N i l) (k:Nat):w.frozen? ⟨g,k,none⟩=false:=by obtain⟨b,a,-⟩:=h;exact Qe a k
theorem Qgc.at (h:Qgc lo w g N i l){x:TT n}(b:l[j]?=some x):∃ a c,w.cell? ⟨g,j*3+2,none⟩=some (.slice a x.len c)/\TIn w (fun k=>k≠g/\(j<i->lo<=k)) x a:=by
 obtain⟨e,f,p,m⟩:=h
 obtain⟨a,c,q,r,d,o⟩:=m j x b
 exact⟨a,c,Qa f _ _ d,o⟩
theorem Qgc.set (h:Qgc lo w g N i l){x:TT n}(r:l[i]?=some x) (C:i<N) (z:TIn w (fun k=>k≠g/\lo<=k) x a):Qgc lo (w.setCell ⟨g,i*3+2,none⟩ (.slice a x.len c)) g N (i+1) l:=by
 obtain⟨u,v,s,A⟩:=h
 refine⟨_,Qh v (i*3+2) (.slice a x.len c),by simpa using s,fun j y f=>?_⟩
 obtain⟨b,d,o,p,t,B⟩:=A j y f
 by_cases q:j=i
 ·subst q;rw[r] at f
  injection f with f
  subst f;refine⟨a,c,?_,?_,?_,(z.setCell (fun e=>e.1 Z) _).mono (fun k m _=>⟨m.1,fun _=>m.2⟩)⟩
  ·rw[Array.getElem?_setIfInBounds,Xr (by omega)];exact o
  ·rw[Array.getElem?_setIfInBounds,Xr (by omega)];exact p
  ·rw[Array.getElem?_setIfInBounds,Xs Z,Xs (by omega)]
 ·refine⟨b,d,?_,?_,?_,(B.setCell (fun e=>e.1 Z) _).mono (fun k m _=>⟨m.1,fun h=>m.2 (by omega)⟩)⟩
  ·rw[Array.getElem?_setIfInBounds,Xr (by omega)];exact o
  ·rw[Array.getElem?_setIfInBounds,Xr (by omega)];exact p
  ·rw[Array.getElem?_setIfInBounds,Xr (by omega)];exact t
theorem Qgc.lin (h:Qgc lo w g N i l) (hi:l.length<=i) (e:lo<=g):LIn w (Qb1 lo) l (some ⟨g,0,none⟩):=by
 obtain⟨n,b,t,p⟩:=h
 intro j x d;obtain⟨a,c,m,o,f,q⟩:=p j x d
 have s:j<l.length:=(Zi d).1;refine⟨g,0,a,c,Z,e,?_,?_,?_,q.mono (fun k r _=>r.2 (by omega))⟩
 ·rw[XK];exact Qa b _ _ m
 ·rw[XK];exact Qa b _ _ o
 ·rw[XK];exact Qa b _ _ f
end
theorem Qgw.row {n:Nat}{w w':World}{l:List (TT n)}{e:Ending}(h:Qgw w Q l e w'):∃ a c,e=.returned (.slice a l.length c)/\l.length<=c/\Below w.heap.size w w'/\(l≠[]->∃ g,a=some ⟨g,0,none⟩/\w.heap.size<=g/\Qgc w.heap.size w' g l.length 0 l):=by
 obtain⟨v,A,rfl,⟨L,B⟩,q,z,m⟩:=h
 rcases B with ⟨rfl,y⟩|⟨g,d,b,rfl,-,E,o,G,I,D⟩
 ·have t:l=[]:=Xf.1 y;subst t;exact⟨none,0,Z,Ze,m,fun e=>absurd Z e⟩
 ·refine⟨some ⟨g,0,none⟩,d,Z,o,m,fun _=>⟨g,Z,q g Z,b,E,?_,fun j x r=>?_⟩⟩
  ·have:l.length*3<=d*3:=Xp _ o
   omega
  ·have H:j<l.length:=(Zi r).1;obtain⟨a,c,e,F,K⟩:=z j x r
   have f:∀ i u,i<3->((A.drop (j*3)).take 3)[i]?=some u->b[j*3+i]?=some u:=fun i u C p=>by
    rw[XR,Xs C,List.getElem?_drop,<-D,XR,Xs (by omega),Array.getElem?_toList] at p
    exact p
   rw[e] at f
   have J:=q g Z;exact⟨a,c,f 0 _ (by omega) Z,f 1 _ (by omega) Z,f 2 _ (by omega) Z,(TIn.keep (O':=fun k=>k<w.heap.size) (fun k _ s=>m.block k s) (fun _ _ h=>h) F).mono (fun k s _=>⟨by omega,fun e=>absurd e (by omega)⟩)⟩
def SOk (w:World) (b B0:Nat) (s:JSt):Prop:=∃ O A,SAt w b O A s/\(∀ k,A k->B0<=k/\k<w.heap.size)/\JOk s
section
variable {w w':World}{b B0:Nat}{s:JSt}
theorem SOk.below (h:SOk w b B0 s) (k:Below w.heap.size w w'):SOk w' b B0 s:=by
 obtain⟨O,A,e,a,f⟩:=h
 exact⟨O,A,e.below k,fun c d=>⟨(a c d).1,Zl (a c d).2 k.size⟩,f⟩
theorem SOk.ok (h:SOk w b B0 s):JOk s:=by obtain⟨O,A,d,c,a⟩:=h;exact a
theorem SOk.lt (h:SOk w b B0 s):b<w.heap.size:=by obtain⟨O,A,a,c,d⟩:=h;exact a.lt
theorem STo.ok {d:JSt}(h:STo w w' b O A d) (f:∀ k,A k->B0<=k/\k<w.heap.size) (g:∀ k,O k->A k) (m:B0<=w.heap.size) (l:JOk d):SOk w' b B0 d/\Below B0 w w':=by
 obtain⟨N,j,i,a⟩:=h
 have e:=a.size;refine⟨⟨_,_,i,fun k c=>?_,l⟩,⟨a.os,a.tape,a.output,a.size,fun k c=>a.block k (by omega) (fun e=>by have:=f k (g k e);omega)⟩⟩
 rcases c with c | c
 ·have:=f k c;omega
 ·have:=j k c;omega
theorem SOk.ins (h:SOk w b B0 s) (o:B0<=w.heap.size){x:Qv}{j:Option Addr}(a:intsL.In w Q x.regs [.slice j x.regs.length rc]) (c:intsL.In w Q x.args [.slice ag x.args.length ac]) (f:x.regs.length<=rc) (d:ZM x) :
 Calls prog 164 #[Pv b 0,Qel x j ag rc ac] w fun e w'=>e=.returned (Iv (s.code x))/\SOk w' b B0 (s.ins x)/\Below B0 w w':=by
 obtain⟨O,A,i,g,l⟩:=h
 refine(QgN (fun k n=>(g k n).2) l i a c f d).mono ?_
 rintro e w' ⟨rfl,m⟩;exact⟨Z,m.ok g i.sub o (l.ins x)⟩
theorem SOk.end_ (h:SOk w b B0 s){x:Z0}{e:EP}(d:Qej w Q x e) (c:-9223372036854775808<=x.a/\x.a<=9223372036854775807) (f:x.yes.regs.length<2305843009213693952/\x.yes.args.length<2305843009213693952/\x.no.regs.length<2305843009213693952/\x.no.args.length<2305843009213693952) :
 Calls prog 165 #[Pv b 0,.agg (Qdl x e)] w fun r w'=>r=.returned (Iv (s.fin x))/\Below w.heap.size w w':=by
 obtain⟨O,A,i,g,j⟩:=h
 exact Qj7 (fun k l=>(g k l).2) j i d c f
theorem SOk.held (h:SOk w b B0 s):∃ hh,w.cell? ⟨b,1,none⟩=some (Pv hh 0)/\QC w hh s.H:=by
 obtain⟨O,A,a,g,n⟩:=h
 obtain⟨c,e,hh,f,d,o,k,i,l,m,j,R⟩:=a.read
 exact⟨hh,R.cells.2.1,R.held⟩
end
def QiY (w:World) (b B0 T T2:Nat) (s:JSt):Prop:=∃ O A,SAt w b O A s/\(∀ k,A k->B0<=k/\(k<T\/T2<=k)/\k<w.heap.size)/\T2<=w.heap.size/\JOk s
section
variable {w w':World}{b B0 T T2:Nat}{s:JSt}
theorem QiY.one (h:QiY w b B0 T T2 s):SOk w b B0 s:=by obtain⟨O,A,e,a,f,d⟩:=h;exact⟨O,A,e,fun k c=>⟨(a k c).1,(a k c).2.2⟩,d⟩
theorem QiY.below (h:QiY w b B0 T T2 s) (k:Below w.heap.size w w'):QiY w' b B0 T T2 s:=by
 obtain⟨O,A,e,c,f,d⟩:=h
 exact⟨O,A,e.below k,fun j a=>⟨(c j a).1,(c j a).2.1,Zl (c j a).2.2 k.size⟩,Zt f k.size,d⟩
theorem QiY.more (h:QiY w b B0 T w.heap.size s) (k:Below w.heap.size w w'):QiY w' b B0 T w'.heap.size s:=by
 obtain⟨O,A,e,c,f,d⟩:=h
 exact⟨O,A,e.below k,fun j a=>⟨(c j a).1,.inl (by have:=c j a;omega),Zl (c j a).2.2 k.size⟩,Ze,d⟩
structure Qoc (w w':World) (B0 T T2:Nat):Prop where
 bel:Below B0 w w'
 top:∀ k,T<=k->k<T2->w'.heap[k]?=w.heap[k]?
theorem QiY.ins (h:QiY w b B0 T T2 s) (u:B0<=w.heap.size){x:Qv}{n:Option Addr}(c:intsL.In w Q x.regs [.slice n x.regs.length rc]) (d:intsL.In w Q x.args [.slice ag x.args.length ac]) (i:x.regs.length<=rc) (g:ZM x) :
 Calls prog 164 #[Pv b 0,Qel x n ag rc ac] w fun e w'=>e=.returned (Iv (s.code x))/\QiY w' b B0 T T2 (s.ins x)/\Qoc w w' B0 T T2:=by
 obtain⟨O,A,l,f,r,j⟩:=h
 refine(QgN (fun k a=>(f k a).2.2) j l c d i g).mono ?_
 rintro e w' ⟨rfl,o⟩;obtain⟨N,t,p,m⟩:=id o
 obtain⟨-,q⟩:=o.ok (B0:=B0) (fun k a=>⟨(f k a).1,(f k a).2.2⟩) l.sub u (j.ins x)
 have e:=m.size;refine⟨Z,⟨_,_,p,fun k a=>?_,Zt r e,j.ins x⟩,q,fun k a v=>m.block k (by omega) (fun e=>by have:=(f k (l.sub k e)).2.1;omega)⟩
 rcases a with a | a
 ·have:=f k a;omega
 ·have:=t k a;omega
end
def Qkc (w w':World) (e:Ending):Prop:=∃ G1 G2,e=.returned (.agg #[.slice (some ⟨G2,0,none⟩) 1 1])/\Blk w' G1 #[Iv 0,Nv,Nv,Iv 3,Iv 0,Iv 0,Nv,Nv,Iv 0,Nv,Nv,Nv] 86/\Blk w' G2 #[Iv 0,Nv,Nv,.slice (some ⟨G1,0,none⟩) 1 1] 89/\w.heap.size<=G1/\w.heap.size<=G2/\G1≠G2/\Below w.heap.size w w'
theorem Qfs (w:World):Calls prog 39 #[] w fun e w'=>Qkc w w' e:=by
 have d:=Qk ((Bxs.start w).new #[Nv] 24);go_enter func39,ntmps39
 go_upto_region 1 with fail
 generalize w.alloc (.cells #[Nv] 24)=b at d |-;generalize w.heap.size=R at d |-;have g:=d.out.new #[Iv 0,Nv,Nv,Iv 3,Iv 0,Iv 0,Nv,Nv,Iv 0,Nv,Nv,Nv] 86;have c:=g.new #[Iv 0,Nv,Nv,.slice (some ⟨b.heap.size,0,none⟩) 1 1] 89;rw[World.size_alloc] at c
 have k:=c.cell (a:=[_,_]) 0 _ Z;have j:=c.free (a:=[_,_]) 0;have f:=Qk (c.set (a:=[_,_]) 0 (.slice (some ⟨b.heap.size+1,0,none⟩) 1 1));clear g c;go_wp2
 have h:=f.out.cell (a:=[_,_]) 0 _ Z;have i:b.heap.size≠b.heap.size+1:=by omega
 exact Xy (v:=.agg #[.slice (some ⟨b.heap.size+1,0,none⟩) 1 1]) (by simp[results,results39,go_sem,h]) Z ⟨_,_,Z,f.out.at (a:=[_]),f.out.at (a:=[]),d.out.bel.size,Nat.le_succ_of_le d.out.bel.size,i,f.out.bel⟩
def T00:MTo:=⟨0,[],[]⟩
def E00:Z0:=⟨3,0,T00,T00,[]⟩
def I00:Qv:=⟨1,1,0,0,0,0,[],[]⟩
def M0:List (MFunc 1):=[⟨0,[],[],[⟨0,[],[I00],E00⟩]⟩]
theorem QaJ {α:Type}{A:Lay α}{c:Array Value}{x:α}(h:Blk w G c t) (e:c.toList=cs) (d:A.In w All x cs):A.list.In w All [x] [.slice (some ⟨G,0,none⟩) 1 1]:=by
 refine⟨some ⟨G,0,none⟩,1,Z,fun i y b=>?_⟩
 have g:i=0:=by
  have:=(Zi b).1
  simp at this;exact this
 subst g;simp at b
 subst b;refine⟨G,0,cs,Z,Y,h.lt,fun j k=>?_,d⟩
 have f:=A.len d;have a:j<c.size:=by rw[<-e] at f;simp at f;omega
 rw[Nat.zero_mul,XK,<-e,Array.getElem?_toList]
 exact(Qa h j c[j] (Xj a)).trans (Xj a).symm
theorem Qmw (w:World):EIn w All E00 ⟨none,0,none,0,none,0,none,0,none,0⟩ :=
 ⟨⟨Yg _ _ _ _ _,Yg _ _ _ _ _,by decide⟩,⟨Yg _ _ _ _ _,Yg _ _ _ _ _,by decide⟩,Yg _ _ _ _ _,by decide,by decide⟩
def bI (k:Int):Qv:=⟨k,0,0,0,0,0,[],[]⟩
def fI:Qv:=⟨1,0,0,0,0,5,[],[]⟩
def fE:Z0:=⟨3,0,⟨0,[],[]⟩,⟨0,[],[]⟩,[0]⟩
def fB:MBlock 6:=⟨0,[],[fI],fE⟩
def fF:MFunc 6:=⟨0,[],[tInt],[fB]⟩
def five6:List (MFunc 6):=[fF]
theorem five_fault:modFault five6=(0,0):=by decide +kernel
abbrev fBc (G1 Gc Gi:Nat):Array Value:=#[Iv 0,Nv,.slice (some ⟨Gc,0,none⟩) 1 1,Iv 3,Iv 0,Iv 0,Nv,Nv,Iv 0,Nv,Nv,.slice (some ⟨Gi,0,none⟩) 1 1]
theorem Qm3 (w:World):intsL.In w All ([]:List Int) [Nv]:=Yg _ _ _ _ _
theorem Qlv (w:World):(Lay.tt 6).In w All tInt [Iv 1,Iv 0,Nv]:=⟨none,0,Z,fun i x h=>by simp[tInt] at h,by unfold tInt;exact⟨by decide,fun x h=>by simp at h⟩⟩
theorem Qlq {c i g e d:Nat}(o:Blk w c (fBc c e d) 86) (m:Blk w i #[Iv 0,Nv,.slice (some ⟨g,0,none⟩) 1 1,.slice (some ⟨c,0,none⟩) 1 1] 89) (p:Blk w g #[Iv 1,Iv 0,Nv] 105) (j:Blk w e #[Iv 1,Iv 0,Iv 0,Iv 0,Iv 0,Iv 5,Nv,Nv] 78) (hi:Blk w d #[Iv 0] 3) :
 (ZZ 6).In w All five6 [.slice (some ⟨i,0,none⟩) 1 1]:=by
 have a:=Qm3 w;have h:(Qx 6).In w All ([]:List (TT 6)) [Nv]:=Yg _ _ _ _ _;have l:(Qx 6).In w All [tInt] [.slice (some ⟨g,0,none⟩) 1 1]:=QaJ p Z (Qlv w);have r:insL.list.In w All [fI] [.slice (some ⟨e,0,none⟩) 1 1]:=QaJ j Z (QdS (x:=fI) a a (by decide));have k:intsL.In w All [0] [.slice (some ⟨d,0,none⟩) 1 1]:=QaJ hi Z ⟨Z,by decide⟩;have q:EIn w All fE ⟨none,0,none,0,none,0,none,0,some ⟨d,0,none⟩,1⟩:=⟨⟨a,a,by decide⟩,⟨a,a,by decide⟩,k,by decide,by decide⟩;have n:(Zq 6).list.In w All [fB] [.slice (some ⟨c,0,none⟩) 1 1]:=QaJ o Z (Qd5 (x:=fB) (b:=⟨none,0,some ⟨e,0,none⟩,1,_⟩) ⟨h,r,q,by decide⟩);exact QaJ m Z (QeT (x:=fF) (f:=⟨none,0,some ⟨g,0,none⟩,1,some ⟨c,0,none⟩,1⟩) ⟨h,l,n,by decide⟩)
def two1:List Qv:=[bI 3,⟨1,0,0,0,0,1,[],[]⟩,bI 4,bI 4]
def tB:MBlock 6:=⟨0,[],two1,E00⟩
def tF:MFunc 6:=⟨0,[],[],[tB]⟩
def two6:List (MFunc 6):=[tF]
theorem two_fault:modFault two6=(0,0):=by decide +kernel
theorem QgR {f:MFunc 6}(g:f.params=[]) (n:f.results.length<=1) (a:∀ t∈f.results,t.count<=1){b:MBlock 6}(hb:f.blocks=[b]) (l:b.params=[]) (r:b.code.length<=40) (i:b.fin.yes.regs=[]/\b.fin.yes.args=[]/\b.fin.no.regs=[]/\b.fin.no.args=[]/\b.fin.args.length<=1) (j:∀ x∈b.code,x.regs=[]/\x.args=[]):¬ QO [f]:=by
 rintro (h | ⟨x,e,h⟩)
 ·exact absurd h (by simp)
 ·simp only[List.mem_singleton] at e
  subst e;rcases h with h | h | h | ⟨y,c,h⟩
  ·rw[hb] at h;exact absurd h (by simp)
  ·rw[g] at h
   rcases h with h | ⟨t,a,_⟩
   ·exact absurd h (by simp)
   ·cases a
  ·rcases h with h | ⟨t,d,h⟩
   ·have:=n;omega
   ·have:=a t d;omega
  ·rw[hb] at c
   simp only[List.mem_singleton] at c
   subst c;obtain⟨o,p,m,k,s⟩:=i
   rcases h with h | h | h | h | h | h | h | ⟨z,q,h⟩
   ·omega
   ·rw[l] at h
    rcases h with h | ⟨t,a,_⟩
    ·exact absurd h (by simp)
    ·cases a
   ·omega
   ·rw[o] at h;exact absurd h (by simp)
   ·rw[p] at h;exact absurd h (by simp)
   ·rw[m] at h;exact absurd h (by simp)
   ·rw[k] at h;exact absurd h (by simp)
   ·have hb:=j z q;rw[hb.1,hb.2] at h
    exact absurd h (by simp)
theorem five_not:¬ QO five6:=QgR (b:=fB) Z (by decide) (fun t a=>by simp only[fF,List.mem_singleton] at a;subst a;decide) Z Z (by decide) ⟨Z,Z,Z,Z,by decide⟩ (fun x c=>by simp only[fB,List.mem_singleton] at c;subst c;exact⟨Z,Z⟩)
theorem two_not:¬ QO two6:=QgR (b:=tB) Z (by decide) (fun t c=>by cases c) Z Z (by decide) ⟨Z,Z,Z,Z,by decide⟩ (fun x a=>by have a:x∈two1:=a;simp only[two1,List.mem_cons,List.not_mem_nil,or_false] at a;rcases a with rfl | rfl | rfl | rfl<;>exact⟨Z,Z⟩)
theorem QlG {α:Type}{A:Lay α}{cs:Array Value}{l:List α}(h:Blk w G cs t) (e:l.length=n) (b:∀ (i:Nat) x,l[i]?=some x->∃ ds,A.In w All x ds/\∀ j,j<A.size->∃ v,ds[j]?=some v/\cs[i*A.size+j]?=some v):A.list.In w All l [.slice (some ⟨G,0,none⟩) n n] :=
 ⟨_,_,by rw[e],fun i x c=>by
  obtain⟨ds,f,d⟩:=b i x c
  refine⟨G,0,ds,Z,Y,h.lt,fun j a=>?_,f⟩
  obtain⟨v,g,k⟩:=d j a
  rw[XK,g]
  exact Qa h _ v k⟩
abbrev tCode:Array Value:=#[Iv 3,Iv 0,Iv 0,Iv 0,Iv 0,Iv 0,Nv,Nv,Iv 1,Iv 0,Iv 0,Iv 0,Iv 0,Iv 1,Nv,Nv,Iv 4,Iv 0,Iv 0,Iv 0,Iv 0,Iv 0,Nv,Nv,Iv 4,Iv 0,Iv 0,Iv 0,Iv 0,Iv 0,Nv,Nv]
theorem Qmv {e k d:Nat}(o:Blk w e #[Iv 0,Nv,.slice (some ⟨d,0,none⟩) 4 4,Iv 3,Iv 0,Iv 0,Nv,Nv,Iv 0,Nv,Nv,Nv] 86) (m:Blk w k #[Iv 0,Nv,Nv,.slice (some ⟨e,0,none⟩) 1 1] 89) (l:Blk w d tCode 78) :
 (ZZ 6).In w All two6 [.slice (some ⟨k,0,none⟩) 1 1]:=by
 have c:=Qm3 w;have h:(Qx 6).In w All ([]:List (TT 6)) [Nv]:=Yg _ _ _ _ _
 have p:insL.list.In w All two1 [.slice (some ⟨d,0,none⟩) 4 4]:=by
  refine QlG l Z (fun i x a=>?_);match i,a with
  | 0,a=>cases a;exact⟨_,QdS (x:=bI 3) c c (by decide),fun j g=>by rcases j with _ | _ | _ | _ | _ | _ | _ | _ | j<;>first | exact⟨_,Z,Z⟩ | (exfalso;have:insL.size=8:=rfl;omega)⟩
  | 1,a=>cases a;exact⟨_,QdS (x:=⟨1,0,0,0,0,1,[],[]⟩) c c (by decide),fun j g=>by rcases j with _ | _ | _ | _ | _ | _ | _ | _ | j<;>first | exact⟨_,Z,Z⟩ | (exfalso;have:insL.size=8:=rfl;omega)⟩
  | 2,a=>cases a;exact⟨_,QdS (x:=bI 4) c c (by decide),fun j g=>by rcases j with _ | _ | _ | _ | _ | _ | _ | _ | j<;>first | exact⟨_,Z,Z⟩ | (exfalso;have:insL.size=8:=rfl;omega)⟩
  | 3,a=>cases a;exact⟨_,QdS (x:=bI 4) c c (by decide),fun j g=>by rcases j with _ | _ | _ | _ | _ | _ | _ | _ | j<;>first | exact⟨_,Z,Z⟩ | (exfalso;have:insL.size=8:=rfl;omega)⟩
  | i+4,a=>exact absurd (Zi a).1 (by show ¬ i+4<4;omega)
 have n:(Zq 6).list.In w All [tB] [.slice (some ⟨e,0,none⟩) 1 1]:=QaJ o Z (Qd5 (x:=tB) (b:=⟨none,0,some ⟨d,0,none⟩,4,_⟩) ⟨h,p,Qmw w,by decide⟩);exact QaJ m Z (QeT (x:=tF) (f:=⟨none,0,none,0,some ⟨e,0,none⟩,1⟩) ⟨h,h,n,by decide⟩)
theorem Qlp (w:World):Calls prog 38 #[] w fun e w'=>∃ I C T Y G2 G1 R,e=.returned (.agg #[.slice (some ⟨G2,0,none⟩) 1 1])/\Bxs w w' [(I,#[Iv 0],3),(C,#[Iv 1,Iv 0,Iv 0,Iv 0,Iv 0,Iv 5,Nv,Nv],78),(T,#[Iv 1,Iv 0,Nv],105),(Y,#[.slice (some ⟨G2,0,none⟩) 1 1],24),(G2,#[Iv 0,Nv,.slice (some ⟨T,0,none⟩) 1 1,.slice (some ⟨G1,0,none⟩) 1 1],89),(G1,fBc G1 C I,86),(R,#[.slice (some ⟨G2,0,none⟩) 1 1],24)]:=by
 have h:=Qb ((Bxs.start w).new #[Nv] 24);go_enter func38,ntmps38
 go_upto_region 1 with fail
 generalize w.alloc (.cells #[Nv] 24)=u at h |-;generalize w.heap.size=R at h |-;go_wp2_with fail
 refine(Qfs u).mono ?_
 rintro M A ⟨G1,G2,rfl,t,B,x,y,z,D⟩;have k:=Qb (((h.out.made D t x).add B (Zt h.out.bel.size y) (fun b s=>by simp only[List.mem_cons,List.not_mem_nil,or_false] at s;rcases s with rfl | rfl;exact z;exact fun e=>by have J:R<u.heap.size:=(h.out.at (a:=[])).lt;have e:R=G2:=e;omega)).new #[.slice (some ⟨G2,0,none⟩) 1 1] 24);clear t B x y z D h;go_upto_region 2 with fail
 generalize A.alloc (.cells #[.slice (some ⟨G2,0,none⟩) 1 1] 24)=o at k |-;generalize A.heap.size=Y at k |-;have m:=Qb (k.out.new #[Iv 1,Iv 0,Nv] 105);have j:=k.out.cell (a:=[]) 0 _ Z;have G:=m.out.cell (a:=[_,_]) 2 _ Z;have l:=m.out.free (a:=[_,_]) 2;go_upto_region 3 with fail
 have g:=Qb (m.out.set (a:=[_,_]) 2 (.slice (some ⟨o.heap.size,0,none⟩) 1 1));clear k m j G l;generalize (o.alloc (.cells #[Iv 1,Iv 0,Nv] 105)).setCell ⟨G2,2,none⟩ (.slice (some ⟨o.heap.size,0,none⟩) 1 1)=d at g |-;generalize o.heap.size=T at g |-;have p:=Qb (g.out.new #[Iv 1,Iv 0,Iv 0,Iv 0,Iv 0,Iv 5,Nv,Nv] 78);have j:d.cell? ⟨Y,0,none⟩=some (.slice (some ⟨G2,0,none⟩) 1 1):=g.out.cell (a:=[_]) 0 _ Z;have r:d.cell? ⟨G2,3,none⟩=some (.slice (some ⟨G1,0,none⟩) 1 1):=g.out.cell (a:=[_,_]) 3 _ Z;have q:=p.out.cell (a:=[_,_,_,_]) 2 _ Z;have l:=p.out.free (a:=[_,_,_,_]) 2;go_upto_region 4 with fail
 have i:=Qb (p.out.set (a:=[_,_,_,_]) 2 (.slice (some ⟨d.heap.size,0,none⟩) 1 1));clear g p j r q l;generalize (d.alloc (.cells #[Iv 1,Iv 0,Iv 0,Iv 0,Iv 0,Iv 5,Nv,Nv] 78)).setCell ⟨G1,2,none⟩ (.slice (some ⟨d.heap.size,0,none⟩) 1 1)=c at i |-;generalize d.heap.size=C at i |-;have n:=Qb (i.out.new #[Iv 0] 3);have j:c.cell? ⟨Y,0,none⟩=some (.slice (some ⟨G2,0,none⟩) 1 1):=i.out.cell (a:=[_,_]) 0 _ Z;have r:c.cell? ⟨G2,3,none⟩=some (.slice (some ⟨G1,0,none⟩) 1 1):=i.out.cell (a:=[_,_,_]) 3 _ Z;have q:=n.out.cell (a:=[_,_,_,_,_]) 11 _ Z;have l:=n.out.free (a:=[_,_,_,_,_]) 11;go_upto_region 5 with fail
 have f:=Qb (n.out.set (a:=[_,_,_,_,_]) 11 (.slice (some ⟨c.heap.size,0,none⟩) 1 1));clear i n j r q l;generalize (c.alloc (.cells #[Iv 0] 3)).setCell ⟨G1,11,none⟩ (.slice (some ⟨c.heap.size,0,none⟩) 1 1)=H at f |-;generalize c.heap.size=I at f |-;have j:H.cell? ⟨Y,0,none⟩=some (.slice (some ⟨G2,0,none⟩) 1 1):=f.out.cell (a:=[_,_,_]) 0 _ Z;have L:=f.out.cell (a:=[_,_,_,_,_,_]) 0 _ Z;have K:=f.out.free (a:=[_,_,_,_,_,_]) 0;have E:=Qb (f.out.set (a:=[_,_,_,_,_,_]) 0 (.slice (some ⟨G2,0,none⟩) 1 1));go_wp2
 have F:=E.out.cell (a:=[_,_,_,_,_,_]) 0 _ Z;refine Xy (v:=.agg #[.slice (some ⟨G2,0,none⟩) 1 1]) (by simp[results,results38,go_sem,F]) Z ⟨_,_,_,_,G2,_,_,Z,E.out⟩
theorem Qkl (w:World):Calls prog 38 #[] w fun e w'=>∃ G2,e=.returned (.agg #[.slice (some ⟨G2,0,none⟩) 1 1])/\(ZZ 6).In w' All five6 [.slice (some ⟨G2,0,none⟩) 1 1]/\Below w.heap.size w w':=by
 refine(Qlp w).mono ?_
 rintro e w' ⟨I,C,T,Y,G2,b,R,rfl,B⟩;exact⟨G2,Z,Qlq (B.at (a:=[_,_,_,_,_])) (B.at (a:=[_,_,_,_])) (B.at (a:=[_,_])) (B.at (a:=[_])) (B.at (a:=[])),B.bel⟩
def Qcq (w:World) (a:Option Addr) (l:List Int):Prop:=∀ i x,l[i]?=some x->∃ g o,a=some ⟨g,o,none⟩/\w.cell? ⟨g,o+i,none⟩=some (Iv x)
theorem Qcq.below (h:Qcq w a l) (b:Below w.heap.size w w'):Qcq w' a l:=fun i x c=>by
 obtain⟨g,o,e,d⟩:=h i x c
 exact⟨g,o,e,Qo d b⟩
theorem Qjn.lg {lo:Nat}(h:Qjn lo l (.slice a n c) w):n=l.length/\Qcq w a l:=by
 obtain⟨p,m,e,s,j,t⟩:=h
 simp only[Value.slice.injEq] at e
 obtain⟨rfl,rfl,rfl⟩:=e
 refine⟨Z,fun i x b=>?_⟩
 have q:=(Zi b).1;rcases j.2 with ⟨e,u⟩|⟨g,r,k,e,-,f,-,-,-,o⟩
 ·omega
 ·simp only[Value.slice.injEq] at e
  have d:(l.map (Value.int .i64))[i]?=some (Iv x):=by simp[b]
  rw[<-o,XR,Xs (by omega)] at d
  exact⟨g,0,e.1,Qa f _ _ (by rw[XK];simpa using d)⟩
theorem Qcq.nil (w:World) (a:Option Addr):Qcq w a []:=fun i x b=>by simp at b
theorem Qcq.take (h:Qcq w a l) (k:Nat):Qcq w a (l.take k):=fun i x b=>by
 rw[XR] at b
 split at b
 ·exact h i x b
 ·cases b
theorem QcO {b:Option Addr}(p:l.length=N) (x:N<=100000) (n:Qcq w a l) (j:Qcq w b l) :
 Calls prog 28 #[.slice a N c,.slice b N d] w fun e w'=>e=.returned (.bool true)/\∃ m,w'=w.drewN m:=by
 have s:=Qc n;have v:=Qc j;have q:Hid (l.length=N):=p;clear n j p;go_enter func28,ntmps28
 go_wp2
 go_loopw [5] (fun i wr=>∃ k m:Nat,k<=N/\i=Iv k/\wr=w.drewN m) (fun i _=>N - (intOf i).toNat)
 case atStart=>exact⟨0,0,Xb _,Z,Z⟩
 case round =>
  obtain⟨k,m,B,rfl,rfl⟩:=hrel
  by_cases h:k<N
  ·have f:l[k]?=some (l[k]'(by rw[q.out];exact h)):=Zg _;generalize l[k]'(by rw[q.out];exact h)=y at f;obtain⟨g,o,rfl,z⟩:=s.out k y f
   obtain⟨A,C,rfl,r⟩:=v.out k y f
   have t:(k:Int)<N:=by omega
   have u:(0:Int)<=k:=by omega
   clear f;go_wp2_with fail
   go_quiet (fail)
   go_wp2
   go_roundw
   case rel=>exact⟨k+1,_,by omega,by go_num,Z⟩
   case measure=>simp[intOf];omega
  ·go_wp2
   go_ret;exact⟨Z,_,Z⟩
theorem Qci {b:Option Addr}(k:l.length=N) (f:N<=100000) (i:Qcq w a l) (g:Qcq w b l) :
 Calls prog 28 #[.slice a N c,.slice b N d] w fun e w'=>e=.returned (.bool true)/\Below w.heap.size w w' :=
 (QcO k f i g).mono fun e w' ⟨j,m,h⟩=>⟨j,by rw[h];exact Qs Zr _⟩
theorem Qcq.drewN (h:Qcq w a l) (n:Nat):Qcq (w.drewN n) a l:=h.below (Qs Zr n)
theorem QdW {fin fuel:Int}{r:List Int}{a' b i:Option Addr}{c' d':Nat}(C:l.length<=100000) (F:r.length<=100000) (z:Qcq w a l) (y:Qcq w a' l) (A:Qcq w b r) (u:Qcq w i r) :
 Calls prog 26 #[.agg #[Iv fin,.slice a l.length c,.slice b r.length d,Iv fuel],.agg #[Iv fin,.slice a' l.length c',.slice i r.length d',Iv fuel]] w fun e w'=>e=.returned (.bool true)/\Below w.heap.size w w':=by
 have x:Hid (∀ f,Below w.heap.size w f->Calls prog 28 #[.slice a l.length c,.slice a' l.length c'] f fun e w'=>e=.returned (.bool true)/\Below f.heap.size f w'):=fun f m=>Qci Z C (z.below m) (y.below m);have v:Hid (∀ f,Below w.heap.size w f->Calls prog 28 #[.slice b r.length d,.slice i r.length d'] f fun e w'=>e=.returned (.bool true)/\Below f.heap.size f w'):=fun f m=>Qci Z F (A.below m) (u.below m);have k:=Qc (Qak w (.cells #[Iv fin,.slice a l.length c,.slice b r.length d,Iv fuel] 44) (.cells #[Iv fin,.slice a' l.length c',.slice i r.length d',Iv fuel] 44));clear z y A u;go_enter func26,ntmps26
 go_upto_region 1 with fail
 have g:=QhC w #[Iv fin,.slice a l.length c,.slice b r.length d,Iv fuel] 44 (.cells #[Iv fin,.slice a' l.length c',.slice i r.length d',Iv fuel] 44);have h:=Qb7 w (.cells #[Iv fin,.slice a l.length c,.slice b r.length d,Iv fuel] 44) #[Iv fin,.slice a' l.length c',.slice i r.length d',Iv fuel] 44;generalize (w.alloc (.cells #[Iv fin,.slice a l.length c,.slice b r.length d,Iv fuel] 44)).alloc (.cells #[Iv fin,.slice a' l.length c',.slice i r.length d',Iv fuel] 44)=G at k g h |-;generalize w.heap.size+1=Y at h |-;generalize w.heap.size=X at g |-;have H:=Qa g 0 _ Z;have J:=Qa g 1 _ Z;have s:=Qa g 2 _ Z;have p:=Qa g 3 _ Z;have I:=Qa h 0 _ Z;have B:=Qa h 1 _ Z;have t:=Qa h 2 _ Z;have q:=Qa h 3 _ Z;clear g h;go_wp2_with fail
 refine(x.out G k.out).mono ?_
 rintro L D ⟨rfl,j⟩;have o:=Qc (k.out.trans (j.mono k.out.size));have s:=Qo s j;have t:=Qo t j;have p:=Qo p j;have q:=Qo q j;clear x H J I B j k;go_wp2_with fail
 refine(v.out D o.out).mono ?_
 rintro M K ⟨rfl,n⟩;have E:=Qc (o.out.trans (n.mono o.out.size));have p:=Qo p n;have q:=Qo q n;clear v s t n o;go_wp2
 go_ret;exact⟨Z,E.out⟩
theorem QmQ (w:World) (c a:Int):Calls prog 49 #[Iv c,Iv a] w fun e w'=>e=.returned (Z4 c a)/\Below w.heap.size w w':=by
 have d:=Qc (QW w (.cells #[Iv 0,Iv 0] 32));have b:=Qc (Qf w #[Iv 0,Iv 0] 32);go_enter func49,ntmps49
 go_upto_region 1 with fail
 generalize w.alloc (.cells #[Iv 0,Iv 0] 32)=l at d b |-;have i:Hid (w.heap.size<=w.heap.size):=Ze;generalize g:w.heap.size=X at b i d |-;have f:=Qc g;clear g;have q:=Qa b.out 0 _ Z;have m:=Qa b.out 1 _ Z;have n:=Qe b.out 0;have o:=Qe b.out 1;go_wp2
 have h:=Zz b.out (Iv c) (Iv a);have j:=Qa h 0 _ Z;have k:=Qa h 1 _ Z;refine Xy (v:=Z4 c a) (by simp[results,results49,go_sem,j,k]) Z ⟨Z,?_⟩;rw[<-f.out] at d |-
 exact(d.out.setCell (p:=⟨_,0,none⟩) Ze _).setCell (p:=⟨_,1,none⟩) Ze _
def QaQ (n:Nat) (fu pg:Int):Value:=if 200<n\/fu<0\/20000<fu\/pg<0\/64<pg then Z4 1 (-1) else Z4 0 0
theorem Qfu (h:200<n\/fu<0\/20000<fu\/pg<0\/64<pg):QaQ n fu pg=Z4 1 (-1):=Xs h
theorem QfB (h:¬ (200<n\/fu<0\/20000<fu\/pg<0\/64<pg)):QaQ n fu pg=Z4 0 0:=Xr h
theorem Qds (w:World) (p:Option Addr) (n c:Nat) (b g:Int) (hn:n<1152921504606846976) :
 Calls prog 15 #[.slice p n c,Iv b,Iv g] w fun e w'=>e=.returned (QaQ n b g)/\Below w.heap.size w w':=by
 have k:=Qc (QW w (.cells #[Iv 0,Iv 0] 32));have l:=Qc (Qf w #[Iv 0,Iv 0] 32);go_enter func15,ntmps15
 go_upto_region 1 with fail
 generalize w.alloc (.cells #[Iv 0,Iv 0] 32)=B at k l |-;have R:Hid (w.heap.size<=w.heap.size):=Ze;generalize O:w.heap.size=X at l R k |-;have f:=Qc O;clear O;have F:=Qa l.out 0 _ Z;have x:=Qa l.out 1 _ Z;have A:=Qe l.out 0;have D:=Qe l.out 1;have d:(200<n\/b<0\/20000<b\/g<0\/64<g)->Hid (QaQ n b g=Z4 1 (-1)):=fun h=>Qfu h;have t:¬ (200<n\/b<0\/20000<b\/g<0\/64<g)->Hid (QaQ n b g=Z4 0 0):=fun h=>QfB h;have o:Hid (∀ y,Calls prog 49 #[Iv 1,Iv (-1)] y fun e w'=>e=.returned (Z4 1 (-1))/\Below y.heap.size y w'):=fun y=>QmQ y 1 (-1);by_cases s:200<n
 ·have E:=d (.inl s);have z:decide ((n:Int)>200)=true:=Xt (by omega);clear d t s;go_wp2_with fail
  refine(o.out B).mono ?_
  rintro H K ⟨rfl,j⟩;have a:=Qc (Blk.below l.out j);have F:=Qa a.out 0 _ Z;have x:=Qa a.out 1 _ Z;have A:=Qe a.out 0;have D:=Qe a.out 1;have r:=Qc (k.out.trans (j.mono (by have I:=k.out.size;have G:=f.out;omega)));have i:=Qc (Zz a.out (Iv 1) (Iv (-1)));go_wp2
  have m:=Qa i.out 0 _ Z;have q:=Qa i.out 1 _ Z;refine Xy (v:=QaQ n b g) (by rw[E.out];simp[results,results15,go_sem,m,q,Z4]) Z ⟨Z,?_⟩;rw[f.out]
  exact(r.out.setCell (p:=⟨_,0,none⟩) Ze _).setCell (p:=⟨_,1,none⟩) Ze _
 by_cases u:b<0
 ·have E:=d (.inr (.inl u));have z:decide ((n:Int)>200)=false:=Xu (by omega);have L:decide (b<0)=true:=Xt (by omega);clear d t s u;go_wp2_with fail
  refine(o.out B).mono ?_
  rintro H K ⟨rfl,j⟩;have a:=Qc (Blk.below l.out j);have F:=Qa a.out 0 _ Z;have x:=Qa a.out 1 _ Z;have A:=Qe a.out 0;have D:=Qe a.out 1;have r:=Qc (k.out.trans (j.mono (by have I:=k.out.size;have G:=f.out;omega)));have i:=Qc (Zz a.out (Iv 1) (Iv (-1)));go_wp2
  have m:=Qa i.out 0 _ Z;have q:=Qa i.out 1 _ Z;refine Xy (v:=QaQ n b g) (by rw[E.out];simp[results,results15,go_sem,m,q,Z4]) Z ⟨Z,?_⟩;rw[f.out]
  exact(r.out.setCell (p:=⟨_,0,none⟩) Ze _).setCell (p:=⟨_,1,none⟩) Ze _
 by_cases C:20000<b
 ·have E:=d (.inr (.inr (.inl C)));have z:decide ((n:Int)>200)=false:=Xu (by omega);have L:decide (b<0)=false:=Xu (by omega);have N:decide (b>20000)=true:=Xt (by omega);clear d t s u C;go_wp2_with fail
  refine(o.out B).mono ?_
  rintro H K ⟨rfl,j⟩;have a:=Qc (Blk.below l.out j);have F:=Qa a.out 0 _ Z;have x:=Qa a.out 1 _ Z;have A:=Qe a.out 0;have D:=Qe a.out 1;have r:=Qc (k.out.trans (j.mono (by have I:=k.out.size;have G:=f.out;omega)));have i:=Qc (Zz a.out (Iv 1) (Iv (-1)));go_wp2
  have m:=Qa i.out 0 _ Z;have q:=Qa i.out 1 _ Z;refine Xy (v:=QaQ n b g) (by rw[E.out];simp[results,results15,go_sem,m,q,Z4]) Z ⟨Z,?_⟩;rw[f.out]
  exact(r.out.setCell (p:=⟨_,0,none⟩) Ze _).setCell (p:=⟨_,1,none⟩) Ze _
 by_cases J:g<0
 ·have E:=d (.inr (.inr (.inr (.inl J))));have z:decide ((n:Int)>200)=false:=Xu (by omega);have L:decide (b<0)=false:=Xu (by omega);have N:decide (b>20000)=false:=Xu (by omega);have P:decide (g<0)=true:=Xt (by omega);clear d t s u C J;go_wp2_with fail
  refine(o.out B).mono ?_
  rintro H K ⟨rfl,j⟩;have a:=Qc (Blk.below l.out j);have F:=Qa a.out 0 _ Z;have x:=Qa a.out 1 _ Z;have A:=Qe a.out 0;have D:=Qe a.out 1;have r:=Qc (k.out.trans (j.mono (by have I:=k.out.size;have G:=f.out;omega)));have i:=Qc (Zz a.out (Iv 1) (Iv (-1)));go_wp2
  have m:=Qa i.out 0 _ Z;have q:=Qa i.out 1 _ Z;refine Xy (v:=QaQ n b g) (by rw[E.out];simp[results,results15,go_sem,m,q,Z4]) Z ⟨Z,?_⟩;rw[f.out]
  exact(r.out.setCell (p:=⟨_,0,none⟩) Ze _).setCell (p:=⟨_,1,none⟩) Ze _
 by_cases M:64<g
 ·have E:=d (.inr (.inr (.inr (.inr M))));have z:decide ((n:Int)>200)=false:=Xu (by omega);have L:decide (b<0)=false:=Xu (by omega);have N:decide (b>20000)=false:=Xu (by omega);have P:decide (g<0)=false:=Xu (by omega);have Q:decide (g>64)=true:=Xt (by omega);clear d t s u C J M;go_wp2_with fail
  refine(o.out B).mono ?_
  rintro H K ⟨rfl,j⟩;have a:=Qc (Blk.below l.out j);have F:=Qa a.out 0 _ Z;have x:=Qa a.out 1 _ Z;have A:=Qe a.out 0;have D:=Qe a.out 1;have r:=Qc (k.out.trans (j.mono (by have I:=k.out.size;have G:=f.out;omega)));have i:=Qc (Zz a.out (Iv 1) (Iv (-1)));go_wp2
  have m:=Qa i.out 0 _ Z;have q:=Qa i.out 1 _ Z;refine Xy (v:=QaQ n b g) (by rw[E.out];simp[results,results15,go_sem,m,q,Z4]) Z ⟨Z,?_⟩;rw[f.out]
  exact(r.out.setCell (p:=⟨_,0,none⟩) Ze _).setCell (p:=⟨_,1,none⟩) Ze _
 have E:=t (by omega);have z:decide ((n:Int)>200)=false:=Xu (by omega);have L:decide (b<0)=false:=Xu (by omega);have N:decide (b>20000)=false:=Xu (by omega);have P:decide (g<0)=false:=Xu (by omega);have Q:decide (g>64)=false:=Xu (by omega);clear d t s u C J M;have i:=Qc (Zz l.out (Iv 0) (Iv 0));go_wp2
 have m:=Qa i.out 0 _ Z;have q:=Qa i.out 1 _ Z;refine Xy (v:=QaQ n b g) (by rw[E.out];simp[results,results15,go_sem,m,q,Z4]) Z ⟨Z,?_⟩;rw[f.out]
 exact(k.out.setCell (p:=⟨_,0,none⟩) Ze _).setCell (p:=⟨_,1,none⟩) Ze _
theorem Qie (h:intsL.In w O l [.slice a n c]):∀ x∈l,Zp x:=fun x b=>by
 obtain⟨i,f⟩:=List.mem_iff_getElem?.1 b
 obtain⟨g,o,k,-,-,-,-,e,j,d⟩:=Yf h f
 exact⟨j,d⟩
theorem QkW {m:List (MFunc 6)}(h:(ZZ 6).In w O m [.slice a n c]):M64 m:=fun u o v t x d=>by
 obtain⟨i,f⟩:=List.mem_iff_getElem?.1 o
 obtain⟨_,_,_,-,-,-,-,p⟩:=Yf h f
 obtain⟨_,_,_,_,_,_,rfl,-,-,e,-⟩:=QaY p
 obtain⟨j,b⟩:=List.mem_iff_getElem?.1 t
 obtain⟨_,_,_,-,-,-,-,q⟩:=Yf e b
 obtain⟨_,_,_,_,_,rfl,-,g,-⟩:=Qcb q
 obtain⟨k,r⟩:=List.mem_iff_getElem?.1 d
 obtain⟨_,_,_,-,-,-,-,l⟩:=Yf g r
 obtain⟨_,_,_,_,rfl,-,-,s⟩:=QgW l
 exact s.2.2.2.2.2
theorem QjG {m:List (MFunc 6)}(f:(ZZ 6).In w All m [.slice pm m.length cm]) (g:QcD m) (b:intsL.In w All inp [.slice pi inp.length ci]) (a:(modFault m).1=0) (hi:inp.length<=200) (d:most<=20000) (h:pages<=64) :
 Calls prog 24 #[.agg #[.slice pm m.length cm],.slice pi inp.length ci,Iv (most:Int),Iv (pages:Int)] w fun e w'=>QeM w m inp most pages e w' :=
 QjN makeArr_any a (QkW f) d (QeL a ⟨by omega,Qie b⟩ (by omega)) (fun i c=>Qkr (Ya f c) g (Ya b c) a (Qie b) hi d h)
theorem five_runs:∃ M',IM.steps five6 aOp 9 2 (IM.start [] 0)=some M'/\M'.done=true/\M'.fin=0/\M'.back=[5]/\M'.out=[]/\M'.fuel=2:=⟨_,Z,Z,Z,Z,Z,Z⟩
theorem two_runs:∃ N,IM.steps two6 aOp 9 3 (IM.start [] 0)=some N/\N.done=false/\IM.step two6 aOp 9 N=none/\IM.place two6 N=3:=⟨_,Z,Z,Z,Z⟩
theorem QjR {e:Ending}(h:QeM w five6 [] 9 0 e w'):Below w.heap.size w w'/\∃ a c b d,e=.returned (.tuple #[.agg #[Iv 0,.slice a 1 c,.slice b 0 d,Iv 2],Z4 0 0])/\Qcq w' a [5]:=by
 obtain⟨y,j,i,s,p,l,n⟩:=five_runs
 refine⟨h.1,?_⟩
 rcases h.2 with ⟨B,⟨k,N,-,m,t,r,-⟩,-⟩|⟨k,z,-,x,q,v,o,rfl⟩
 ·exact(QcB j i m t r).elim
 ·have:=QdR x q j i
  subst this;obtain⟨C,A,rfl,g,u⟩:=o
  obtain⟨a,c,rfl,-⟩:=id g
  obtain⟨b,d,rfl,-⟩:=id u
  have f:=g.lg;rw[s,n]
  rw[p] at f |-
  rw[l]
  exact⟨a,c,b,d,Z,f.2⟩
theorem QlL {e:Ending}(h:QeM w two6 [] 9 0 e w'):Below w.heap.size w w'/\e=.returned (.tuple #[.agg #[Iv 0,Nv,Nv,Iv 0],Z4 20 3]):=by
 obtain⟨n,c,b,d,i⟩:=two_runs
 refine⟨h.1,?_⟩
 rcases h.2 with ⟨p,⟨k,N,-,l,f,g,a⟩,rfl⟩|⟨k,o,-,m,j,v,q,rfl⟩
 ·have:=Qig l f g c b d
  subst this;rw[a,i]
 ·exact(QcB m j c b d).elim
theorem Qdx (w:World):Calls prog 9 #[] w fun e w'=>e=.returned (.bool true)/\Below w.heap.size w w':=by
 go_enter func9,ntmps9
 go_wp2_with fail
 refine(Qkl w).mono ?_
 rintro e1 w1 ⟨G2,rfl,V,W⟩;have o:=Qc (QjG (inp:=[]) (most:=9) (pages:=0) V (QbD five_not) (Qm3 w1) (congrArg Prod.fst five_fault) (by decide) (by decide) (by decide));have A:=Qc W;clear V W;go_wp2_with fail
 refine o.out.mono ?_;rintro e2 s p;obtain⟨M,a,c,b,d,rfl,G⟩:=QjR p
 have L:=Qc (A.out.trans (M.mono A.out.size));have E:=Qc (Bxs.start s);have HL:=Qc G;clear p M G o A;have h:=(E.out.new #[Iv 0,.slice a 1 c,.slice b 0 d,Iv 2] 44).new #[Iv 0,Iv 0] 32;rw[World.size_alloc] at h
 have h:=Qc h;go_upto_region 2 with fail
 generalize (s.alloc (.cells #[Iv 0,.slice a 1 c,.slice b 0 d,Iv 2] 44)).alloc (.cells #[Iv 0,Iv 0] 32)=u at h |-;generalize s.heap.size+1=F at h |-;generalize s.heap.size=O at h |-;clear E;go_wp2_with fail
 refine(Qfs u).mono ?_
 rintro e4 H ⟨R,k,rfl,J,X,N,Q,S,b4⟩
 have m:=Qc (((h.out.made b4 J N).add X (Zt h.out.bel.size Q) (fun b I=>by
  simp only[List.mem_cons,List.not_mem_nil,or_false] at I
  have h8:O<u.heap.size:=(h.out.at (a:=[_])).lt;have h9:F<u.heap.size:=(h.out.at (a:=[])).lt;rcases I with rfl | rfl | rfl
  ·exact S
  ·exact fun e=>by have e:F=k:=e;omega
  ·exact fun e=>by have e:O=k:=e;omega)).new #[.slice (some ⟨k,0,none⟩) 1 1] 24)
 clear J X N Q S b4 h;go_upto_region 3 with fail
 generalize H.alloc (.cells #[.slice (some ⟨k,0,none⟩) 1 1] 24)=n at m |-;generalize H.heap.size=Y at m |-;have t:=Qc (m.out.new tCode 78);have B:n.cell? ⟨Y,0,none⟩=some (.slice (some ⟨k,0,none⟩) 1 1):=m.out.cell (a:=[]) 0 _ Z;have g3:n.cell? ⟨k,3,none⟩=some (.slice (some ⟨R,0,none⟩) 1 1):=m.out.cell (a:=[_]) 3 _ Z;have c2:=t.out.cell (a:=[_,_,_]) 2 _ Z;have z2:=t.out.free (a:=[_,_,_]) 2;go_upto_region 4 with fail
 have j:=Qc (t.out.set (a:=[_,_,_]) 2 (.slice (some ⟨n.heap.size,0,none⟩) 4 4));clear m t B g3 c2 z2;generalize (n.alloc (.cells tCode 78)).setCell ⟨R,2,none⟩ (.slice (some ⟨n.heap.size,0,none⟩) 4 4)=v at j |-;generalize n.heap.size=C at j |-;have B:v.cell? ⟨Y,0,none⟩=some (.slice (some ⟨k,0,none⟩) 1 1):=j.out.cell (a:=[_]) 0 _ Z;have M6:=Qmv (w:=v) (j.out.at (a:=[_,_,_])) (j.out.at (a:=[_,_])) (j.out.at (a:=[]));have o:=Qc (QjG (inp:=[]) (most:=9) (pages:=0) M6 (QbD two_not) (Qm3 v) (congrArg Prod.fst two_fault) (by decide) (by decide) (by decide));clear M6;go_wp2_with fail
 refine o.out.mono ?_;rintro e7 y p;obtain⟨K,rfl⟩:=QlL p
 have f:=(j.out.below K).new #[Iv 0,Nv,Nv,Iv 0] 44 |>.new #[Iv 20,Iv 3] 32
 rw[World.size_alloc] at f
 have f:=Qc f;clear p K o j B;go_upto_region 5 with fail
 generalize (y.alloc (.cells #[Iv 0,Nv,Nv,Iv 0] 44)).alloc (.cells #[Iv 20,Iv 3] 32)=g at f |-;generalize y.heap.size+1=U at f |-;generalize y.heap.size=O2 at f |-;have f0:g.cell? ⟨F,0,none⟩=some (Iv 0):=f.out.cell (a:=[_,_,_,_,_,_]) 0 _ Z;have o0:g.cell? ⟨O,0,none⟩=some (Iv 0):=f.out.cell (a:=[_,_,_,_,_,_,_]) 0 _ Z;have o1:g.cell? ⟨O,1,none⟩=some (.slice a 1 c):=f.out.cell (a:=[_,_,_,_,_,_,_]) 1 _ Z;have o2:g.cell? ⟨O,2,none⟩=some (.slice b 0 d):=f.out.cell (a:=[_,_,_,_,_,_,_]) 2 _ Z;have o3:g.cell? ⟨O,3,none⟩=some (Iv 2):=f.out.cell (a:=[_,_,_,_,_,_,_]) 3 _ Z;have z:=Qc (HL.out.below f.out.bel);have B8:=Qc (f.out.new #[Iv 5] 2)
 have HN:Qcq (g.alloc (.cells #[Iv 5] 2)) (some ⟨g.heap.size,0,none⟩) [5]:=fun i x q=>by
  match i,q with
  | 0,q=>cases q;exact⟨g.heap.size,0,Z,Qa (Qf g #[.int .i64 5] 2) 0 _ Z⟩
  | i+1,q=>exact absurd (Zi q).1 (by simp)
 have T:Hid (Calls prog 26 #[.agg #[Iv 0,.slice a 1 c,.slice b 0 d,Iv 2],.agg #[Iv 0,.slice (some ⟨g.heap.size,0,none⟩) 1 1,Nv,Iv 2]] (g.alloc (.cells #[Iv 5] 2)) fun e w'=>e=.returned (.bool true)/\Below (g.alloc (.cells #[Iv 5] 2)).heap.size (g.alloc (.cells #[Iv 5] 2)) w'):=QdW (l:=[5]) (r:=[]) (by decide) (by decide) (z.out.below (QW _ _)) HN (Qcq.nil _ _) (Qcq.nil _ _);clear HN;go_wp2_with fail
 refine T.out.mono ?_;rintro e9 P ⟨rfl,b9⟩;have D:=Qc (B8.out.below b9);have p0:P.cell? ⟨U,0,none⟩=some (Iv 20):=D.out.cell (a:=[_]) 0 _ Z;have p1:P.cell? ⟨U,1,none⟩=some (Iv 3):=D.out.cell (a:=[_]) 1 _ Z;clear b9 T B8 f0 o0 o1 o2 o3;go_wp2
 go_ret;exact⟨Z,L.out.trans (D.out.bel.mono L.out.size)⟩
theorem Qez (w:World) (n k:Int) (h:n<0\/k<n):Calls prog 45 #[Iv n,Iv k] w fun e w'=>e=.returned (.bool false)/\w'=w:=by
 by_cases a:n<0
 ·have b:decide (n>=0)=false:=Xu (by omega);clear h a;go_enter func45,ntmps45
  go_wp2
  go_ret;exact⟨Z,Z⟩
 ·have b:decide (n>=0)=true:=Xt (by omega);have c:decide (n<=k)=false:=Xu (by omega);clear h a;go_enter func45,ntmps45
  go_wp2
  go_ret;exact⟨Z,Z⟩
theorem QgU (w:World) (n k:Int) (h:0<=n/\n<=k):Calls prog 45 #[Iv n,Iv k] w fun e w'=>e=.returned (.bool true)/\w'=w:=by
 have b:decide (n>=0)=true:=Xt h.1;have a:decide (n<=k)=true:=Xt h.2;clear h;go_enter func45,ntmps45
 go_wp2
 go_ret;exact⟨Z,Z⟩
def QgJ {dd:Nat}(m:List (MFunc dd)) (n:Nat) (fu pg:Int) (c a:Int):Prop:=(c≠0/\modFault m=(c,a))\/((modFault m).1=0/\(200<n\/fu<0\/20000<fu\/pg<0\/64<pg)/\c=1/\a=-1)
theorem QgJ.ne {b:Nat}{m:List (MFunc b)}{c a:Int}(h:QgJ m n fu pg c a):c≠0:=by
 rcases h with h | h
 ·exact h.1
 ·rw[h.2.2.1];decide
theorem Qlf {M:Nat}{m:List (MFunc M)}{c a:Int}(N:(ZZ M).In w All m [.slice pm m.length cm]) (C:QcD m) (hn:n<1152921504606846976) (J:QgJ m n fu pg c a) :
 Calls prog 13 #[.agg #[.slice pm m.length cm],.slice pi n ci,Iv fu,Iv pg] w fun e w'=>e=.returned (.tuple #[.pointer none,Z4 c a])/\Below w.heap.size w w':=by
 have T:=Qc N;have S:=Qc C;have K:=Qc J;have HN:=Qc hn;have j:=Qc ((((Bxs.start w).new #[.slice pm m.length cm] 24)).new #[Iv 0,Iv 0] 32);clear N C J hn;go_enter func13,ntmps13
 go_upto_region 1 with fail
 rw[World.size_alloc] at j
 generalize (w.alloc (.cells #[.slice pm m.length cm] 24)).alloc (.cells #[Iv 0,Iv 0] 32)=u at j |-;generalize w.heap.size+1=Y at j |-;generalize w.heap.size=X at j |-;have U:u.cell? ⟨X,0,none⟩=some (.slice pm m.length cm):=j.out.cell (a:=[_]) 0 _ Z;obtain⟨d,g,o⟩:∃ d g,modFault m=(d,g):=⟨_,_,Z⟩
 have r:=Qc (QdL (Ya T.out j.out.bel) S.out);rw[o] at r
 have r:Hid (Calls prog 44 #[.agg #[.slice pm m.length cm]] u fun e w'=>e=.returned (Z4 d g)/\Below u.heap.size u w'):=r.out;have l:=Qc o;clear o;go_upto_region 2 with (go_at_call 44;refine r.out.mono ?_;rintro B I ⟨rfl,G⟩)
 have h:=Qc ((j.out.below G).new #[Iv d,Iv g] 32);clear r G j U;generalize I.alloc (.cells #[Iv d,Iv g] 32)=p at h |-;generalize I.heap.size=F at h |-;have W:p.cell? ⟨F,0,none⟩=some (Iv d):=h.out.cell (a:=[]) 0 _ Z;have Q:p.cell? ⟨F,1,none⟩=some (Iv g):=h.out.cell (a:=[]) 1 _ Z;have y0:=h.out.cell (a:=[_]) 0 _ Z;have y1:=h.out.cell (a:=[_]) 1 _ Z;have z0:=h.out.free (a:=[_]) 0;have z1:=h.out.free (a:=[_]) 1
 have x:Hid (∀ c a:Int,(((p.setCell ⟨Y,0,none⟩ (Iv c)).setCell ⟨Y,1,none⟩ (Iv a)).cell? ⟨Y,0,none⟩=some (Iv c)/\((p.setCell ⟨Y,0,none⟩ (Iv c)).setCell ⟨Y,1,none⟩ (Iv a)).cell? ⟨Y,1,none⟩=some (Iv a))/\Below w.heap.size w ((p.setCell ⟨Y,0,none⟩ (Iv c)).setCell ⟨Y,1,none⟩ (Iv a))):=fun c a=>by
  have y:=(h.out.set (a:=[_]) 0 (Iv c)).set (a:=[_]) 1 (Iv a);exact⟨⟨y.cell (a:=[_]) 0 _ Z,y.cell (a:=[_]) 1 _ Z⟩,y.bel⟩
 by_cases i:d=0
 ·subst i
  have E:Hid ((200<n\/fu<0\/20000<fu\/pg<0\/64<pg)/\c=1/\a=-1):=by
   rcases K.out with ⟨k,q⟩|⟨-,k⟩
   ·rw[l.out] at q;cases q;exact absurd Z k
   ·exact k
  have D:=Qc (x.out 1 (-1));clear x;by_cases hn:200<n
  ·have t:Hid (∀ b,Calls prog 45 #[Iv (n:Int),Iv 200] b fun e w'=>e=.returned (.bool false)/\w'=b):=fun b=>Qez b _ _ (.inr (by omega));clear hn;go_upto_region 5 with (go_at_call 45;with_reducible refine(t.out _).mono ?_;rintro B w' ⟨rfl,f⟩;have f:=f.symm;subst f)
   go_wp2
   exact Xy (v:=.tuple #[.pointer none,Z4 c a]) (by rw[E.out.2.1,E.out.2.2];simp[results,results13,go_sem,D.out.1.1,D.out.1.2,Z4]) Z ⟨Z,D.out.2⟩
  ·have t:Hid (∀ b,Calls prog 45 #[Iv (n:Int),Iv 200] b fun e w'=>e=.returned (.bool true)/\w'=b):=fun b=>QgU b _ _ ⟨by omega,by omega⟩;by_cases A:0<=fu/\fu<=20000
   ·have z:Hid (∀ b,Calls prog 45 #[Iv fu,Iv 20000] b fun e w'=>e=.returned (.bool true)/\w'=b):=fun b=>QgU b _ _ A;have P:Hid (∀ b,Calls prog 45 #[Iv pg,Iv 64] b fun e w'=>e=.returned (.bool false)/\w'=b):=fun b=>Qez b _ _ (by have:=E.out.1;omega);clear hn A;go_upto_region 5 with (go_at_call 45;(first | with_reducible refine(t.out _).mono ?_ | with_reducible refine(z.out _).mono ?_ | with_reducible refine(P.out _).mono ?_);rintro B w' ⟨rfl,f⟩;have f:=f.symm;subst f)
    go_wp2
    exact Xy (v:=.tuple #[.pointer none,Z4 c a]) (by rw[E.out.2.1,E.out.2.2];simp[results,results13,go_sem,D.out.1.1,D.out.1.2,Z4]) Z ⟨Z,D.out.2⟩
   ·have z:Hid (∀ b,Calls prog 45 #[Iv fu,Iv 20000] b fun e w'=>e=.returned (.bool false)/\w'=b):=fun b=>Qez b _ _ (by omega);clear hn A;go_upto_region 5 with (go_at_call 45;(first | with_reducible refine(t.out _).mono ?_ | with_reducible refine(z.out _).mono ?_);rintro B w' ⟨rfl,f⟩;have f:=f.symm;subst f)
    go_wp2
    exact Xy (v:=.tuple #[.pointer none,Z4 c a]) (by rw[E.out.2.1,E.out.2.2];simp[results,results13,go_sem,D.out.1.1,D.out.1.2,Z4]) Z ⟨Z,D.out.2⟩
 ·have d0:(d != 0)=true:=bne_iff_ne.2 i
  have E:Hid (c=d/\a=g):=by
   rcases K.out with ⟨k,q⟩|⟨k,-⟩
   ·rw[l.out] at q;cases q;exact⟨Z,Z⟩
   ·rw[l.out] at k;exact absurd k i
  have D:=Qc (x.out d g);clear i x;go_upto_region 3 with fail
  go_region
  all_goals
   go_wp2_with fail
   have H:=D.out;generalize (p.setCell ⟨Y,0,none⟩ (Iv d)).setCell ⟨Y,1,none⟩ (Iv g)=L at H |-;obtain⟨⟨R,q1⟩,s⟩:=H
   have O:L.drew.cell? ⟨Y,0,none⟩=some (Iv d):=R;have V:L.drew.cell? ⟨Y,1,none⟩=some (Iv g):=q1;exact Xy (v:=.tuple #[.pointer none,Z4 c a]) (by rw[E.out.1,E.out.2];simp[results,results13,go_sem,O,V,Z4]) Z ⟨Z,⟨s.os,s.tape,s.output,s.size,s.block⟩⟩
abbrev Qjg (c a:Int):Value:=.tuple #[.agg #[Iv 0,Nv,Nv,Iv 0],Z4 c a]
theorem QlF {y:Nat}{m:List (MFunc y)}{c a:Int}(z:(ZZ y).In w All m [.slice pm m.length cm]) (q:QcD m) (hn:n<1152921504606846976) (k:QgJ m n fu pg c a) :
 Calls prog 24 #[.agg #[.slice pm m.length cm],.slice pi n ci,Iv fu,Iv pg] w fun e w'=>e=.returned (Qjg c a)/\Below w.heap.size w w':=by
 have d:=((((Bxs.start w).new #[.slice pm m.length cm] 24)).new #[Iv 0,Nv,Nv,Iv 0] 44).new #[Iv 0,Iv 0] 32;rw[World.size_alloc,World.size_alloc] at d
 have d:=Qc d;have o:Hid (∀ j,Below w.heap.size w j->Calls prog 13 #[.agg #[.slice pm m.length cm],.slice pi n ci,Iv fu,Iv pg] j fun e w'=>e=.returned (.tuple #[.pointer none,Z4 c a])/\Below j.heap.size j w'):=fun j L=>Qlf (Ya z L) q hn k;have J:(c != 0)=true:=bne_iff_ne.2 k.ne;have T:decide (c=0)=false:=Xu k.ne;clear z q hn k;go_enter func24,ntmps24
 go_upto_region 1 with fail
 generalize ((w.alloc (.cells #[.slice pm m.length cm] 24)).alloc (.cells #[Iv 0,Nv,Nv,Iv 0] 44)).alloc (.cells #[Iv 0,Iv 0] 32)=s at d |-;generalize w.heap.size+1+1=h at d |-;generalize w.heap.size+1=f at d |-;generalize w.heap.size=X at d |-;have o:=Qc (o.out s d.out.bel);have G:s.cell? ⟨X,0,none⟩=some (.slice pm m.length cm):=d.out.cell (a:=[_,_]) 0 _ Z;go_upto_region 2 with (go_at_call 13;refine o.out.mono ?_;rintro e' r ⟨rfl,x⟩)
 have l:=Qc ((d.out.below x).new #[Iv c,Iv a] 32);clear d o G x;generalize r.alloc (.cells #[Iv c,Iv a] 32)=H at l |-;generalize r.heap.size=F at l |-;have e0:(c==0)=false:=by simpa using J
 go_loopw [] (fun wr=>Hid (wr=H)) (fun _=>0)
 case atStart=>exact Z
 case round =>
  have b:=l.out;rw[<-hrel.out] at b
  have b:=Qc b;clear hrel l;have N:wr.cell? ⟨F,0,none⟩=some (Iv c):=b.out.cell (a:=[]) 0 _ Z;have Q:wr.cell? ⟨F,1,none⟩=some (Iv a):=b.out.cell (a:=[]) 1 _ Z;have W:=b.out.cell (a:=[_,_]) 0 _ Z;have O:=b.out.cell (a:=[_,_]) 1 _ Z;have R:=b.out.cell (a:=[_,_]) 2 _ Z;have V:=b.out.cell (a:=[_,_]) 3 _ Z;have U:=b.out.free (a:=[_,_]) 0;have z1:=b.out.free (a:=[_,_]) 1;have z2:=b.out.free (a:=[_,_]) 2;have S:=b.out.free (a:=[_,_]) 3;have s0:=b.out.cell (a:=[_]) 0 _ Z;have s1:=b.out.cell (a:=[_]) 1 _ Z;have y0:=b.out.free (a:=[_]) 0;have P:=b.out.free (a:=[_]) 1;have p:¬ f=h:=fun e=>by have:=b.out.nd;simp[e] at this
  have u:¬ h=f:=fun e=>p e.symm;have B:¬ F=f:=fun e=>by have:=b.out.nd;simp[e] at this
  have C:¬ F=h:=fun e=>by have:=b.out.nd;simp[e] at this
  go_upto_region 5 with fail
  go_region
  all_goals
   go_wp2_with fail
   have t:=(((((b.out.set (a:=[_,_]) 0 (Iv 0)).set (a:=[_,_]) 1 (Nv)).set (a:=[_,_]) 2 (Nv)).set (a:=[_,_]) 3 (Iv 0)).set (a:=[_]) 0 (Iv c)).set (a:=[_]) 1 (Iv a);generalize ((((((wr.setCell ⟨f,0,none⟩ (Iv 0)).setCell ⟨f,1,none⟩ (Nv)).setCell ⟨f,2,none⟩ (Nv)).setCell ⟨f,3,none⟩ (Iv 0)).setCell ⟨h,0,none⟩ (Iv c)).setCell ⟨h,1,none⟩ (Iv a))=i at t |-;have g:=t.drew;have A:i.drew.cell? ⟨f,0,none⟩=some (Iv 0):=g.cell (a:=[_,_]) 0 _ Z;have I:i.drew.cell? ⟨f,1,none⟩=some (Nv):=g.cell (a:=[_,_]) 1 _ Z;have K:i.drew.cell? ⟨f,2,none⟩=some (Nv):=g.cell (a:=[_,_]) 2 _ Z;have M:i.drew.cell? ⟨f,3,none⟩=some (Iv 0):=g.cell (a:=[_,_]) 3 _ Z;have E:i.drew.cell? ⟨h,0,none⟩=some (Iv c):=g.cell (a:=[_]) 0 _ Z;have D:i.drew.cell? ⟨h,1,none⟩=some (Iv a):=g.cell (a:=[_]) 1 _ Z;exact Xy (v:=Qjg c a) (by simp[results,results24,go_sem,A,I,K,M,E,D,Z4]) Z ⟨Z,g.bel⟩
def KTo (wA w:World) (b:Nat) (O:Nat->Prop) (s:JSt):Prop:=∃ O',KAt w b O' s/\QE O O' wA w/\∀ k,O' k->k<w.heap.size
section
variable {w w9 wA:World}{b:Nat}{O:Nat->Prop}{L:List Bool}{s:JSt}
theorem QN.keep2 (h:QN w b O L) (hb:∀ (g:Nat) (c:Array Value) (t:TypeId),w.heap[g]?=some (Obj.cells c t (0,0))->t=180\/t=4->w9.heap[g]?=w.heap[g]?) (e:∀ g,O g->O' g):QN w9 b O' L:=by
 obtain⟨v,f,d,j⟩:=h
 exact⟨v,(hb b _ _ f (.inl Z)).trans f,d.keep (fun g a=>by obtain⟨c,i⟩:=d.block a;exact hb g _ _ i (.inr Z)) (fun g a=>e g (d.2 g a)),e b j⟩
theorem KAt.setH (P:∀ k,O k->k<wA.heap.size) (h:KAt wA b O s):∃ hh a cap,wA.cell? ⟨b,5,none⟩=some (Pv hh 0)/\wA.cell? ⟨hh,0,none⟩=some (.slice a s.H.length cap) /\
 ∀ i,i<s.H.length->∃ g,a=some ⟨g,0,none⟩/\(∃ u,wA.cell? ⟨g,i,none⟩=some (.bool u))/\wA.frozen? ⟨g,i,none⟩=false/\KTo wA (wA.setCell ⟨g,i,none⟩ (.bool false)) b O { s with H:=s.H.set i false }:=by
 obtain⟨J,E,Q,y,U,B,R,C,hh,S,p,M,T,t,q,z⟩:=h
 obtain⟨a,cap,x,W,X,A⟩:=t.cells
 have D:∀ l,(Value.slice a s.H.length cap).ownBlock=some l->O l/\∃ c,wA.heap[l]?=some (.cells c 4 (0,0)):=by
  obtain⟨v,w,m,G⟩:=id t
  have e:=Qa w 0 _ Z;rw[x] at e
  simp only[Option.some.injEq] at e
  subst e;exact fun l f=>⟨m.2 l f,m.block f⟩
 refine⟨hh,a,cap,Qa p 5 _ Z,x,fun i K=>?_⟩
 obtain⟨g,rfl,F,L,N,V⟩:=A i K
 obtain⟨c,r⟩:=(D g Z).2
 have n:QE O O wA (wA.setCell ⟨g,i,none⟩ (.bool false)):=⟨Z,Z,Z,by simp,fun k d I=>Xd _ _ _ _ (fun e=>I (by subst e;exact F)),fun k d=>.inl d⟩;refine⟨g,Z,⟨_,L⟩,N,O,⟨J,E,Q,y,U,B,R,C,hh,S,?_,(ZZ 6).keep (fun k d j=>n.block k j d) (fun k d _=>d) M,(ZW 6).keep (fun k d j=>n.block k j d) (fun k d _=>d) T,V false,q.keep (fun k j d=>?_) (fun k d=>?_) (fun k d _=>d),z⟩,n,fun k d=>by rw[World.size_setCell];exact P k d⟩
 ·rw[Xd _ _ _ _ (show b≠g from QK p r (by decide))];exact p
 ·rcases d with d | d
  ·obtain⟨c',o⟩:=q.block d
   exact Xd _ _ _ _ (show k≠g from QK o r (by decide))
  ·exact n.block k j d
 ·obtain⟨xs,w,m,G⟩:=q
  exact m k d
theorem KAt.pushL (hO:∀ k,O k->k<wA.heap.size) (h:KAt wA b O s):∃ aL cL xs,wA.cell? ⟨b,6,none⟩=some (.slice aL s.L.length cL)/\wA.frozen? ⟨b,6,none⟩=false/\s.L.length<=cL/\wA.ownsRow 0 105 3 (.slice aL s.L.length cL) s.L.length xs /\
 ∀ w9 g cap2 (l:List (TT 6)) ds,ds.length=l.length*3->w9.ownsRow 0 105 3 (.slice (some ⟨g,0,none⟩) (s.L.length+l.length) cap2) (s.L.length+l.length) (xs++ds)->wA.grownBy w9 (Value.slice aL s.L.length cL).ownBlock->((Value.slice aL s.L.length cL).ownBlock=some g\/g=wA.heap.size)->g<w9.heap.size ->
  (∀ i x,l[i]?=some x->(Lay.tt 6).In wA (fun g=>¬ O g) x ((ds.drop (i*3)).take 3)) ->
  w9.cell? ⟨b,6,none⟩=some (.slice aL s.L.length cL)/\w9.frozen? ⟨b,6,none⟩=false/\KTo wA (w9.setCell ⟨b,6,none⟩ (.slice (some ⟨g,0,none⟩) (s.L.length+l.length) cap2)) b O { s with L:=s.L++l }:=by
 obtain⟨pm,cm,a1,Q,a2,U,a3,V,N,vL,o,k2,k3,M,y,G⟩:=h
 obtain⟨aL,cL,rfl,-,-⟩:=y.form
 have w:∀ {f},(Value.slice aL s.L.length cL).ownBlock=some f->O f/\∃ c,wA.heap[f]?=some (.cells c 105 (0,0)):=fun {f} d=>⟨by obtain⟨xs,p,H,I⟩:=id y;exact H f d,y.block d⟩;obtain⟨xs,p,H,I⟩:=y
 obtain⟨ch,W⟩:∃ c,wA.heap[N]?=some (.cells c 180 (0,0)):=by obtain⟨v,p,-⟩:=id M;exact⟨_,p⟩
 have A:=XC o
 have r:∀ f,(Value.slice aL s.L.length cL).ownBlock=some f->b≠f:=fun f d=>by
  obtain⟨c,X⟩:=(w d).2
  exact QK o X (by decide)
 have F:s.L.length<=cL:=by
  obtain⟨-,q⟩:=id p
  rcases q with ⟨e,e2⟩|⟨g,ab,S,e,_,_,C,_⟩
  ·omega
  ·simp only[Value.slice.injEq] at e;omega
 refine⟨aL,cL,xs,Qa o 6 _ Z,Qe o 6,F,p,fun w9 g cap2 l ds R h1 n K h4 T=>?_⟩
 have aa:=n.size;have D:=(n.block b A (fun e=>r b e.symm Z)).trans o
 have B:b≠g:=by
  rcases K with h | h
  ·exact r g h
  ·omega
 have j:∀ k,¬ O k->k<wA.heap.size->¬ (O k\/(wA.heap.size<=k/\k<w9.heap.size)):=fun k a m e=>by rcases e with e | e;exact a e;omega
 have u:QE O (fun x=>O x\/(wA.heap.size<=x/\x<w9.heap.size)) wA (w9.setCell ⟨b,6,none⟩ (.slice (some ⟨g,0,none⟩) (s.L.length+l.length) cap2)):=by
  refine⟨n.os,n.tape,n.output,by simp;omega,fun k a C=>?_,fun k a=>a.imp id fun h=>h.1⟩
  rw[Xd _ _ _ _ (fun e=>C (by subst e;exact G)),n.block k a (fun e=>C (w e.symm).1)]
 refine⟨Qa D 6 _ Z,Qe D 6,_,⟨pm,cm,a1,Q,a2,U,a3,V,N,.slice (some ⟨g,0,none⟩) (s.L.length+l.length) cap2,?_,(ZZ 6).keep (fun k a m=>u.block k m a) j k2,(ZW 6).keep (fun k a m=>u.block k m a) j k3,M.keep2 (fun k c t a J=>?_) (fun k a=>.inl a),?_,.inl G⟩,u,fun k a=>?_⟩
 ·rw[Qh D];rfl
 ·rw[Xd _ _ _ _ (show k≠b from QK a o (by rcases J with rfl | rfl<;>decide)),n.block k (XC a) (fun e=>by obtain⟨c',z⟩:=(w e.symm).2;exact QK a z (by rcases J with rfl | rfl<;>decide) Z)]
 ·refine⟨xs++ds,?_,fun k a=>?_,?_⟩
  ·rw[List.length_append]
   exact QcI h1 (Xd _ _ _ _ (show g≠b from fun e=>B e.symm))
  ·simp[Value.ownBlock] at a
   subst a;rcases K with h | h
   ·exact .inl (w h).1
   ·exact .inr ⟨by omega,h4⟩
  ·refine Qbq (s:=3) (P:=fun x cs=>(Lay.tt 6).In _ _ x cs) p.1 (fun i x E=>?_) (fun i x E=>?_)
   ·exact(Lay.tt 6).keep (fun k a m=>u.block k m a) j (I i x E)
   ·exact(Lay.tt 6).keep (fun k a m=>u.block k m a) j (T i x E)
 ·rw[World.size_setCell]
  rcases a with a | a
  ·have:=hO k a;omega
  ·exact a.2
end
theorem Qad.via {l:List Oper}{S:Nat->Bool}(a:Qad l S){o:Oper}(d:l[q]?=some o) (c:QbE l 24 o i=true) (b:S q=true):S i=true :=
 Qa4 (all:=l) (S:=fun j=>S j=true) a 24 o c (a q o d b)
theorem Qad.no {l:List Oper}{S:Nat->Bool}(a:Qad l S){o:Oper}(d:l[q]?=some o) (b:QbE l 24 o i=true) (c:S i=false):S q=false:=by
 cases h:S q with
 | false=>rfl
 | true=>have:=a.via d b h;rw[c] at this;cases this
theorem QaC {S:Nat->Bool}(h:j≠i):ZE i S j=S j:=by
 have:(j==i)=false:=by simpa using h
 unfold ZE;rw[this,Bool.false_or]
def hTi:List (Nat × Tmp):=[(0,38),(1,39),(2,40),(3,41),(4,42),(5,43),(6,44),(7,45),(8,46),(9,47),(10,48),(11,49),(12,50),(13,51),(14,52)]
def hMv (b hh rn rc G g2 cap2:Nat) (ra:Option Addr):List (Tmp × Value):=[(38,Pv b 0),(39,Pv b 0),(40,Pv b 5),(41,Pv hh 0),(42,Pv b 0),(43,Pv b 0),(44,Pv b 5),(45,Pv hh 0),(46,Pv hh 0),(47,Pv hh 0),(48,.slice ra rn rc),(49,.slice (some ⟨G,0,none⟩) 1 1),(50,.slice (some ⟨g2,0,none⟩) (rn+1) cap2),(51,Pv hh 0),(52,Pv hh 0)]
def HIv (n:Nat) (a0:Act) (wA:World) (b:Nat) (O:Nat->Prop) (s:JSt) (hh rn rc:Nat) (ra:Option Addr) (S:Nat->Bool) (a:Act) (w:World):Prop :=
 a.tmps.size=n/\a.defers=[]/\(∀ t,([38,39,40,41,42,43,44,45,46,47,48,49,50,51,52]:List Tmp).contains t=false->a.tmps.getD t undef=a0.tmps.getD t undef)/\∃ G g2 cap2,
  (∀ x∈hTi,S x.1=true->∀ v,(hMv b hh rn rc G g2 cap2 ra).lookup x.2=some v->a.tmps.getD x.2 undef=v) /\
  (S 15=false->wA.grownBy w (Value.slice ra rn rc).ownBlock/\(S 12=false->Below wA.heap.size wA w/\(S 11=true->wA.heap.size<=G/\w.heap[G]?=some (.cells #[.bool true] 4 (0,0)))) /\
   (S 12=true->w.ownsRow 0 4 1 (.slice (some ⟨g2,0,none⟩) (rn+1) cap2) (rn+1) (s.H.map Value.bool++[.bool true])/\((Value.slice ra rn rc).ownBlock=some g2\/wA.heap.size<=g2)/\g2<w.heap.size)) /\
  (S 15=true->KTo wA w b O { s with H:=s.H++[true] })
section
variable {n:Nat}{a0 a:Act}{wA w w':World}{b hh rn rc:Nat}{O:Nat->Prop}{s:JSt}{ra:Option Addr}{S:Nat->Bool}
theorem hTi_lt:∀ x∈hTi,x.2<53/\([38,39,40,41,42,43,44,45,46,47,48,49,50,51,52]:List Tmp).contains x.2=true:=by decide
theorem HIv.pure {t:Tmp}(D:HIv n a0 wA b O s hh rn rc ra S a w) (hn:53<=n) (hi:(i,t)∈hTi) (A:∀ G g2 cap2,(hMv b hh rn rc G g2 cap2 ra).lookup t=some v) (k:i≠11) (g:i≠12) (d:i≠15):HIv n a0 wA b O s hh rn rc ra (ZE i S) (a.put (some t) v) w:=by
 obtain⟨l,C,F,G,g2,cap2,B,p,q⟩:=D
 obtain⟨E,j⟩:=hTi_lt _ hi
 have f:t<a.tmps.size:=by rw[l];exact Zl E hn
 refine⟨by rw[<-l];simp[Act.put],C,fun u h=>?_,G,g2,cap2,fun x m o r c=>?_,?_,?_⟩
 ·have:u≠t:=fun e=>by subst e;rw[j] at h;cases h
  rw[Zk f,Xr this];exact F u h
 ·rw[Zk f]
  by_cases e:x.2=t
  ·rw[Xs e];rw[e,A] at c;exact Xn c
  ·rw[Xr e]
   refine B x m (Zb (fun z=>e ?_) o) r c
   have:∀ x∈hTi,∀ y∈hTi,x.1=y.1->x.2=y.2:=by decide
   exact this x m (i,t) hi z
 ·rw[QaC (Ne.symm d),QaC (Ne.symm g),QaC (Ne.symm k)];exact p
 ·rw[QaC (Ne.symm d)];exact q
end
def TRi (w:World) (lo hi:Nat) (v:Value) (ts:List (TT 6)):Prop :=
 ∃ xs,w.ownsRow 0 105 3 v ts.length xs/\(∀ g,v.ownBlock=some g->lo<=g/\g<hi)/\∀ i x,ts[i]?=some x->(Lay.tt 6).In w (fun k=>lo<=k/\k<hi/\v.ownBlock≠some k) x ((xs.drop (i*3)).take 3)
theorem TRi.below {w w':World}{lo hi:Nat}{c:List (TT 6)}(h:TRi w lo hi v c) (k:Below w.heap.size w w'):TRi w' lo hi v c:=by
 obtain⟨p,⟨n,j⟩,o,l⟩:=h
 refine⟨p,⟨n,?_⟩,o,fun i x e=>Ya (l i x e) k⟩
 rcases j with m | ⟨g,b,a,rfl,f,d,r⟩
 ·exact .inl m
 ·exact .inr ⟨g,b,a,Z,f,(k.block g (XC d)).trans d,r⟩
structure KZ where
 h:Nat
 lo:Nat
 hi:Nat
 lo2:Nat
 hi2:Nat
 B:Nat
 c:Nat
 a:Option Addr
def kTi:List (Nat × Tmp):=[(0,17),(1,18),(2,19),(3,20),(4,21),(5,22),(6,23),(7,24),(8,25),(9,26),(10,27),(11,28),(12,29),(13,30),(14,6)]
def kMv (X mg mo nm cm fi Bk n1 d1 fl fc fm fd fn ff:Nat) (fr gr:Int) (fa fb fe p1:Option Addr) (z:KZ):List (Tmp × Value):=[(17,.agg #[.slice (some ⟨mg,mo,none⟩) nm cm]),(18,Pv X 0),(19,.slice (some ⟨mg,mo,none⟩) nm cm),(20,Iv (fi:Int)),(21,Pv mg (mo+fi*4)),(22,.agg #[Iv fr,.slice fa fl fc,.slice fb fm fd,.slice fe fn ff]),(23,Pv Bk 0),(24,Iv gr),(25,Pv z.h 0),(26,Pv Bk 1),(27,.slice p1 n1 d1),(28,.slice z.a n1 z.c),(29,.agg #[.slice (some ⟨mg,mo,none⟩) nm cm,Iv fr,.slice fa fl fc,.slice fb fm fd,.slice fe fn ff,Pv z.h 0,.slice z.a n1 z.c]),(30,Pv z.B 0),(6,Pv z.B 0)]
structure KIv (X mg mo nm cm fi Bk n1 d1 fl fc fm fd fn ff:Nat) (fr gr:Int) (fa fb fe p1:Option Addr) (n:Nat) (a0:Act) (w6:World) (ts:List (TT 6)) (z:KZ) (S:Nat->Bool) (a:Act) (w:World):Prop where
 size:a.tmps.size=n
 defers:a.defers=[]
 outer:∀ t,([17,18,19,20,21,22,23,24,25,26,27,28,29,30,6]:List Tmp).contains t=false->a.tmps.getD t undef=a0.tmps.getD t undef
 vals:∀ x∈kTi,S x.1=true->∀ v,(kMv X mg mo nm cm fi Bk n1 d1 fl fc fm fd fn ff fr gr fa fb fe p1 z).lookup x.2=some v->a.tmps.getD x.2 undef=v
 bel:Below w6.heap.size w6 w
 held:S 8=true->w6.heap.size<=z.lo/\z.hi<=w.heap.size/\QN w z.h (fun k=>z.lo<=k/\k<z.hi) (QjK gr)
 row:S 11=true->w6.heap.size<=z.lo2/\z.hi2<=w.heap.size/\TRi w z.lo2 z.hi2 (.slice z.a n1 z.c) ts
 apart:S 8=true->S 11=true->z.hi<=z.lo2\/z.hi2<=z.lo
 box:S 13=true->w6.heap.size<=z.B/\z.hi<=z.B/\z.hi2<=z.B/\Blk w z.B #[.slice (some ⟨mg,mo,none⟩) nm cm,Iv fr,.slice fa fl fc,.slice fb fm fd,.slice fe fn ff,Pv z.h 0,.slice z.a n1 z.c] 175
section
variable {X mg mo nm cm fi Bk n1 d1 fl fc fm fd fn ff:Nat}{fr gr:Int}{fa fb fe p1:Option Addr}{n:Nat}{a0 a:Act}{w6 w w':World}{ts:List (TT 6)}{z:KZ}{S:Nat->Bool}
theorem kTi_lt:∀ x∈kTi,x.2<31/\([17,18,19,20,21,22,23,24,25,26,27,28,29,30,6]:List Tmp).contains x.2=true:=by decide
theorem kTi_ne:∀ x∈kTi,∀ y∈kTi,x.1=y.1->x.2=y.2:=by decide
theorem KIv.put {b:KZ}{t:Tmp}(l:KIv X mg mo nm cm fi Bk n1 d1 fl fc fm fd fn ff fr gr fa fb fe p1 n a0 w6 ts z S a w) (hn:31<=n) (hi:(i,t)∈kTi) (A:(kMv X mg mo nm cm fi Bk n1 d1 fl fc fm fd fn ff fr gr fa fb fe p1 b).lookup t=some v) (H:∀ x∈kTi,x.1≠i->S x.1=true->(kMv X mg mo nm cm fi Bk n1 d1 fl fc fm fd fn ff fr gr fa fb fe p1 b).lookup x.2=(kMv X mg mo nm cm fi Bk n1 d1 fl fc fm fd fn ff fr gr fa fb fe p1 z).lookup x.2)
 (E:Below w6.heap.size w6 w') (D:ZE i S 8=true->w6.heap.size<=b.lo/\b.hi<=w'.heap.size/\QN w' b.h (fun k=>b.lo<=k/\k<b.hi) (QjK gr)) (G:ZE i S 11=true->w6.heap.size<=b.lo2/\b.hi2<=w'.heap.size/\TRi w' b.lo2 b.hi2 (.slice b.a n1 b.c) ts)
 (C:ZE i S 8=true->ZE i S 11=true->b.hi<=b.lo2\/b.hi2<=b.lo) (r:ZE i S 13=true->w6.heap.size<=b.B/\b.hi<=b.B/\b.hi2<=b.B/\Blk w' b.B #[.slice (some ⟨mg,mo,none⟩) nm cm,Iv fr,.slice fa fl fc,.slice fb fm fd,.slice fe fn ff,Pv b.h 0,.slice b.a n1 b.c] 175) :
 KIv X mg mo nm cm fi Bk n1 d1 fl fc fm fd fn ff fr gr fa fb fe p1 n a0 w6 ts b (ZE i S) (a.put (some t) v) w':=by
 obtain⟨F,o⟩:=kTi_lt _ hi
 have j:t<a.tmps.size:=by rw[l.size];exact Zl F hn
 refine⟨by rw[<-l.size];simp[Act.put],l.defers,fun u m=>?_,fun x p q s d=>?_,E,D,G,C,r⟩
 ·have:u≠t:=fun e=>by subst e;rw[o] at m;cases m
  rw[Zk j,Xr this];exact l.outer u m
 ·rw[Zk j]
  by_cases e:x.2=t
  ·rw[Xs e];rw[e,A] at d;exact Xn d
  ·rw[Xr e]
   have f:x.1≠i:=fun y=>e (kTi_ne x p (i,t) hi y);have g:=Zb f q;rw[H x p f g] at d
   exact l.vals x p g s d
theorem KIv.pure {t:Tmp}(b:KIv X mg mo nm cm fi Bk n1 d1 fl fc fm fd fn ff fr gr fa fb fe p1 n a0 w6 ts z S a w) (hn:31<=n) (hi:(i,t)∈kTi) (f:(kMv X mg mo nm cm fi Bk n1 d1 fl fc fm fd fn ff fr gr fa fb fe p1 z).lookup t=some v) (e:i≠8) (c:i≠11) (d:i≠13):KIv X mg mo nm cm fi Bk n1 d1 fl fc fm fd fn ff fr gr fa fb fe p1 n a0 w6 ts z (ZE i S) (a.put (some t) v) w:=by
 refine b.put hn hi f (fun _ _ _ _=>rfl) b.bel ?_ ?_ ?_ ?_
 ·rw[QaC (Ne.symm e)];exact b.held
 ·rw[QaC (Ne.symm c)];exact b.row
 ·rw[QaC (Ne.symm e),QaC (Ne.symm c)];exact b.apart
 ·rw[QaC (Ne.symm d)];exact b.box
end
def Qox (X mg mo nm cm fi Bk n1 d1 fl fc fm fd fn ff:Nat) (fr gr:Int) (fa fb fe p1:Option Addr) (w6 w':World) (ts:List (TT 6)) (B:Nat):Prop :=
 ∃ h vL O',Blk w' B #[.slice (some ⟨mg,mo,none⟩) nm cm,Iv fr,.slice fa fl fc,.slice fb fm fd,.slice fe fn ff,Pv h 0,vL] 175/\QN w' h O' (QjK gr)/\(∃ xs,w'.ownsRow 0 105 3 vL ts.length xs/\(∀ g,vL.ownBlock=some g->O' g)/\∀ i x,ts[i]?=some x->(Lay.tt 6).In w' (fun g=>¬ O' g/\w6.heap.size<=g) x ((xs.drop (i*3)).take 3))/\O' B/\(∀ k,O' k->w6.heap.size<=k/\k<w'.heap.size)/\Below w6.heap.size w6 w'
theorem KIv.fin {X q r L A G D m v M N I H fn s:Nat}{J F:Int}{t C E j:Option Addr}{n:Nat}{a0 a:Act}{y w:World}{p:List (TT 6)}{z:KZ}{S:Nat->Bool}(d:KIv X q r L A G D m v M N I H fn s J F t C E j n a0 y p z S a w) (u:S 8=true) (f:S 11=true) (l:S 13=true):Qox X q r L A G D m v M N I H fn s J F t C E j y w p z.B:=by
 obtain⟨j,p2,V⟩:=d.held u
 obtain⟨q1,q2,U,R,Q,T⟩:=d.row f
 have ha:=d.apart u f;obtain⟨O,r2,r3,K⟩:=d.box l
 have o:=XC K;refine⟨z.h,_,fun k=>k=z.B\/(z.lo<=k/\k<z.hi)\/(Value.slice z.a m z.c).ownBlock=some k,K,V.mono (fun k b=>.inr (.inl b)),⟨U,R,fun g P=>.inr (.inr P),fun i x W=>?_⟩,.inl Z,fun k b=>?_,d.bel⟩
 ·refine(Lay.tt 6).keep (fun _ _ _=>rfl) (fun k b hl=>⟨fun e=>?_,by omega⟩) (T i x W)
  rcases e with e | e | e
  ·omega
  ·omega
  ·exact b.2.2 e
 ·rcases b with rfl | b | b
  ·exact⟨O,o⟩
  ·omega
  ·have:=Q k b;omega
structure Tup (wA wr:World) (B:Nat) (O:Nat->Prop) (r:Int) (v:Value) (l:List (TT 6)):Prop where
 bel:Below wA.heap.size wA wr
 hB:wA.heap.size<=B
 box:Blk wr B #[Iv 3,Iv r,v] 105
 row:∃ xs,wr.ownsRow (B+1) 105 3 v l.length xs/\∀ i x,l[i]?=some x->(Lay.tt 6).In wr (fun g=>¬ O g/\g<wA.heap.size) x ((xs.drop (i*3)).take 3)
section
variable {wA wr w':World}{B:Nat}{O:Nat->Prop}{r:Int}{v:Value}{l:List (TT 6)}
theorem Tup.below (h:Tup wA wr B O r v l) (k:Below wr.heap.size wr w'):Tup wA w' B O r v l:=by
 obtain⟨d,m,e,t,⟨o,n⟩,p⟩:=h
 refine⟨d.trans (k.mono d.size),m,(k.block B (XC e)).trans e,t,⟨o,?_⟩,fun i x f=>Ya (p i x f) k⟩
 rcases n with s | ⟨g,b,a,rfl,j,c,q⟩
 ·exact Or.inl s
 ·exact Or.inr ⟨g,b,a,Z,j,(k.block g (XC c)).trans c,q⟩
theorem Tup.form (h:Tup wA wr B O r v l):∃ a c xs,v=.slice a l.length c/\wr.ownsRow (B+1) 105 3 (.slice a l.length c) l.length xs/\(∀ i x,l[i]?=some x->(Lay.tt 6).In wr (fun g=>¬ O g/\g<wA.heap.size) x ((xs.drop (i*3)).take 3))/\wr.cell? ⟨B,2,none⟩=some (.slice a l.length c):=by
 obtain⟨t,p,j,xs,b,f⟩:=h
 obtain⟨s,k⟩:=id b
 rcases k with ⟨rfl,e⟩|⟨g,d,m,rfl,o,n,q⟩
 ·refine⟨none,0,xs,by rw[e],by rw[e] at b |-;exact b,f,?_⟩
  rw[Qa j 2 _ Z,e];rfl
 ·exact⟨some ⟨g,0,none⟩,d,xs,Z,b,f,Qa j 2 _ Z⟩
theorem Tup.tree (h:Tup wA wr B O r v l) (G:∀ k,O k->k<wA.heap.size):∃ a c,v=.slice a l.length c/\TIn wr (fun g=>¬ O g) (mkT 3 r l:TT 7) a/\∀ x∈l,x.ok:=by
 obtain⟨a,c,E,rfl,A,f,-⟩:=h.form
 refine⟨a,c,Z,fun i x d=>?_,fun x d=>?_⟩
 ·obtain⟨Q,z⟩:=A
  have q:i<l.length:=(Zi d).1;rcases z with ⟨_,L⟩|⟨g,C,y,e,N,F,P,J,K,D⟩
  ·omega
  ·obtain⟨p,n,t,m,s⟩:=f i x d
   have M:=h.hB
   have b:∀ j u,j<3->((E.drop (i*3)).take 3)[j]?=some u->wr.cell? ⟨g,i*3+j,none⟩=some u:=fun j u w o=>by
    rw[XR,Xs w,List.getElem?_drop,<-D,XR,Xs (by omega),Array.getElem?_toList] at o
    exact Qa F _ u o
   rw[t] at b
   simp only[Value.slice.injEq] at e
   refine⟨g,0,p,n,e.1,fun H=>by have:=G g H;omega,?_,?_,?_,m.mono (fun k I _=>I.1)⟩
   ·rw[XK];exact b 0 _ (by omega) Z
   ·rw[XK];exact b 1 _ (by omega) Z
   ·rw[XK];exact b 2 _ (by omega) Z
 ·obtain⟨i,q⟩:=List.getElem?_of_mem d
  obtain⟨p,n,t,m,s⟩:=f i x q
  exact s
theorem Tup.push {t:TT 6}{s:Option Addr}{w:Nat}(b:Below wA.heap.size wA wr) (G:wA.heap.size<=B) (j:Blk wr B #[Iv 3,Iv r,.slice a l.length c] 105)
 (m:∀ i x,l[i]?=some x->(Lay.tt 6).In wr (fun g=>¬ O g/\g<wA.heap.size) x ((xs.drop (i*3)).take 3)) (p:xs.length=l.length*3) (M:TIn wr (fun g=>¬ O g/\g<wA.heap.size) t s) (y:t.ok) (f:∀ k,(Value.slice a l.length c).ownBlock=some k->B+1<=k)
 (L:w9.ownsRow (B+1) 105 3 (.slice (some ⟨g,0,none⟩) (l.length+1) cap) (l.length+1) (xs++[Iv t.kind,Iv t.r,.slice s t.len w])) (n:wr.grownBy w9 (Value.slice a l.length c).ownBlock) :
 w9.cell? ⟨B,2,none⟩=some (.slice a l.length c)/\w9.frozen? ⟨B,2,none⟩=false/\Tup wA (w9.setCell ⟨B,2,none⟩ (.slice (some ⟨g,0,none⟩) (l.length+1) cap)) B O r (.slice (some ⟨g,0,none⟩) (l.length+1) cap) (l++[t]):=by
 have D:B<wr.heap.size:=XC j;have A:w9.heap[B]?=some (.cells #[Iv 3,Iv r,.slice a l.length c] 105 (0,0)):=(n.block B D (fun e=>by have:=f B e.symm;omega)).trans j
 have d:∀ {x:TT 6} {C:List Value},(Lay.tt 6).In wr (fun g=>¬ O g/\g<wA.heap.size) x C->(Lay.tt 6).In (w9.setCell ⟨B,2,none⟩ (.slice (some ⟨g,0,none⟩) (l.length+1) cap)) (fun g=>¬ O g/\g<wA.heap.size) x C:=fun {x C} h =>
  (Lay.tt 6).keep (fun k o F=>(Xd _ _ _ _ (show k≠B by have:=o.2;omega)).trans (n.block k F (fun e=>by have:=f k e.symm;have:=o.2;omega))) (fun _ o _=>o) h
 refine⟨Qa A 2 _ Z,Qe A 2,?_,G,?_,xs++[Iv t.kind,Iv t.r,.slice s t.len w],?_,?_⟩
 ·refine⟨n.os.trans b.os,n.tape.trans b.tape,n.output.trans b.output,by have:=n.size;have:=b.size;simp;omega,fun k o=>?_⟩
  have H:=b.size;rw[Xd _ _ _ _ (show k≠B by omega),n.block k (by omega) (fun e=>by have:=f k e.symm;omega)]
  exact b.block k o
 ·show (w9.setCell ⟨B,2,none⟩ _).heap[B]?=_;rw[Qh A];rfl
 ·obtain⟨P,J⟩:=L
  rw[List.length_append]
  refine⟨P,?_⟩
  rcases J with ⟨e,_⟩|⟨Q,E,v,e,I,N,q⟩
  ·cases e
  ·cases e
   exact Or.inr ⟨g,cap,v,Z,I,(Xd _ _ _ _ (show g≠B by omega)).trans N,q⟩
 ·intro i x h;rw[List.getElem?_append] at h
  split at h
  ·rename_i K
   rw[List.drop_append_of_le_length (by omega),List.take_append_of_le_length (by simp;omega)]
   exact d (m i x h)
  ·rename_i K
   have u:=(Zi h).1;have z:i=l.length:=by simp at u;omega
   subst z;rw[Nat.sub_self] at h
   have h:t=x:=by simpa using h
   subst h;rw[List.drop_append,List.drop_of_length_le (by omega),p,Nat.sub_self,List.drop_zero,List.nil_append]
   exact d ⟨s,w,Z,M,y⟩
end
theorem KTo.same {s:JSt}(h:KAt wc b O s) (hb:Below w.heap.size w wc) (c:∀ k,O k->k<w.heap.size):KTo w wc b O s :=
 ⟨O,h,⟨hb.os,hb.tape,hb.output,hb.size,fun k a _=>hb.block k a,fun k a=>.inl a⟩,fun k a=>Zl (c k a) hb.size⟩
theorem KTo.after {d:World}{s:JSt}(h:KTo d wc b O s) (hb:Below w.heap.size w d):KTo w wc b O s:=by
 obtain⟨f,g,a,i⟩:=h
 exact⟨f,g,⟨a.os.trans hb.os,a.tape.trans hb.tape,a.output.trans hb.output,Zt hb.size a.size,fun k c j=>(a.block k (Zl c hb.size) j).trans (hb.block k c),fun k c=>(a.own k c).imp id fun e=>Zt hb.size e⟩,i⟩
theorem KTo.then {f:World}{g:Nat->Prop}{s:JSt}(h:KTo f wc b g s) (a:QE O g w f) (n:∀ k,O k->k<w.heap.size):KTo w wc b O s:=by
 obtain⟨l,m,c,j⟩:=h
 refine⟨l,m,⟨c.os.trans a.os,c.tape.trans a.tape,c.output.trans a.output,Zt a.size c.size,fun k d i=>(c.block k (Zl d a.size) (fun e=>?_)).trans (a.block k d i),fun k d=>?_⟩,j⟩
 ·rcases a.own k e with e | e
  ·exact i e
  ·omega
 ·rcases c.own k d with e | e
  ·exact a.own k e
  ·exact .inr (Zt a.size e)
structure InS (w wc:World) (b X:Nat) (O Q:Nat->Prop) (s:JSt) (x:Qv) (rg ag:Option Addr) (rc ac:Nat):Prop where
 known:KAt wc b O s
 box:wc.heap[X]?=some (.cells #[Iv x.op,Iv x.a,Iv x.b,Iv x.c,Iv x.k,Iv x.n,.slice rg x.regs.length rc,.slice ag x.args.length ac] 78 (0,0))
 regs:intsL.In wc Q x.regs [.slice rg x.regs.length rc]
 args:intsL.In wc Q x.args [.slice ag x.args.length ac]
 bel:Below w.heap.size w wc
 own:∀ k,O k->k<w.heap.size
 far:w.heap.size<=X
theorem InS.below {s:JSt}{x:Qv}{a:Option Addr}(h:InS w wc b X O Q s x a ag rc ac) (k:Below wc.heap.size wc w9):InS w w9 b X O Q s x a ag rc ac :=
 ⟨h.known.below k,(k.block X (XC h.box)).trans h.box,Ya h.regs k,Ya h.args k,h.bel.trans (k.mono h.bel.size),h.own,h.far⟩
theorem InS.lt {s:JSt}{x:Qv}{c:Option Addr}(h:InS w wc b X O Q s x c ag rc ac):∀ k,O k->k<wc.heap.size:=fun k a=>Zl (h.own k a) h.bel.size
theorem InS.cells {s:JSt}{x:Qv}{d:Option Addr}(h:InS w wc b X O Q s x d ag rc ac):wc.cell? ⟨X,0,none⟩=some (Iv x.op)/\wc.cell? ⟨X,1,none⟩=some (Iv x.a)/\wc.cell? ⟨X,2,none⟩=some (Iv x.b)/\wc.cell? ⟨X,3,none⟩=some (Iv x.c)/\wc.cell? ⟨X,4,none⟩=some (Iv x.k)/\wc.cell? ⟨X,5,none⟩=some (Iv x.n)/\wc.cell? ⟨X,6,none⟩=some (.slice d x.regs.length rc)/\wc.cell? ⟨X,7,none⟩=some (.slice ag x.args.length ac) :=
 ⟨Qa h.box 0 _ Z,Qa h.box 1 _ Z,Qa h.box 2 _ Z,Qa h.box 3 _ Z,Qa h.box 4 _ Z,Qa h.box 5 _ Z,Qa h.box 6 _ Z,Qa h.box 7 _ Z⟩
theorem KAt.same6 {s:JSt}(h:KAt w b O s) (d:w.cell? ⟨b,6,none⟩=some v) (k:Nat):(w.setCell ⟨b,6,none⟩ v).heap[k]?=w.heap[k]?:=by
 obtain⟨f,i,j,g,n,o,l,p,h,m,a,-⟩:=h
 have e:=(Qa a 6 _ Z).symm.trans d;simp only[Option.some.injEq] at e
 by_cases c:k=b
 ·subst c;rw[Qh a,a,<-e];rfl
 ·exact Xd _ _ _ _ c
structure RfS (w wr:World) (X R:Nat) (pm:Option Addr) (N cm:Nat):Prop where
 bel:Below w.heap.size w wr
 x:Blk wr X #[.slice pm N cm] 24
 r:Blk wr R #[Iv 0,Iv 0] 32
theorem RfS.below (h:RfS w wr X R pm N cm) (k:Below wr.heap.size wr w'):RfS w w' X R pm N cm :=
 ⟨h.bel.trans (k.mono h.bel.size),(k.block X (XC h.x)).trans h.x,(k.block R (XC h.r)).trans h.r⟩
theorem RfS.step (h:RfS w wr X R pm N cm) (k:QE O O' wr w') (c:¬ O X) (a:¬ O R) (b:∀ k,O k->w.heap.size<=k):RfS w w' X R pm N cm :=
 ⟨h.bel.trans (k.below h.bel.size b),(k.block X (XC h.x) c).trans h.x,(k.block R (XC h.r) a).trans h.r⟩
structure RfI (w wr:World) (X R Bx B:Nat) (pm:Option Addr) (N cm:Nat) (cs:Array Value) (s:JSt) (O:Nat->Prop):Prop where
 top:RfS w wr X R pm N cm
 box:Blk wr Bx cs 86
 known:KAt wr B O s
 own:∀ k,O k->w.heap.size<=k/\k<wr.heap.size
 nx:¬ O X
 nr:¬ O R
 nb:¬ O Bx
theorem RfI.to {f:Nat}{cs:Array Value}{s g:JSt}(h:RfI w wr X R f B pm N cm cs s O) (k:KTo wr w' B O g):∃ O',RfI w w' X R f B pm N cm cs g O':=by
 obtain⟨O',i,c,j⟩:=k
 have a:∀ {b:Nat},¬ O b->b<wr.heap.size->¬ O' b:=fun {b} l n e=>by rcases c.own b e with e | e;exact l e;omega
 have m:=h.top.bel.size;exact⟨O',h.top.step c h.nx h.nr (fun k d=>(h.own k d).1),(c.block f (XC h.box) h.nb).trans h.box,i,fun k d=>⟨by rcases c.own k d with e | e;exact(h.own k e).1;omega,j k d⟩,a h.nx (XC h.top.x),a h.nr (XC h.top.r),a h.nb (XC h.box)⟩
theorem size_any:∀ (n:Nat) (t:TT n) (a:Option Addr) (c:Nat) (w:World) (left:Int),TIn w All t a->0<=left->left<=2000 ->
 Calls prog 115 #[Tv t a c,Iv left] w fun e w'=>e=.returned (Iv (max (-1) (left - t.count)))/\Below w.heap.size w w':=by
 intro n
 induction n with
 | zero=>intro t;exact Empty.elim t
 | succ n ih =>
   intro t a c w left G h0 h1
   have V:Hid (∀ (t:TT n) (a:Option Addr) (c:Nat) (w:World) (left:Int),TIn w All t a->0<=left->left<=2000 ->
    Calls prog 115 #[Tv t a c,Iv left] w fun e w'=>e=.returned (Iv (max (-1) (left - t.count)))/\Below w.heap.size w w'):=ih
   clear ih;have I:Hid (LIn w All t.2.2 a):=G.list;have D:t.count=1+(t.2.2.map TT.count).sum:=rfl;rw[D]
   clear D;simp only[Tv,TT.len_eq]
   generalize t.2.2=l at I |-;generalize t.kind=k;generalize t.r=r;clear G t;go_enter func115,ntmps115
   go_wp2_with fail
   have A:Hid (Bx w (w.alloc (.cells #[Iv k,Iv r,.slice a l.length c] 105)) k r a l.length c):=Bx.start w k r a l.length c;generalize w.alloc (.cells #[Iv k,Iv r,.slice a l.length c] 105)=w1 at A |-;go_loopw [1,5] (fun lf i wr=>∃ q:Nat,q<=l.length/\i=Iv q/\lf=Iv (max (-1) (left - 1 - (((l.map TT.count).take q).sum:Nat)))/\Bx w wr k r a l.length c) (fun _ i _=>l.length - (intOf i).toNat)
   case atStart=>exact⟨0,Xb _,Z,by simp;omega,A.out⟩
   case round =>
    clear A;obtain⟨q,W,rfl,rfl,p⟩:=hrel
    generalize d:(((l.map TT.count).take q).sum:Nat)=s;have X:wr.cell? ⟨w.heap.size,2,none⟩=some (.slice a l.length c):=Qa p.box 2 _ Z;have j:Hid (Bx w wr k r a l.length c):=p;by_cases v:q<l.length
    ·by_cases b:0<=max (-1) (left - 1 - (s:Int))
     ·have u:l[q]?=some l[q]:=Zg v;generalize l[q]=x at u;obtain⟨g,o,E,R,rfl,_,d0,d1,d2,J⟩:=LIn.at (I.out.below p.bel) u
      have H:Hid (TIn wr All x E):=J;have B:=QeD TT.count l q x u;rw[d] at B
      have O:Hid (((l.map TT.count).take (q+1)).sum=s+x.count):=B;have S:Hid (max (-1) (left - 1 - (s:Int))<=2000):=by show _<=_;omega
      clear p J u B;generalize C:max (-1) (left - 1 - (s:Int))=m at b S;have M:Hid (max (-1) (left - 1 - (s:Int))=m):=C;clear C;have L:(0:Int)<=q:=by omega
      have h:(q:Int)<l.length:=by omega
      have N:(q:Int)<2000:=by
       have U:=length_le_sum ((l.map TT.count).take q) (fun y K=>by obtain⟨z,_,rfl⟩:=List.mem_map.1 (List.mem_of_mem_take K);exact z.count_pos);have h4:=M.out;rw[List.length_take,XN] at U
       omega
      clear d;go_wp2_with fail
      refine(V.out x E R _ m H.out b S.out).mono ?_
      rintro e Q ⟨rfl,P⟩;have T:Hid (Bx w Q k r (some ⟨g,o,none⟩) l.length c):=j.out.below P;clear j;go_wp2
      go_roundw
      case rel=>exact⟨q+1,by omega,by go_num,by rw[O.out];have:=M.out;have:=x.count_pos;congr 1;omega,T.out⟩
      case measure=>simp[intOf];omega
     ·have F:Hid (max (-1) (left - 1 - (s:Int))=max (-1) (left - ((1+(l.map TT.count).sum:Nat):Int))):=by
       have:=Qgo (l.map TT.count) q
       show _=_;omega
      have f:max (-1) (left - 1 - (s:Int))<0:=by omega
      generalize max (-1) (left - 1 - (s:Int))=m at F f |-;clear b d;have h:(q:Int)<l.length:=by omega
      go_wp2
      go_ret;exact⟨by show Ending.returned (Iv m)=_;have:=F.out;congr 2,j.out.bel⟩
    ·have F:Hid (max (-1) (left - 1 - (s:Int))=max (-1) (left - ((1+(l.map TT.count).sum:Nat):Int))):=by
      rw[XO (by simp;omega)] at d
      show _=_;omega
     generalize max (-1) (left - 1 - (s:Int))=m at F |-;clear d;have h:¬ (q:Int)<l.length:=by omega
     go_wp2
     go_ret;exact⟨by show Ending.returned (Iv m)=_;have:=F.out;congr 2,j.out.bel⟩
theorem QiP (n:Nat) (t:TT n) (a:Option Addr) (c:Nat) (w:World) (f:TIn w All t a) :
 Calls prog 71 #[Tv t a c] w fun e w'=>e=.returned (.bool (decide (2000<t.count)))/\Below w.heap.size w w':=by
 have C:Hid (∀ b,Below w.heap.size w b->Calls prog 115 #[Tv t a c,Iv 2000] b fun e w'=>e=.returned (Iv (max (-1) (2000 - (t.count:Int))))/\Below b.heap.size b w') :=
  fun b i=>size_any n t a c b 2000 (f.below i) (by omega) (by omega)
 clear f;simp only[Tv] at C |-
 generalize t.kind=k at C |-;generalize t.r=r at C |-;generalize t.len=h at C |-;generalize t.count=q at C |-;go_enter func71,ntmps71
 go_wp2_with fail
 refine(C.out _ ((Below.refl _ w).alloc Ze _)).mono ?_
 rintro e g ⟨rfl,d⟩;have B:Hid (Below w.heap.size w g):=((Below.refl _ w).alloc Ze _).trans (d.mono (by simp));have F:Hid (max (-1) (2000 - (q:Int))<0↔2000<q):=by show _↔_;omega
 generalize max (-1) (2000 - (q:Int))=m at F |-;clear d C;go_wp2
 go_ret;exact⟨by show Ending.returned (.bool (decide (m<0)))=_;rw[decide_eq_decide.2 F.out],B.out⟩
structure GbS (w wx:World) (l:List (Nat × Array Value × TypeId)):Prop where
 bel:Below w.heap.size w wx
 box:∀ (i:Nat) b,l[i]?=some b->Blk wx b.1 b.2.1 b.2.2
theorem GbS.below {a:World}{l:List (Nat × Array Value × TypeId)}(h:GbS w a l) (k:Below a.heap.size a w'):GbS w w' l:=⟨h.bel.trans (k.mono h.bel.size),fun i b c=>(h.box i b c).below k⟩
theorem GbS.add {a:World}{l:List (Nat × Array Value × TypeId)}(h:GbS w a l){c:Array Value}(hb:Blk a B c t):GbS w a ((B,c,t)::l) :=
 ⟨h.bel,fun i b d=>by
  cases i with
  | zero=>cases d;exact hb
  | succ i=>exact h.box i b d⟩
theorem GbS.drop {a:World}{l:List (Nat × Array Value × TypeId)}{e:Nat × Array Value × TypeId}(h:GbS w a (e::l)):GbS w a l:=⟨h.bel,fun i b c=>h.box (i+1) b c⟩
theorem GbS.new {a:World}{l:List (Nat × Array Value × TypeId)}(h:GbS w a l) (c:Array Value) (t:TypeId):GbS w (a.alloc (.cells c t)) ((a.heap.size,c,t)::l):=(h.below (ZO _ _)).add (Blk.new _ _ _)
theorem Qal (n:Nat) (l:List (TT n)) (p:Option Addr) (c:Nat) (w:World) (r:LIn w All l p) :
 Rd prog 40 #[.slice p l.length c] w (.bool (Qam (ZG l))):=by
 have H:=Qk r;clear r;unfold Rd;go_enter func40,ntmps40
 by_cases F:200<l.length
 ·have d:(200:Int)<l.length:=by omega
  have E:=QG (A:=ZG l) (.inl F);go_wp2_with fail
  go_ret;exact⟨by first | rfl | (rw[E];done) | (rw[E];rfl),Zr⟩
 have d:¬ (200:Int)<l.length:=by omega
 go_wp2_with fail
 go_loopw [3] (fun i wr=>∃ k:Nat,k<=l.length/\i=Iv k/\Below w.heap.size w wr/\∀ (j:Nat) t,j<k->l[j]?=some t->¬ 2000<t.count) (fun i _=>l.length - (intOf i).toNat)
 case atStart=>exact⟨0,Xb _,Z,Zr,fun j z f=>absurd f (XG _)⟩
 case round =>
  obtain⟨k,Q,rfl,B,a⟩:=hrel
  have g:=Qk B;have e:=Qk a;clear B a;by_cases v:k<l.length
  rotate_left
  ·have m:¬ (k:Int)<l.length:=by omega
   have E:Qam (ZG l)=false:=QA (by
    rintro (h | ⟨t,b,h⟩)
    ·exact F h
    ·obtain⟨j,f⟩:=List.mem_iff_getElem?.1 b
     exact e.out j t (by have:=(Zi f).1;omega) f h)
   go_wp2_with fail
   go_ret;exact⟨by first | rfl | (rw[E];done) | (rw[E];rfl),g.out⟩
  have m:(k:Int)<l.length:=by omega
  have b:l[k]?=some l[k]:=Zg v;generalize l[k]=t at b;have G:=Qk b;obtain⟨O,N,J,K,rfl,-,L,I,M,q⟩:=(show LIn wr All l p from H.out.below g.out).at b
  have C:=Qk (QiP n t J K wr q);clear b q;go_wp2_with fail
  refine C.out.mono ?_;rintro _ P ⟨rfl,D⟩;have o:=Qk (g.out.trans (D.mono g.out.size));clear D C L I M g;by_cases s:2000<t.count
  ·rw[Xt s]
   have E:=QG (A:=ZG l) (.inr ⟨t,Zm G.out,s⟩);go_wp2_with fail
   go_ret;exact⟨by first | rfl | (rw[E];done) | (rw[E];rfl),o.out⟩
  ·rw[Xu s]
   go_wp2_with fail
   go_roundw
   case rel =>
    refine⟨k+1,by omega,by go_num,o.out,fun j u f x=>?_⟩
    by_cases y:j<k
    ·exact e.out j u y x
    ·have:j=k:=by omega
     subst this;rw[G.out] at x
     cases x
     exact s
   case measure=>simp[intOf];omega
def MFunc.much {n:Nat}(x:MFunc n):Prop:=30<x.blocks.length\/ZG x.params\/ZG x.results
def MBlock.much {n:Nat}(x:MBlock n):Prop:=200<x.code.length\/ZG x.params\/300<x.fin.args.length\/300<x.fin.yes.regs.length\/300<x.fin.yes.args.length\/300<x.fin.no.regs.length\/300<x.fin.no.args.length
theorem Qa2 (n:Nat) (m:List (MFunc n)) (p:Option Addr) (c:Nat) (w:World) (ah:(ZZ n).In w All m [.slice p m.length c]) :
 Rd prog 10 #[.agg #[.slice p m.length c]] w (.bool (Qam (QO m))):=by
 have HM:=Qk ah;have S:Hid (GbS w (w.alloc (.cells #[.slice p m.length c] 24)) [(w.heap.size,#[.slice p m.length c],24)]):=GbS.new ⟨Zr,fun i b hb=>by simp at hb⟩ _ _;clear ah;unfold Rd;go_enter func10,ntmps10
 go_upto_region 1 with fail
 generalize w.alloc (.cells #[.slice p m.length c] 24)=w1 at S |-;generalize w.heap.size=X at S |-;have x0:=Qa (S.out.box 0 _ Yz) 0 _ Yz;by_cases c1:20<m.length
 ·have d:(20:Int)<m.length:=by omega
  have E:=QG (A:=QO m) (.inl c1);have J:=Qk S.out.bel;clear S;go_wp2_with fail
  go_ret;exact⟨by first | rfl | (rw[E];done) | (rw[E];rfl),J.out⟩
 have d:¬ (20:Int)<m.length:=by omega
 go_wp2_with fail
 clear x0;go_loopw [3] (fun i wr=>∃ k:Nat,k<=m.length/\i=Iv k/\GbS w wr [(X,#[.slice p m.length c],24)]/\∀ (j:Nat) f,j<k->m[j]?=some f->¬ f.great) (fun i _=>m.length - (intOf i).toNat)
 case atStart=>exact⟨0,Xb _,Yz,S.out,fun j z C=>absurd C (XG _)⟩
 case round =>
  obtain⟨k,hk,rfl,Q,o⟩:=hrel
  have SR:=Qk Q;have al:=Qk o;clear Q o S;obtain⟨wf,aw⟩:∃ wf,wf=wr:=⟨_,Yz⟩
  subst aw;have x0:=Qa (SR.out.box 0 _ Yz) 0 _ Yz;by_cases ax:k<m.length
  rotate_left
  ·have ab:¬ (k:Int)<m.length:=by omega
   have E:Qam (QO m)=false:=QA (by
    rintro (h | ⟨t,ht,h⟩)
    ·exact c1 h
    ·obtain⟨j,C⟩:=List.mem_iff_getElem?.1 ht
     exact al.out j t (by have:=(Zi C).1;omega) C h)
   have J:=Qk SR.out.bel;clear SR;go_wp2_with fail
   go_ret;exact⟨by first | rfl | (rw[E];done) | (rw[E];rfl),J.out⟩
  have ab:(k:Int)<m.length:=by omega
  have K:m[k]?=some m[k]:=Zg ax;generalize m[k]=x at K;have aa:=Qk K;have ai:Hid (x.great->Qam (QO m)=true):=fun h=>QG (.inr ⟨x,Zm aa.out,h⟩);obtain⟨g1,o1,l,rfl,E1,af⟩:=Qdj HM.out K
  have W:=Qk af;have R1:Hid (wf.rangeAt g1 (o1+k*4) [Iv x.regs,.slice l.pP x.params.length l.cP,.slice l.pR x.results.length l.cR,.slice l.pB x.blocks.length l.cB]):=fun j v C=>Qo (E1 j v C) SR.out.bel;have v0:wf.cell? ⟨g1,o1+k*4,none⟩=some (Iv x.regs):=R1.out 0 _ Yz;have v1:=R1.out 1 _ Yz;have v2:=R1.out 2 _ Yz;have v3:=R1.out 3 _ Yz;have F:=Qk (SR.out.new #[Iv x.regs,.slice l.pP x.params.length l.cP,.slice l.pR x.results.length l.cR,.slice l.pB x.blocks.length l.cB] 89);clear K E1 af R1 SR;go_upto_region 7 with fail
  generalize wf.alloc (.cells #[Iv x.regs,.slice l.pP x.params.length l.cP,.slice l.pR x.results.length l.cR,.slice l.pB x.blocks.length l.cB] 89)=w6 at F |-;generalize wf.heap.size=Y at F |-;clear v0 v1 v2 v3 x0;generalize hL:([(Y,#[Iv x.regs,.slice l.pP x.params.length l.cP,.slice l.pR x.results.length l.cR,.slice l.pB x.blocks.length l.cB],89),(X,#[.slice (some ⟨g1,o1,none⟩) m.length c],24)]:List (Nat × Array Value × TypeId))=L at F;have BX:Hid (∀ wx,GbS w wx L->Blk wx Y #[Iv x.regs,.slice l.pP x.params.length l.cP,.slice l.pR x.results.length l.cR,.slice l.pB x.blocks.length l.cB] 89/\GbS w wx [(X,#[.slice (some ⟨g1,o1,none⟩) m.length c],24)]):=by subst hL;exact fun wx h=>⟨h.box 0 _ Yz,h.drop⟩
  clear hL;have q1:=Qa (BX.out _ F.out).1 1 _ Yz;have q2:=Qa (BX.out _ F.out).1 2 _ Yz;have q3:=Qa (BX.out _ F.out).1 3 _ Yz;go_cut [37] (fun v wx=>v=.bool (Qam x.much)/\GbS w wx L)
  case first =>
   by_cases h:30<x.blocks.length
   ·have d1:decide ((x.blocks.length:Int)>30)=true:=Xt (by omega);have E:=QG (A:=x.much) (.inl h);go_wp2
    go_meet;exact⟨by first | rfl | (rw[E];done) | (rw[E];rfl),F.out⟩
   have d1:decide ((x.blocks.length:Int)>30)=false:=Xu (by omega);have B:=Qk (Qal n x.params l.pP l.cP w6 (Q7 (Ya W.out.params F.out.bel)).1);unfold Rd at B;by_cases M:ZG x.params
   ·have E:=QG (A:=x.much) (.inr (.inl M));rw[QG M] at B
    go_wp2_with fail
    refine B.out.mono ?_;rintro _ wa ⟨rfl,G⟩;have r:=Qk (F.out.below G);clear G B;go_wp2
    go_meet;exact⟨by first | rfl | (rw[E];done) | (rw[E];rfl),r.out⟩
   rw[QA M] at B
   go_wp2_with fail
   refine B.out.mono ?_;rintro _ wa ⟨rfl,G⟩;have r:=Qk (F.out.below G);clear G B q1 q2 q3;have q2:=Qa (BX.out _ r.out).1 2 _ Yz;have CR:=Qk (Qal n x.results l.pR l.cR wa (Q7 (Ya W.out.results r.out.bel)).1);unfold Rd at CR
   have E:Qam x.much=Qam (ZG x.results):=by
    by_cases hr:ZG x.results
    ·rw[QG hr];exact QG (.inr (.inr hr))
    ·rw[QA hr];exact QA (fun e=>by rcases e with e | e | e;exact h e;exact M e;exact hr e)
   go_wp2_with fail
   refine CR.out.mono ?_;rintro _ I ⟨rfl,bb⟩;have SB:=Qk (r.out.below bb);clear bb CR q2;go_wp2
   all_goals
    go_meet;exact⟨by first | rfl | (rw[E];done) | (rw[E];rfl),SB.out⟩
  case rest =>
   obtain⟨rfl,P⟩:=hcut
   have S7:=Qk P;clear P F q1 q2 q3;by_cases R:x.much
   ·rw[QG R]
    have E:=ai.out (by rcases R with h | h | h;exact .inl h;exact .inr (.inl h);exact .inr (.inr (.inl h)));have J:=Qk S7.out.bel;clear S7 R;go_wp2_with fail
    go_ret;exact⟨by first | rfl | (rw[E];done) | (rw[E];rfl),J.out⟩
   rw[QA R]
   have a4:x.blocks.length<=30:=Xo fun h=>R (.inl h);go_wp2_with fail
   go_loopw [5] (fun i wr=>∃ q:Nat,q<=x.blocks.length/\i=Iv q/\GbS w wr L/\∀ (j:Nat) y,j<q->x.blocks[j]?=some y->¬ y.great) (fun i _=>x.blocks.length - (intOf i).toNat)
   case atStart=>exact⟨0,Xb _,Yz,S7.out,fun j z C=>absurd C (XG _)⟩
   case round =>
    obtain⟨q,hq,rfl,Q,o⟩:=hrel
    have SQ:=Qk Q;have ae:=Qk o;clear Q o S7;obtain⟨I,aq⟩:∃ I,I=wr:=⟨_,Yz⟩
    subst aq;have q3:=Qa (BX.out _ SQ.out).1 3 _ Yz;by_cases az:q<x.blocks.length
    rotate_left
    ·have ao:¬ (q:Int)<x.blocks.length:=by omega
     go_wp2_with fail
     go_roundw
     case rel =>
      refine⟨k+1,by omega,by go_num,(BX.out _ SQ.out).2,fun j f C hf=>?_⟩
      by_cases a2:j<k
      ·exact al.out j f a2 hf
      ·have:j=k:=by omega
       subst this;rw[aa.out] at hf
       cases hf
       rintro (h | h | h | ⟨y,hy,h⟩)
       ·exact R (.inl h)
       ·exact R (.inr (.inl h))
       ·exact R (.inr (.inr h))
       ·obtain⟨i,hi⟩:=List.mem_iff_getElem?.1 hy
        exact ae.out i y (by have:=(Zi hi).1;omega) hi h
     case measure=>simp[intOf];omega
    have ao:(q:Int)<x.blocks.length:=by omega
    have O:x.blocks[q]?=some x.blocks[q]:=Zg az;generalize x.blocks[q]=y at O;have am:=Qk O;have ad:Hid (y.great->Qam (QO m)=true):=fun h=>ai.out (.inr (.inr (.inr ⟨y,Zm am.out,h⟩)));obtain⟨g2,o2,g,e2,E2,ag⟩:=Qcz W.out.blocks O
    have aj:=Qk ag;rw[e2] at q3
    generalize U:([Iv y.regs,.slice g.pP y.params.length g.cP,.slice g.pC y.code.length g.cC,Iv y.fin.op,Iv y.fin.a,Iv y.fin.yes.block,.slice g.e.pYR y.fin.yes.regs.length g.e.cYR,.slice g.e.pYA y.fin.yes.args.length g.e.cYA,Iv y.fin.no.block,.slice g.e.pNR y.fin.no.regs.length g.e.cNR,.slice g.e.pNA y.fin.no.args.length g.e.cNA,.slice g.e.pA y.fin.args.length g.e.cA]:List Value)=cs at E2;have hl:cs.length=12:=by rw[<-U];rfl
    have MB:=Qk (Qm6.of I hl);have TO:Hid (cs.toArray.all (·.oneCell')=true):=by show _=_;rw[<-U];exact all_oneCell_toArray (Xe.1 Yz)
    have RG:Hid (I.rangeAt g2 (o2+q*12) cs):=fun j v C=>Qo (E2 j v C) SQ.out.bel;clear O E2 ag hl e2;go_upto_region 13 with (first | (refine wpList_load_mid Yz 86 (.tmp 48) Yz g2 (o2+q*12) Yz cs _ RG.out underlying86 Yz MB.out.size ?_) | (refine wpList_store_mid Yz 86 (.tmp 6) (.tmp 49) Yz I.heap.size 0 cs.toArray Yz Yz MB.out.there MB.out.size2 TO.out ?_))
    have H:=Qk ((SQ.out.below MB.out.bel).add MB.out.blk);clear SQ q3 RG TO MB;generalize (I.alloc (.cells #[Iv 0,Nv,Nv,Iv 0,Iv 0,Iv 0,Nv,Nv,Iv 0,Nv,Nv,Nv] 86)).setCells I.heap.size 0 cs=w3 at H |-;generalize I.heap.size=Z at H |-;subst U;simp only[Act.put]
    generalize an:((Z,#[Iv y.regs,.slice g.pP y.params.length g.cP,.slice g.pC y.code.length g.cC,Iv y.fin.op,Iv y.fin.a,Iv y.fin.yes.block,.slice g.e.pYR y.fin.yes.regs.length g.e.cYR,.slice g.e.pYA y.fin.yes.args.length g.e.cYA,Iv y.fin.no.block,.slice g.e.pNR y.fin.no.regs.length g.e.cNR,.slice g.e.pNA y.fin.no.args.length g.e.cNA,.slice g.e.pA y.fin.args.length g.e.cA],86)::L:List (Nat × Array Value × TypeId))=L2 at H;have N:Hid (∀ wx,GbS w wx L2->Blk wx Z #[Iv y.regs,.slice g.pP y.params.length g.cP,.slice g.pC y.code.length g.cC,Iv y.fin.op,Iv y.fin.a,Iv y.fin.yes.block,.slice g.e.pYR y.fin.yes.regs.length g.e.cYR,.slice g.e.pYA y.fin.yes.args.length g.e.cYA,Iv y.fin.no.block,.slice g.e.pNR y.fin.no.regs.length g.e.cNR,.slice g.e.pNA y.fin.no.args.length g.e.cNA,.slice g.e.pA y.fin.args.length g.e.cA] 86/\GbS w wx L):=by subst an;exact fun wx h=>⟨h.box 0 _ Yz,h.drop⟩
    clear an;have z1:=Qa (N.out _ H.out).1 1 _ Yz;have z2:=Qa (N.out _ H.out).1 2 _ Yz;go_cut [97] (fun v wx=>v=.bool (Qam y.much)/\GbS w wx L2)
    case first =>
     by_cases h:200<y.code.length
     ·have d1:decide ((y.code.length:Int)>200)=true:=Xt (by omega);have E:=QG (A:=y.much) (.inl h);go_wp2
      go_meet;exact⟨by first | rfl | (rw[E];done) | (rw[E];rfl),H.out⟩
     have d1:decide ((y.code.length:Int)>200)=false:=Xu (by omega);have B:=Qk (Qal n y.params g.pP g.cP w3 (Q7 (Ya aj.out.params H.out.bel)).1);unfold Rd at B;by_cases M:ZG y.params
     ·have E:=QG (A:=y.much) (.inr (.inl M));rw[QG M] at B
      go_wp2_with fail
      refine B.out.mono ?_;rintro _ wa ⟨rfl,G⟩;have r:=Qk (H.out.below G);clear G B;go_wp2
      go_meet;exact⟨by first | rfl | (rw[E];done) | (rw[E];rfl),r.out⟩
     rw[QA M] at B
     go_wp2_with fail
     refine B.out.mono ?_;rintro _ wa ⟨rfl,G⟩;have r:=Qk (H.out.below G);clear G B z1 z2;have z6:=Qa (N.out _ r.out).1 6 _ Yz;have z7:=Qa (N.out _ r.out).1 7 _ Yz;have z9:=Qa (N.out _ r.out).1 9 _ Yz;have ap:=Qa (N.out _ r.out).1 10 _ Yz;have au:=Qa (N.out _ r.out).1 11 _ Yz
     have s:Hid (Qam y.much=(decide ((y.fin.args.length:Int)>300)||(decide ((y.fin.yes.regs.length:Int)>300)||(decide ((y.fin.yes.args.length:Int)>300)||(decide ((y.fin.no.regs.length:Int)>300)||decide ((y.fin.no.args.length:Int)>300)))))):=by
      show _=_
      have e9:y.much↔((y.fin.args.length:Int)>300\/(y.fin.yes.regs.length:Int)>300\/(y.fin.yes.args.length:Int)>300\/(y.fin.no.regs.length:Int)>300\/(y.fin.no.args.length:Int)>300):=by
       unfold MBlock.much;constructor
       ·rintro (e | e | e)
        ·exact absurd e h
        ·exact absurd e M
        ·omega
       ·intro e;right;right;omega
      by_cases hy:y.much
      ·rw[QG hy];have:=e9.1 hy;simp only[<-Bool.decide_or];exact(Xt this).symm
      ·rw[QA hy];have:=fun e=>hy (e9.2 e);simp only[<-Bool.decide_or];exact(Xu this).symm
     generalize y.fin.args.length=n1 at s au |-;generalize y.fin.yes.regs.length=n2 at s z6 |-;generalize y.fin.yes.args.length=n3 at s z7 |-;generalize y.fin.no.regs.length=n4 at s z9 |-;generalize y.fin.no.args.length=n5 at s ap |-;by_cases k1:(n1:Int)>300
     ·have d9:decide ((n1:Int)>300)=true:=Xt k1;rw[d9] at s
      go_wp2
      go_meet;exact⟨by rw[s.out];first | done | rfl,r.out⟩
     have e1:decide ((n1:Int)>300)=false:=Xu k1;rw[e1] at s
     by_cases k2:(n2:Int)>300
     ·have d9:decide ((n2:Int)>300)=true:=Xt k2;rw[d9] at s
      go_wp2
      go_meet;exact⟨by rw[s.out];first | done | rfl,r.out⟩
     have e2:decide ((n2:Int)>300)=false:=Xu k2;rw[e2] at s
     by_cases k3:(n3:Int)>300
     ·have d9:decide ((n3:Int)>300)=true:=Xt k3;rw[d9] at s
      go_wp2
      go_meet;exact⟨by rw[s.out];first | done | rfl,r.out⟩
     have e3:decide ((n3:Int)>300)=false:=Xu k3;rw[e3] at s
     by_cases k4:(n4:Int)>300
     ·have d9:decide ((n4:Int)>300)=true:=Xt k4;rw[d9] at s
      go_wp2
      go_meet;exact⟨by rw[s.out];first | done | rfl,r.out⟩
     have e4:decide ((n4:Int)>300)=false:=Xu k4;rw[e4] at s
     go_wp2
     all_goals
      go_meet;exact⟨by rw[s.out];first | done | rfl,r.out⟩
    case rest =>
     obtain⟨rfl,P⟩:=hcut
     have S4:=Qk P;clear P H z1 z2;by_cases D:y.much
     ·rw[QG D]
      have E:=ad.out (by rcases D with h | h | h | h | h | h | h;exact .inl h;exact .inr (.inl h);exact .inr (.inr (.inl h));exact .inr (.inr (.inr (.inl h)));exact .inr (.inr (.inr (.inr (.inl h))));exact .inr (.inr (.inr (.inr (.inr (.inl h)))));exact .inr (.inr (.inr (.inr (.inr (.inr (.inl h)))))));have J:=Qk S4.out.bel;clear S4 D;go_wp2_with fail
      go_ret;exact⟨by first | rfl | (rw[E];done) | (rw[E];rfl),J.out⟩
     rw[QA D]
     have a3:y.code.length<=200:=Xo fun h=>D (.inl h);go_wp2_with fail
     go_loopw [7] (fun i wr=>∃ t:Nat,t<=y.code.length/\i=Iv t/\GbS w wr L2/\∀ (j:Nat) z,j<t->y.code[j]?=some z->¬ (300<z.regs.length\/300<z.args.length)) (fun i _=>y.code.length - (intOf i).toNat)
     case atStart=>exact⟨0,Xb _,Yz,S4.out,fun j z C=>absurd C (XG _)⟩
     case round =>
      obtain⟨t,ht,rfl,Q,o⟩:=hrel
      have V:=Qk Q;have ac:=Qk o;clear Q o S4;have z2:=Qa (N.out _ V.out).1 2 _ Yz;by_cases ay:t<y.code.length
      rotate_left
      ·have ak:¬ (t:Int)<y.code.length:=by omega
       go_wp2_with fail
       go_roundw
       case rel =>
        refine⟨q+1,by omega,by go_num,(N.out _ V.out).2,fun j u C T=>?_⟩
        by_cases av:j<q
        ·exact ae.out j u av T
        ·have:j=q:=by omega
         subst this;rw[am.out] at T
         cases T
         rintro (h | h | h | h | h | h | h | ⟨z,hz,h⟩)
         ·exact D (.inl h)
         ·exact D (.inr (.inl h))
         ·exact D (.inr (.inr (.inl h)))
         ·exact D (.inr (.inr (.inr (.inl h))))
         ·exact D (.inr (.inr (.inr (.inr (.inl h)))))
         ·exact D (.inr (.inr (.inr (.inr (.inr (.inl h))))))
         ·exact D (.inr (.inr (.inr (.inr (.inr (.inr h))))))
         ·obtain⟨i,hi⟩:=List.mem_iff_getElem?.1 hz
          exact ac.out i z (by have:=(Zi hi).1;omega) hi h
       case measure=>simp[intOf];omega
      have ak:(t:Int)<y.code.length:=by omega
      have hz:y.code[t]?=some y.code[t]:=Zg ay;generalize y.code[t]=z at hz;have HZ:=Qk hz;obtain⟨g3,o3,i3,e3,E3,-⟩:=Qh1 aj.out.code hz
      rw[e3] at z2
      have a1:=Qo (show w.cell? ⟨g3,o3+t*8+6,none⟩=_ from E3 6 _ Yz) V.out.bel;have a0:=Qo (show w.cell? ⟨g3,o3+t*8+7,none⟩=_ from E3 7 _ Yz) V.out.bel;clear hz E3 e3;go_upto_region 18 with fail
      go_cut [122] (fun v wx=>v=.bool (decide (300<z.regs.length\/300<z.args.length))/\GbS w wx L2)
      case first =>
       by_cases h:(z.regs.length:Int)>300
       ·have d1:decide ((z.regs.length:Int)>300)=true:=Xt h;have E:decide (300<z.regs.length\/300<z.args.length)=true:=Xt (by omega);go_wp2
        go_meet;exact⟨by first | rfl | (rw[E];done) | (rw[E];rfl),V.out⟩
       ·have d1:decide ((z.regs.length:Int)>300)=false:=Xu h;have E:decide (300<z.regs.length\/300<z.args.length)=decide ((z.args.length:Int)>300):=by rw[decide_eq_decide];omega
        go_wp2
        all_goals
         go_meet;exact⟨by first | rfl | (rw[E];done) | (rw[E];rfl),V.out⟩
      case rest =>
       obtain⟨rfl,P⟩:=hcut
       have SU:=Qk P;clear P V z2 a1 a0;by_cases c4:300<z.regs.length\/300<z.args.length
       ·rw[Xt c4]
        have E:=ad.out (.inr (.inr (.inr (.inr (.inr (.inr (.inr ⟨z,Zm HZ.out,c4⟩)))))));have J:=Qk SU.out.bel;clear SU c4;go_wp2_with fail
        go_ret;exact⟨by first | rfl | (rw[E];done) | (rw[E];rfl),J.out⟩
       ·rw[Xu c4]
        go_wp2_with fail
        go_roundw
        case rel =>
         refine⟨t+1,by omega,by go_num,SU.out,fun j u C T=>?_⟩
         by_cases ar:j<t
         ·exact ac.out j u ar T
         ·have:j=t:=by omega
          subst this;rw[HZ.out] at T
          cases T
          exact c4
        case measure=>simp[intOf];omega
theorem Qkw {k:Nat}{m:List (MFunc k)}(l:(ZZ k).In w All m [.slice pm m.length cm]) (h:QO m\/3000<fu) :
 Calls prog 11 #[.agg #[.slice pm m.length cm],Iv fu] w fun e w'=>e=.returned (.bool true)/\Below w.heap.size w w':=by
 have c:=Qc ((Bxs.start w).new #[.slice pm m.length cm] 24);have b:Hid (∀ d,Below w.heap.size w d->Calls prog 10 #[.agg #[.slice pm m.length cm]] d fun e w'=>e=.returned (.bool (Qam (QO m)))/\Below d.heap.size d w'):=fun d n=>Qa2 k m pm cm d (Ya l n);clear l;have H:=Qc h;clear h;go_enter func11,ntmps11
 go_upto_region 1 with fail
 generalize w.alloc (.cells #[.slice pm m.length cm] 24)=i at c |-;generalize w.heap.size=X at c |-;have q:i.cell? ⟨X,0,none⟩=some (.slice pm m.length cm):=c.out.cell (a:=[]) 0 _ Z;by_cases f:QO m
 ·have b:=Qc (b.out i c.out.bel);rw[show Qam (QO m)=true from QG f] at b
  clear f;go_wp2_with fail
  refine b.out.mono ?_;rintro p o ⟨rfl,g⟩;have j:=Qc (c.out.below g);clear g;go_wp2
  go_ret;exact⟨Z,j.out.bel⟩
 ·have b:=Qc (b.out i c.out.bel);rw[show Qam (QO m)=false from QA f] at b
  have r:decide (fu>3000)=true:=Xt (by have:=H.out;rcases this with e | e;exact absurd e f;exact e);clear f;go_wp2_with fail
  refine b.out.mono ?_;rintro p o ⟨rfl,g⟩;have j:=Qc (c.out.below g);clear g;go_wp2
  go_ret;exact⟨Z,j.out.bel⟩
theorem Qk3 {d:Nat}{m:List (MFunc d)}(g:(ZZ d).In w All m [.slice pm m.length cm]) (h:¬ (QO m\/3000<fu)) :
 Calls prog 11 #[.agg #[.slice pm m.length cm],Iv fu] w fun e w'=>e=.returned (.bool false)/\Below w.heap.size w w':=by
 have c:=Qc ((Bxs.start w).new #[.slice pm m.length cm] 24);have b:=Qa2 d m pm cm _ (Ya g (QW w (.cells #[.slice pm m.length cm] 24)));rw[show Qam (QO m)=false from QA (fun e=>h (.inl e))] at b
 have b:Hid (Calls prog 10 #[.agg #[.slice pm m.length cm]] (w.alloc (.cells #[.slice pm m.length cm] 24)) fun e w'=>e=.returned (.bool false)/\Below (w.alloc (.cells #[.slice pm m.length cm] 24)).heap.size (w.alloc (.cells #[.slice pm m.length cm] 24)) w'):=b;have k:decide (fu>3000)=false:=Xu (fun e=>h (.inr e));clear g h;go_enter func11,ntmps11
 go_upto_region 1 with fail
 generalize w.alloc (.cells #[.slice pm m.length cm] 24)=i at c b |-;generalize w.heap.size=X at c |-;have l:i.cell? ⟨X,0,none⟩=some (.slice pm m.length cm):=c.out.cell (a:=[]) 0 _ Z;go_wp2_with fail
 refine b.out.mono ?_;rintro o n ⟨rfl,f⟩;have j:=Qc (c.out.below f);clear f;go_wp2
 go_ret;exact⟨Z,j.out.bel⟩
theorem QnN (c a:Int) (w:World):(Instr.field 32 (.agg #[Iv c,Iv a]) 0).run prog w=.ok (Iv c) w:=by
 have b:=underlying32
 first
  | rfl
  | simp[Instr.run,go_sem,b]
def QnO (St:Prop) (Fin:IM->Prop) (w:World) (e:Ending) (w':World):Prop:=Below w.heap.size w w'/\((St/\∃ c a,c≠0/\e=.returned (Qjg c a))\/∃ A v,Fin A/\Qny w.heap.size A v w'/\e=.returned (.tuple #[v,Z4 0 0]))
theorem Qmx (a:Int):∃ k:Nat,k<50/\wrap64 ((IntKind.u64.wrap a).tmod 50)=(k:Int):=by
 have c:0<=IntKind.u64.wrap a:=by
  simp only[IntKind.wrap,IntKind.signed,IntKind.bits,Bool.false_and]
  rw[Xr (by decide)]
  omega
 rw[Int.tmod_eq_emod_of_nonneg c]
 refine⟨(IntKind.u64.wrap a%50).toNat,by omega,?_⟩
 have b:0<=IntKind.u64.wrap a%50/\IntKind.u64.wrap a%50<50:=by omega
 generalize IntKind.u64.wrap a%50=z at b |-;unfold wrap64;omega
theorem Qjq {dd:Nat}{m:List (MFunc dd)}{mo:Int}{St:Nat->Nat->Prop}{Fin:Nat->Nat->IM->Prop}(hM:(ZZ dd).In w All m [.slice pm m.length cm]) (hI:intsL.In w All inp [.slice pi inp.length ci]) (hn:inp.length<1152921504606846976)
 (HL:∀ f p A,Fin f p A->A.out.length<=100000/\A.back.length<=100000)
 (H1:∀ f f' p p' A,f<=f'->p<=p'->Fin f p A->A.fin≠6->A.fin≠7->¬ St f' p'/\∀ B,Fin f' p' B->B.fin=A.fin/\B.back=A.back/\B.out=A.out/\B.fuel=A.fuel)
 (H2:∀ f f' p p' A,f<=f'->p<=p'->Fin f p A->(A.fin=6\/A.fin=7)->∀ B,Fin f' p' B->A.fuel<=B.fuel/\∃ l,B.out=A.out++l)
 (KR:¬ QO m->inp.length<=200->∀ fN pN:Nat,fN<=20000->pN<=64->∀ wx,(ZZ dd).In wx All m [.slice pm m.length cm]->intsL.In wx All inp [.slice pi inp.length ci]->Calls prog 24 #[.agg #[.slice pm m.length cm],.slice pi inp.length ci,Iv (fN:Int),Iv (pN:Int)] wx fun e w'=>QnO (St fN pN) (Fin fN pN) wx e w') :
 Calls prog 5 #[.agg #[.slice pm m.length cm],.slice pi inp.length ci,Iv fu,Iv pg,Iv mo] w fun e w'=>e=.returned (.bool true)/\Below w.heap.size w w':=by
 have B1:=Qc ((Bxs.start w).new #[.slice pm m.length cm] 24);have HM:=Qc hM;have HI:=Qc hI;have ad:=Qc KR;have ai:=Qc HL;have aj:=Qc H1;have ak:=Qc H2;have CS:Hid (∀ wx,Calls prog 15 #[.slice pi inp.length ci,Iv fu,Iv pg] wx fun e w'=>e=.returned (QaQ inp.length fu pg)/\Below wx.heap.size wx w'):=fun wx=>Qds wx pi inp.length ci fu pg hn;clear hM hI hn KR HL H1 H2;go_enter func5,ntmps5
 go_upto_region 1 with fail
 generalize w.alloc (.cells #[.slice pm m.length cm] 24)=w1 at B1 |-;generalize w.heap.size=X at B1 |-;go_wp2_with fail
 refine(Qdx w1).mono ?_
 rintro e2 w2 ⟨rfl,b2⟩;have P:=Qc (B1.out.below b2);clear b2 B1;have D:w2.cell? ⟨X,0,none⟩=some (.slice pm m.length cm):=P.out.cell (a:=[]) 0 _ Z;by_cases V:QO m\/3000<fu
 ·have CL:=Qc (Qkw (Ya HM.out P.out.bel) V);clear V;go_wp2_with fail
  refine CL.out.mono ?_;rintro e3 w3 ⟨rfl,b3⟩;have S:=Qc (P.out.below b3);clear b3;go_wp2
  go_ret;exact⟨Z,S.out.bel⟩
 have CL:=Qc (Qk3 (Ya HM.out P.out.bel) V);have HG:=Qc V;clear V;go_wp2_with fail
 refine CL.out.mono ?_;rintro e3 w3 ⟨rfl,b3⟩;have S:=Qc (P.out.below b3);clear b3 P CL D;have D:w3.cell? ⟨X,0,none⟩=some (.slice pm m.length cm):=S.out.cell (a:=[]) 0 _ Z;by_cases hs:200<inp.length\/fu<0\/20000<fu\/pg<0\/64<pg
 ·rw[Qfu hs] at CS
  clear hs;go_wp2_with fail
  refine(CS.out w3).mono ?_
  rintro e4 w4 ⟨rfl,b4⟩;have C:=Qc (S.out.below b4);clear b4;have af:=QnN;simp only[Z4]
  go_wp2
  go_ret;exact⟨Z,C.out.bel⟩
 rw[QfB hs] at CS
 have HS:=Qc hs;clear hs;go_wp2_with fail
 refine(CS.out w3).mono ?_
 rintro e4 w4 ⟨rfl,b4⟩;have C:=Qc (S.out.below b4);clear b4 S D;have af:=QnN;simp only[Z4]
 go_upto_region 6 with fail
 obtain⟨g,an,hk⟩:=Qmx mo
 generalize wrap64 ((IntKind.u64.wrap mo).tmod 50)=K at hk |-;subst hk;obtain⟨fN,rfl⟩:∃ k:Nat,fu=(k:Int):=⟨fu.toNat,by have:=HS.out;omega⟩
 obtain⟨pN,rfl⟩:∃ k:Nat,pg=(k:Int):=⟨pg.toNat,by have:=HS.out;omega⟩
 have au:fN<=3000:=by have:=HG.out;omega
 have am:pN<=64:=by have:=HS.out;omega
 have CR:=Qc (ad.out (fun e=>HG.out (.inl e)) (by have:=HS.out;omega) fN pN (by omega) am w4 (Ya HM.out C.out.bel) (Ya HI.out C.out.bel));have D:w4.cell? ⟨X,0,none⟩=some (.slice pm m.length cm):=C.out.cell (a:=[]) 0 _ Z;go_wp2_with fail
 refine CR.out.mono ?_;rintro e5 w5 ⟨b5,hE⟩;rcases hE with ⟨-,c,a,hc,rfl⟩|⟨A,v,hA,⟨vb,vo,rfl,G,M⟩,rfl⟩
 ·have d0:(c != 0)=true:=bne_iff_ne.2 hc;have B5:=Qc (C.out.below b5);clear b5 CR D C hc;simp only[Qjg,Z4]
  go_wp2
  go_ret;exact⟨Z,((B5.out.new _ _).new _ _).bel⟩
 obtain⟨ab,cb,rfl,-⟩:=id G
 obtain⟨ao,O,rfl,-⟩:=id M
 have r:=((C.out.below b5).new #[Iv A.fin,.slice ab A.back.length cb,.slice ao A.out.length O,Iv A.fuel] 44).new #[Iv 0,Iv 0] 32;rw[World.size_alloc] at r
 have r:=Qc r;have o:=Qc (G.lg.2);have j:=Qc (M.lg.2);have HA:=Qc hA;clear b5 G M hA CR D C;go_upto_region 7 with fail
 have b6:=Qc (Qak w5 (.cells #[Iv A.fin,.slice ab A.back.length cb,.slice ao A.out.length O,Iv A.fuel] 44) (.cells #[Iv 0,Iv 0] 32));have o:=Qc (o.out.below b6.out);have j:=Qc (j.out.below b6.out);clear b6;generalize (w5.alloc (.cells #[Iv A.fin,.slice ab A.back.length cb,.slice ao A.out.length O,Iv A.fuel] 44)).alloc (.cells #[Iv 0,Iv 0] 32)=w6 at r o j |-;generalize w5.heap.size+1=F1 at r |-;generalize w5.heap.size=O1 at r |-;have f0:w6.cell? ⟨F1,0,none⟩=some (Iv 0):=r.out.cell (a:=[]) 0 _ Z;have D:w6.cell? ⟨X,0,none⟩=some (.slice pm m.length cm):=r.out.cell (a:=[_,_]) 0 _ Z
 have t:Hid (Calls prog 24 #[.agg #[.slice pm m.length cm],.slice pi inp.length ci,Iv ((fN:Int)+(g:Int)),Iv (min ((pN:Int)+(g:Int)) 64)] w6 fun e w'=>QnO (St (fN+g) (min (pN+g) 64)) (Fin (fN+g) (min (pN+g) 64)) w6 e w'):=by
  have e1:((fN+g:Nat):Int)=(fN:Int)+(g:Int):=by omega
  have e2:((min (pN+g) 64:Nat):Int)=min ((pN:Int)+(g:Int)) 64:=by omega
  have:=ad.out (fun e=>HG.out (.inl e)) (by have:=HS.out;omega) (fN+g) (min (pN+g) 64) (by omega) (by omega) w6 (Ya HM.out r.out.bel) (Ya HI.out r.out.bel)
  rw[e1,e2] at this
  exact this
 have z:=Qc (aj.out fN (fN+g) pN (min (pN+g) 64) A (by omega) (by omega) HA.out);have L:=Qc (ak.out fN (fN+g) pN (min (pN+g) 64) A (by omega) (by omega) HA.out);generalize fN+g=f2 at t z L;generalize min (pN+g) 64=p2 at t z L;go_wp2_with fail
 refine t.out.mono ?_;rintro e7 J ⟨R,hE⟩;rcases hE with ⟨ac,c,a,hc,rfl⟩|⟨B,v,hB,⟨vb,vo,rfl,G,M⟩,rfl⟩
 ·have d0:(c != 0)=true:=bne_iff_ne.2 hc
  have i:A.fin=7\/A.fin=6:=by
   by_cases Q:A.fin=6
   ·exact .inr Q
   by_cases T:A.fin=7
   ·exact .inl T
   exact absurd ac (z.out Q T).1
  have al:=Qc i;have b:=((r.out.below R).new #[Iv 0,Nv,Nv,Iv 0] 44).new #[Iv c,Iv a] 32;rw[World.size_alloc] at b
  have b:=Qc b;clear R t D f0 hc ac i r;simp only[Qjg,Z4]
  go_upto_region 10 with fail
  generalize (J.alloc (.cells #[Iv 0,Nv,Nv,Iv 0] 44)).alloc (.cells #[Iv c,Iv a] 32)=q at b |-;generalize J.heap.size+1=F2 at b |-;generalize J.heap.size=O2 at b |-;have g0:q.cell? ⟨F2,0,none⟩=some (Iv c):=b.out.cell (a:=[]) 0 _ Z;have N:q.cell? ⟨O1,0,none⟩=some (Iv A.fin):=b.out.cell (a:=[_,_,_]) 0 _ Z;rcases al.out with u | u
  ·rw[u] at N
   clear u;go_wp2
   go_ret;exact⟨Z,b.out.bel⟩
  ·rw[u] at N
   clear u;go_wp2
   go_ret;exact⟨Z,b.out.bel⟩
 obtain⟨bb,y,rfl,-⟩:=id G
 obtain⟨U,h,rfl,F,-⟩:=id M
 have aa:=G.lg.2;have ae:=M.lg.2;have ah:=ai.out _ _ _ HA.out;have ag:=ai.out _ _ _ hB;have b:=((r.out.below R).new #[Iv B.fin,.slice bb B.back.length y,.slice U B.out.length h,Iv B.fuel] 44).new #[Iv 0,Iv 0] 32;rw[World.size_alloc] at b
 have b:=Qc b;have W:=Qak J (.cells #[Iv B.fin,.slice bb B.back.length y,.slice U B.out.length h,Iv B.fuel] 44) (.cells #[Iv 0,Iv 0] 32);have o:=Qc ((o.out.below R).below W);have j:=Qc ((j.out.below R).below W);have I:=Qc (aa.below W);have E:=Qc (ae.below W);have HB:=Qc hB;have HN:=Qc (Xh ah (Xh ag F));clear R W G M aa ae hB F ah ag t f0 D r;go_upto_region 10 with fail
 generalize (J.alloc (.cells #[Iv B.fin,.slice bb B.back.length y,.slice U B.out.length h,Iv B.fuel] 44)).alloc (.cells #[Iv 0,Iv 0] 32)=q at b o j I E |-;generalize J.heap.size+1=F2 at b |-;generalize J.heap.size=O2 at b |-;have g0:q.cell? ⟨F2,0,none⟩=some (Iv 0):=b.out.cell (a:=[]) 0 _ Z;have N:q.cell? ⟨O1,0,none⟩=some (Iv A.fin):=b.out.cell (a:=[_,_,_]) 0 _ Z;have o1:q.cell? ⟨O1,1,none⟩=some (.slice ab A.back.length cb):=b.out.cell (a:=[_,_,_]) 1 _ Z;have o2:q.cell? ⟨O1,2,none⟩=some (.slice ao A.out.length O):=b.out.cell (a:=[_,_,_]) 2 _ Z;have o3:q.cell? ⟨O1,3,none⟩=some (Iv A.fuel):=b.out.cell (a:=[_,_,_]) 3 _ Z;have p0:q.cell? ⟨O2,0,none⟩=some (Iv B.fin):=b.out.cell (a:=[_]) 0 _ Z;have p1:q.cell? ⟨O2,1,none⟩=some (.slice bb B.back.length y):=b.out.cell (a:=[_]) 1 _ Z;have p2:q.cell? ⟨O2,2,none⟩=some (.slice U B.out.length h):=b.out.cell (a:=[_]) 2 _ Z;have p3:q.cell? ⟨O2,3,none⟩=some (Iv B.fuel):=b.out.cell (a:=[_]) 3 _ Z;by_cases i:A.fin=6\/A.fin=7
 ·obtain⟨H,l,s⟩:=L.out i B HB.out
  have x:A.out.length<=B.out.length:=by rw[s,List.length_append];omega
  have hcut:Qcq q U A.out:=by
   have:=E.out.take A.out.length
   rwa [s,List.take_left'] at this
   rfl
  have CQ:Hid (∀ n,Calls prog 28 #[.slice ao A.out.length O,.slice U A.out.length h] (q.drewN n) fun e w'=>e=.returned (.bool true)/\∃ m,w'=(q.drewN n).drewN m):=fun n=>QcO Z HN.out.1.1 (j.out.drewN n) (hcut.drewN n);have aq:A.out.length<=h:=Zt x HN.out.2.2;have d1:decide ((A.out.length:Int)<=(B.out.length:Int))=true:=Xt (by omega);have d2:decide ((A.fuel:Int)<=(B.fuel:Int))=true:=Xt (by omega);have d3:decide (A.out.length<=B.out.length)=true:=Xt x;have d4:decide (A.fuel<=B.fuel)=true:=Xt H;have av:(A.out.length:Int)<=(h:Int):=by omega
  have ar:(0:Int)<=(A.out.length:Int):=by omega
  have ap:=Qc H;clear s hcut H x;rcases i with u | u
  ·rw[u] at N
   clear u;go_upto_region 14 with fail
   go_quiet ((go_at_call 28;exact Calls.quiet_of (CQ.out _)))
   go_wp2
   go_ret;exact⟨Z,(b.out.drewN _).bel⟩
  ·rw[u] at N
   clear u;go_upto_region 14 with fail
   go_quiet ((go_at_call 28;exact Calls.quiet_of (CQ.out _)))
   go_wp2
   go_ret;exact⟨Z,(b.out.drewN _).bel⟩
 ·have Q:¬ A.fin=6:=fun e=>i (.inl e);have T:¬ A.fin=7:=fun e=>i (.inr e);obtain⟨e1,e2,e3,e4⟩:=(z.out Q T).2 B HB.out
  rw[e1] at p0
  rw[e2] at p1 I
  rw[e3] at p2 E
  rw[e4] at p3
  have d6:(A.fin != 6)=true:=bne_iff_ne.2 Q;have d7:(A.fin != 7)=true:=bne_iff_ne.2 T;have CQ:=Qc (QdW (fin:=A.fin) (fuel:=(A.fuel:Int)) (c:=cb) (c':=y) (d:=O) (d':=h) HN.out.1.2 HN.out.1.1 o.out I.out j.out E.out);clear i Q T e1 e2 e3 e4;go_wp2_with fail
  refine CQ.out.mono ?_;rintro e9 w9 ⟨rfl,b9⟩;have B9:=Qc (b.out.below b9);clear b9 CQ N o1 o2 o3 p0 p1 p2 p3 g0;go_wp2
  go_ret;exact⟨Z,B9.out.bel⟩
theorem QgB {m:List (MFunc n)}{i:Int}(j:(ZZ n).In w All m [.slice pm m.length cm]) (f:intsL.In w All inp [.slice pi inp.length ci]) (hn:inp.length<1152921504606846976) (b:(modFault m).1≠0) :
 Calls prog 5 #[.agg #[.slice pm m.length cm],.slice pi inp.length ci,Iv fu,Iv pg,Iv i] w fun e w'=>e=.returned (.bool true)/\Below w.heap.size w w':=by
 refine Qjq (St:=fun _ _=>True) (Fin:=fun _ _ _=>False) j f hn (fun _ _ _ h=>h.elim) (fun _ _ _ _ _ _ _ h=>h.elim) (fun _ _ _ _ _ _ _ h=>h.elim) ?_;intro d p o k q s r g l;exact(QlF (c:=(modFault m).1) (a:=(modFault m).2) g (QbD d) hn (.inl ⟨b,Z⟩)).mono fun e w' h=>⟨h.2,.inl ⟨Y,_,_,b,h.1⟩⟩
theorem Qib {m:List (MFunc n)}{M:Int}(t:(ZZ n).In w All m [.slice pm m.length cm]) (r:intsL.In w All inp [.slice pi inp.length ci]) (hn:inp.length<1152921504606846976) :
 Calls prog 5 #[.agg #[.slice pm m.length cm],.slice pi inp.length ci,Iv fu,Iv pg,Iv M] w fun e w'=>e=.returned (.bool true)/\Below w.heap.size w w':=by
 by_cases K:(modFault m).1=0
 ·have I:m.length=(m.map (MFunc.at 5)).length:=(XN _).symm;have d:(ZZ 6).In w All (m.map (MFunc.at 5)) [.slice pm (m.map (MFunc.at 5)).length cm]:=by rw[<-I];exact QmT (Qla K) t
  rw[I]
  generalize m.map (MFunc.at 5)=s at d |-;by_cases q:(modFault s).1=0
  rotate_left
  ·exact QgB d r hn q
  have C:=QkW d;have i:=Qie r;refine Qjq (St:=fun f p=>∃ N k,IM.steps s aOp f k (IM.start inp p)=some N/\N.done=false/\IM.step s aOp f N=none) (Fin:=fun f p A=>∃ k,k<=30000/\inp.length<=200/\p<=64/\IM.steps s aOp f k (IM.start inp p)=some A/\A.done=true) d r hn ?_ ?_ ?_ ?_
  ·rintro f p A ⟨k,u,j,g,l,-⟩;have J:=Qbv q C (fun k a b c h ha P=>Qg6 ha P h) (QeL q ⟨by omega,i⟩ (show p<=1000 by omega)) k u l
   have:=J.out
   exact⟨by omega,by omega⟩
  ·rintro f W p p' A o g ⟨k,u,j,D,l,H⟩ O h7;obtain⟨q1,S⟩:=Qjs o g l H O h7
   exact⟨fun ⟨N,k,x,G,E⟩=>q1 N k x G E,fun B ⟨k,_,_,_,y,F⟩=>S B k y F⟩
  ·rintro f W p p' A o g ⟨k,u,j,D,l,H⟩ z B ⟨T,_,_,_,y,F⟩;exact QiV o g l H z B T y F
  ·intro R j fN pN o g wx h1 X;refine(QjG h1 (QbD R) X q j o g).mono fun e w' h=>⟨h.1,?_⟩
   rcases h.2 with ⟨V,⟨k,N,-,x,G,E,-⟩,rfl⟩|⟨k,L,u,t,U,v,Q,rfl⟩
   ·exact .inl ⟨⟨N,k,x,G,E⟩,20,V,by decide,Z⟩
   ·exact .inr ⟨L,v,⟨k,by omega,j,g,t,U⟩,Q,Z⟩
 ·exact QgB t r hn K
end Go.Proofs.YtjhdpajpibdnaafGreat
