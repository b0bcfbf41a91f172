import Derived.Test.YtiebmclhgebhpafGreatP5
import Derived.Lib.SliceRun
set_option maxHeartbeats 16000000
set_option maxRecDepth 100000
namespace Go.Proofs.YtiebmclhgebhpafGreat
open Go.ChangeShapes Go.WideShapes Go.ChangeAt Go.RowKit _root_.Go.Proofs.Tryz
set_option linter.unusedSimpArgs false
set_option linter.unusedVariables false
variable {w w' w6 w2 wc wr w1:World}{n b c X k m i B rc ac g cm N j fi bi bh R f q id cap most na ca fm d x fl cR rl al fc fd cA bl pages o ci lm cL fe:Nat}{O O' Q2 OO:Nat→Prop}{a p ag pm pa pR pA ra pi aa fp fq:Option Addr}{v u:Value}{Q:Exit→Act→World→Prop}{l inp:List Int}{t bt e:TypeId}{xa xc xb xk fr words xop xn:Int}{P:Program}{cs xs ds:List Value}{bs:List Bool}{ops:Array Oper}
theorem XH:type_of% @bne_eq_false_iff_eq:=@bne_eq_false_iff_eq
theorem Qhl {m:Nat}{too:Nat->Int}(b:∀ i,i<m->-9223372036854775808<=too i/\too i<=9223372036854775807):{n:Nat}->{t u:TT n}->t.ok->t.ren m too=some u->u.ok
 | 0,t,_,_,_=>Empty.elim t
 | n+1,t,u,hok,h=>by
   simp only[TT.ren] at h
   cases e1:Qah m too t.1 t.2.1 with
   | none=>simp[e1] at h
   | some r1 =>
     simp only[e1] at h
     cases e2:Qal (TT.ren m too) t.2.2 with
     | none=>simp[e2] at h
     | some l1 =>
       simp only[e2] at h
       have h:=Xn h;subst h;refine⟨?_,fun x f=>?_⟩
       ·show -9223372036854775808<=r1/\r1<=9223372036854775807;unfold Qah at e1;split at e1
        ·cases e1;exact hok.1
        split at e1
        ·cases e1
        rename_i g j
        split at e1
        ·cases e1
        ·cases e1;exact b _ (by omega)
       ·obtain⟨d,e⟩:=ZX.1 e2
        obtain⟨i,c⟩:=List.getElem?_of_mem f
        have a:i<t.2.2.length:=by rw[<-d];exact(Zi c).1
        have:=e i t.2.2[i] (Zg a)
        rw[c] at this
        exact Qhl b (hok.2 _ (List.getElem_mem a)) this
theorem Qet {H:List Bool}{x:Int}(a:l[k]?=some x) :
 QW H (l.take k) (l.drop k)=if Qa7 H x then (if inB (l.take k) x then 13 else QW H (l.take (k+1)) (l.drop (k+1))) else 10:=by
 obtain⟨b,e⟩:=Zi a
 rw[List.drop_eq_getElem_cons b,e,QW,XV,a]
 rfl
theorem QfN {H:List Bool}(a:l.length<=k):QW H (l.take k) (l.drop k)=0:=by
 rw[List.drop_of_length_le a,QW]
theorem QjV {Q:Nat->Prop}(h:intsL.In w Q l [.slice a m c]):∀ x∈l,-9223372036854775808<=x/\x<=9223372036854775807:=fun x b=>by
 obtain⟨i,d⟩:=List.getElem?_of_mem b
 obtain⟨g,o,f,_,_,_,_,_,e⟩:=Yf h d
 exact e
theorem QhP {Q:Nat->Prop}{m:List (MFunc 6)}(h:(Qar 6).In w Q m [.slice p n c]){g:MFunc 6}(e:m[k]?=some g) :
 ∃ mg mo a1 c1 a2 c2 a3 c3,p=some ⟨mg,mo,none⟩/\w.cell? ⟨mg,mo+k*4,none⟩=some (Iv g.regs)/\w.cell? ⟨mg,mo+k*4+1,none⟩=some (.slice a1 g.params.length c1)/\w.cell? ⟨mg,mo+k*4+2,none⟩=some (.slice a2 g.results.length c2)/\w.cell? ⟨mg,mo+k*4+3,none⟩=some (.slice a3 g.blocks.length c3) /\
  (Qt 6).In w Q g.params [.slice a1 g.params.length c1]/\(Qt 6).In w Q g.results [.slice a2 g.results.length c2]:=by
 obtain⟨mg,mo,j,d,q,o,a,b⟩:=Yf h e
 obtain⟨a1,c1,a2,c2,a3,c3,rfl,f,i,l,r⟩:=QaO b
 exact⟨mg,mo,a1,c1,a2,c2,a3,c3,d,a 0 (by decide),a 1 (by decide),a 2 (by decide),a 3 (by decide),f,i⟩
def QmL (w2:World) (b X mg mo nm cm k n1 d1 n2 d2 n3 d3:Nat) (fr:Int) (p1 p2 p3:Option Addr) (t:Tmp) (v:Value) (w:World):Prop :=
 match ([(14,fun v w=>∃ B,v=.pointer (some ⟨B,0,none⟩)/\w2.heap.size<=B/\Blk w B #[.int .i64 0,.slice none 0 0,.slice none 0 0,.slice none 0 0] 89)]:List (Tmp × (Value->World->Prop))).lookup t with
 | some p=>p v w
 | none=>v=(([(0,.pointer (some ⟨b,0,none⟩)),(3,.pointer (some ⟨X,0,none⟩)),(288,.pointer (some ⟨b,0,none⟩)),(289,.pointer (some ⟨b,0,none⟩)),(290,.pointer (some ⟨b,0,none⟩)),(291,.pointer (some ⟨b,0,none⟩)),(292,.slice (some ⟨mg,mo,none⟩) nm cm),(293,.pointer (some ⟨X,4,none⟩)),(294,.int .i64 (k:Int)),(295,.pointer (some ⟨mg,mo+k*4,none⟩)),(296,.agg #[.int .i64 fr,.slice p1 n1 d1,.slice p2 n2 d2,.slice p3 n3 d3])]:List (Tmp × Value)).lookup t).getD undef
theorem Qoe {s:JSt}{x:Qx}{T:Option Addr}{S:Option Addr}(HS:Hid (MkS w w2 b X O s x T ag rc ac S)){j i E y z G C r D:Nat}{u A F:Option Addr}(J:w2.cell? ⟨b,0,none⟩=some (.slice (some ⟨j,i,none⟩) E cm)) (L:w2.cell? ⟨j,i+k*4,none⟩=some (Iv fr)) (U:w2.cell? ⟨j,i+k*4+1,none⟩=some (.slice u y z)) (I:w2.cell? ⟨j,i+k*4+2,none⟩=some (.slice A G C)) (f3:w2.cell? ⟨j,i+k*4+3,none⟩=some (.slice F r D)) (aa:(k:Int)<E) (q:x.k=(k:Int))
 (a:Act) (m:Nat) (hn:a.tmps.size=m) (o:365<=m) (M:a.tmps.getD 0 undef=Pv b 0) (P:a.tmps.getD 3 undef=Pv X 0)
 (hend:∀ ops vs w',vs 296=.agg #[Iv fr,.slice u y z,.slice A G C,.slice F r D]->(fun v w=>∃ B,v=Pv B 0/\w2.heap.size<=B/\Blk w B #[Iv 0,Nv,Nv,Nv] 89) (vs 14) w'->Below w2.heap.size w2 w'->wpList prog ops Q (QaI 10 ((Tryz.f102.body.bind (Qf 59)).getD .skip)) (QC a vs [288,289,290,291,292,293,294,295,296,14]) w') :
 Code.wp prog ((Tryz.f102.body.bind (Qf 59)).getD .skip) Q a w2:=by
 conv=>arg 2;whnf
 refine Qj 10 (QmL w2 b X j i E cm k y z G C r D fr u A F) (fun w=>Below w2.heap.size w2 w) (fun w w'=>Below w.heap.size w w') (outs:=[0,3]) (gs:=[]) (bs:=[true,true,true,true,true,true,true,true,true,true]) (by kernel_rfl) (n:=365) hn o (by kernel_rfl) (by kernel_rfl) ?hR ?hG (Qh Zr 1) ⟨M,P,Y⟩ ?hA ?hend
 case hR =>
  intro t v w w' W h;unfold QmL at h |-;split at h
  ·rename_i p l
   simp only[List.lookup_cons,List.lookup_nil] at l
   split at l
   ·cases l;exact(by obtain⟨B,e,N,H⟩:=h;exact⟨B,e,N,(W.block B (XC H)).trans H⟩)
   ·cases l
  ·exact h
 case hG=>exact Y
 case hend=>exact fun ops vs w' c d=>hend ops vs w' (d 296 (by kernel_rfl)) (d 14 (by kernel_rfl)) c
 case hA =>
  iterate 6
   refine⟨fun a w c d K f=>?_,?_⟩
   ·obtain⟨g,-⟩:=d
    conv at g=>whnf;rhs;whnf
    have u0:=Qn J c;go_simp;exact f _ _ Zr c Z
  refine⟨fun a w c d K f=>?_,?_⟩
  ·obtain⟨g,-⟩:=d
   conv at g=>whnf;rhs;whnf
   have V:=(HS.out.below c).cells.2.2.2.2.1;rw[q] at V
   go_simp;exact f _ _ Zr c Z
  refine⟨fun a w c d K f=>?_,?_⟩
  ·obtain⟨g,R,-⟩:=d
   conv at g=>whnf;rhs;whnf
   conv at R=>whnf;rhs;whnf
   go_simp;exact f _ _ Zr c Z
  refine⟨fun a w c d K f=>?_,?_⟩
  ·obtain⟨g,-⟩:=d
   conv at g=>whnf;rhs;whnf
   have u0:=Qn L c;have u1:=Qn U c;have u2:=Qn I c;have u3:=Qn f3 c;go_simp;exact f _ _ Zr c Z
  refine⟨fun a w c d K f=>?_,?_⟩
  ·clear d;go_simp;exact f _ _ (ZR _ _) (c.alloc c.size _) ⟨_,Z,c.size,Qe _ _ _⟩
  trivial
theorem Qgi {s:JSt}{x:Qx}{rg:Option Addr}(hO:∀ k,O k->k<w.heap.size) (hJ:JOk s) (h:KAt w b O s){QR QA:Nat->Prop}(ae:intsL.In w QR x.regs [.slice rg x.regs.length rc]) (ab:intsL.In w QA x.args [.slice ag x.args.length ac]) (be:x.regs.length<=rc) (bo:x.regs.length<=6) (cl:x.args.length<=8) (ay:0<=x.k/\x.k<s.m.length) (a4:x.op=14) :
 Calls prog 102 #[Pv b 0,QfX x rg ag rc ac] w fun e w'=>QV w O (s.makes x).1 (s.makes x).2 e w':=by
 have aj:=Qg ae;have T:=Qg ab;clear ae ab
 have E:Hid (s.makes x=(match s.m[x.k.toNat]? with
  | none=>(0,[])
  | some g=>if (x.regs.length:Int)=g.regs then
   (code2 (QW s.H [] x.regs) (s.args x.args g.params x.regs),g.results.map (QfQ x.regs))
   else (2,[]))):=QaN a4
 have S0:=Qg (MkS.start x rg ag rc ac hO hJ h);obtain⟨dt,xa,xb,xc,xk,xn,d,f⟩:=x
 simp only at a4
 subst a4;clear h;go_enter func102,ntmps102
 go_upto_region 59 with fail
 obtain⟨w2,ba⟩:∃ w2,(w.alloc (.cells #[Iv 14,Iv xa,Iv xb,Iv xc,Iv xk,Iv xn,.slice rg d.length rc,.slice ag f.length ac] 78)).alloc (.cells #[Iv 1,Iv 0,Nv] 105)=w2:=⟨_,Yz⟩
 obtain⟨X,hX⟩:∃ X,w.heap.size=X:=⟨_,Yz⟩
 have F:Hid (MkS w w2 b X O s ⟨14,xa,xb,xc,xk,xn,d,f⟩ rg ag rc ac (some ⟨X+1,0,none⟩)):=by rw[<-ba,<-hX];exact S0.out
 rw[ba,hX]
 clear ba hX S0;obtain⟨x0,x1,x2,x3,x4,x6,x7⟩:=F.out.cells
 have dl:=F.out.ok.regs;have dm:=F.out.ok.vals;simp only at x0 x1 x2 x3 x4 x6 x7 be bo cl ay
 have cp:Hid (intsL.In w2 QR d [.slice rg d.length rc]):=Ya aj.out F.out.bel;have ck:Hid (intsL.In w2 QA f [.slice ag f.length ac]):=Ya T.out F.out.bel;clear aj T;obtain⟨k,rfl⟩:=Xc ay.1
 have br:k<s.m.length:=by omega
 have ai:s.m[k]?=some s.m[k]:=Zg br;generalize s.m[k]=g at ai;obtain⟨pm,cm,a1,c1,a2,c2,a3,c3,hh,aL,cL,R⟩:=F.out.known.read
 obtain⟨q0,-,-,-,-,-,-⟩:=R.cells
 obtain⟨mg,mo,p1,d1,p2,d2,p3,d3,rfl,f0,f1,f2,f3,hP,cb⟩:=QhP R.mod ai
 have a0:Hid ((Qt 6).In w2 (fun g=>¬ O g) g.params [.slice p1 g.params.length d1]):=hP;have a8:Hid ((Qt 6).In w2 (fun g=>¬ O g) g.results [.slice p2 g.results.length d2]):=cb;have bd:Hid (g∈s.m):=Zm ai
 have E2:Hid (s.makes ⟨14,xa,xb,xc,(k:Int),xn,d,f⟩=if (d.length:Int)=g.regs then (code2 (QW s.H [] d) (s.args f g.params d),g.results.map (QfQ d)) else (2,[])):=by
  show _=_;rw[E.out]
  simp only[Int.toNat_natCast,ai]
 have co:(k:Int)<s.m.length:=by omega
 clear E R hP cb ai ay;generalize s.m.length=nm at q0 br co;generalize cf:g.regs=fr at f0 E2;have dh:Hid (g.regs=fr):=cf;generalize cj:g.params.length=n1 at f1 a0;have bm:Hid (g.params.length=n1):=cj;generalize bs:g.results.length=I at f2 a8;have ad:Hid (g.results.length=I):=bs;generalize g.blocks.length=n3 at f3;clear cf cj bs;refine Qoe F q0 f0 f1 f2 f3 co Yz _ _ Yz (Xg (by kernel_rfl)) Yz Yz ?_;rintro ct vs w5 ah ⟨B,ap,A,J⟩ b5;show wpList _ ct _ [_] (QC _ vs [288,289,290,291,292,293,294,295,296,14]) w5;simp only[QC,Act.put,List.setIfInBounds_toArray,List.set_cons_zero,List.set_cons_succ,ah,ap]
 have e0:=Qa J 0 _ Yz;have e1:=Qa J 1 _ Yz;have e2:=Qa J 2 _ Yz;have e3:=Qa J 3 _ Yz;have ef:∀ i,w5.frozen? ⟨B,i,none⟩=false:=fun i=>Qd J i
 have B6:Hid (Blk ((((w5.setCell ⟨B,0,none⟩ (Iv fr)).setCell ⟨B,1,none⟩ (.slice p1 n1 d1)).setCell ⟨B,2,none⟩ (.slice p2 I d2)).setCell ⟨B,3,none⟩ (.slice p3 n3 d3)) B #[Iv fr,.slice p1 n1 d1,.slice p2 I d2,.slice p3 n3 d3] 89):=by
  have h3:=Qm (Qm (Qm (Qm J 0 (Iv fr)) 1 (.slice p1 n1 d1)) 2 (.slice p2 I d2)) 3 (.slice p3 n3 d3);exact h3
 have b6:Hid (Below w2.heap.size w2 ((((w5.setCell ⟨B,0,none⟩ (Iv fr)).setCell ⟨B,1,none⟩ (.slice p1 n1 d1)).setCell ⟨B,2,none⟩ (.slice p2 I d2)).setCell ⟨B,3,none⟩ (.slice p3 n3 d3))) :=
  (((b5.setCell (p:=⟨B,0,none⟩) A _).setCell (p:=⟨B,1,none⟩) A _).setCell (p:=⟨B,2,none⟩) A _).setCell (p:=⟨B,3,none⟩) A _
 clear J A b5 ah ap q0 f0 f1 f2 f3;go_upto_region 60 with fail
 generalize ((((w5.setCell ⟨B,0,none⟩ (Iv fr)).setCell ⟨B,1,none⟩ (.slice p1 n1 d1)).setCell ⟨B,2,none⟩ (.slice p2 I d2)).setCell ⟨B,3,none⟩ (.slice p3 n3 d3))=w6 at B6 b6 |-;have S6:=Qg (F.out.below b6.out);have bi:Hid (intsL.In w6 QR d [.slice rg d.length rc]):=Ya cp.out b6.out;have bv:Hid (intsL.In w6 QA f [.slice ag f.length ac]):=Ya ck.out b6.out;have bp:Hid ((Qt 6).In w6 (fun g=>¬ O g) g.params [.slice p1 n1 d1]):=Ya a0.out b6.out;have bz:Hid ((Qt 6).In w6 (fun g=>¬ O g) g.results [.slice p2 I d2]):=Ya a8.out b6.out;clear e0 e1 e2 e3 ef x0 x1 x2 x3 x4 x6 x7 F cp ck a0 a8 b6 hh aL cL a1 c1 a2 c2 a3 c3;have F:=S6;clear S6;obtain⟨x0,x1,x2,x3,x4,x6,x7⟩:=F.out.cells
 simp only at x0 x1 x2 x3 x4 x6 x7
 have e0:=Qa B6.out 0 _ Yz;have e1:=Qa B6.out 1 _ Yz;have e2:=Qa B6.out 2 _ Yz;generalize bh:d.length=K at x6 be bo bi E2;have o:Hid (d.length=K):=bh;generalize cd:f.length=N at x7 cl bv;have dj:Hid (f.length=N):=cd;clear bh cd;by_cases M:(K:Int)=fr
 ·have ce:((K:Int) != fr)=false:=XH.2 M;have E3:Hid (s.makes ⟨14,xa,xb,xc,(k:Int),xn,d,f⟩=(code2 (QW s.H [] d) (s.args f g.params d),g.results.map (QfQ d))):=by show _=_;rw[E2.out,Xs M]
  have c4:=Qg M;clear E2 M;obtain⟨dy,dx,a1,c1,a2,c2,a3,c3,hh,aL,cL,R⟩:=F.out.known.read
  obtain⟨-,-,-,-,-,q5,-⟩:=R.cells
  have cx:Hid (Qr w6 hh O s.H):=R.holds;clear R;go_wp2_with fail
  go_loopw [15] (fun u wr=>∃ j,u=Iv (j:Nat)/\j<=K/\Below w6.heap.size w6 wr/\QW s.H [] d=QW s.H (d.take j) (d.drop j)) (fun u _=>K - (intOf u).toNat)
  case atStart=>exact⟨0,Yz,Xb _,Zr,Yz⟩
  case round =>
   obtain⟨j,rfl,hj,A,hC⟩:=hrel
   have G:=Qg A;have HC:=Qg hC;have S7:=Qg (F.out.below A);have am:=Qn x6 A;have bn:=Qn x7 A;have bj:=Qn q5 A;have U:Hid (Qr wr hh O s.H):=cx.out.below A;have S:Hid (intsL.In wr QR d [.slice rg K rc]):=Ya bi.out A;clear A hC;by_cases C:j<K
   ·obtain⟨lg,lo,rfl,-,-,z0⟩:=ZW S.out (i:=j) (by rw[o.out];exact C)
    have P:d[j]?=some (d[j]'(by rw[o.out];exact C)):=Zg _;have ex:d.getD j 0=d[j]'(by rw[o.out];exact C):=by simp[List.getD,P]
    rw[ex] at z0
    generalize d[j]'(by rw[o.out];exact C)=r at P z0;have y:=Qet (H:=s.H) P;rw[<-HC.out] at y
    have d0:(j:Int)<K:=by omega
    have dq:(0:Int)<=j:=by omega
    have d6:(j:Int)<=rc:=by omega
    have CH:Hid (∀ n,Calls prog 159 #[Pv hh 0,Iv r] (wr.drewN n) fun e w'=>e=.returned (.bool (Qa7 s.H r))/\w'=wr.drewN n):=fun n=>QdH r (by omega) (show Qr (wr.drewN n) hh O s.H from U.out);clear ex
    cases hq:Qa7 s.H r with
    | false =>
      rw[hq] at CH y
      have E4:Hid ((s.makes ⟨14,xa,xb,xc,(k:Int),xn,d,f⟩).1=10):=by
       show _=_;have h1:QW s.H [] d=10:=by simpa using y
       rw[E3.out,h1];rfl
      have bc:=Qg S7.out.bel;clear E3 y hq P;go_wp2_with fail
      go_quiet ((go_at_call 159;exact Calls.quiet_of_same (CH.out _)))
      go_wp2
      go_ret2;rw[E4.out]
      exact QV.bad (by decide) (Qh bc.out _) _ _ _
    | true =>
      rw[hq] at CH y
      clear hq;go_wp2_with fail
      go_quiet ((go_at_call 159;exact Calls.quiet_of_same (CH.out _)))
      have b8:Below wr.heap.size wr (wr.drewN nq):=Qh Zr nq;have S8:=Qg (S7.out.below b8);have bk:=Qg (G.out.trans (b8.mono G.out.size));have bw:=Qn am b8;have cu:=Qn z0 b8;have b7:Hid (intsL.In (wr.drewN nq) QR d [.slice (some ⟨lg,lo,none⟩) K rc]):=Ya S.out b8;clear b8;generalize wr.drewN nq=w8 at S8 bk bw cu b7 |-;clear am bn bj z0 S U CH
      have CI:Hid (∀ n,Calls prog 160 #[.slice (some ⟨lg,lo,none⟩) j rc,Iv r] (w8.drewN n) fun e w'=>e=.returned (.bool (inB (d.take j) r))/\w'=w8.drewN n):=fun n =>
       Qgf r (by simp;rw[o.out];omega) (by omega) (Lay.drewN (Qe6 b7.out (by rw[o.out];omega) rc) n)
      cases hq:inB (d.take j) r with
      | true =>
        rw[hq] at CI y
        have E4:Hid ((s.makes ⟨14,xa,xb,xc,(k:Int),xn,d,f⟩).1=13):=by
         show _=_;have h1:QW s.H [] d=13:=by simpa using y
         rw[E3.out,h1];rfl
        have bc:=Qg S8.out.bel;clear E3 y hq P;go_wp2_with fail
        go_quiet ((go_at_call 160;exact Calls.quiet_of_same (CI.out _)))
        go_wp2
        go_ret2;rw[E4.out]
        exact QV.bad (by decide) (Qh bc.out _) _ _ _
      | false =>
        rw[hq] at CI y
        have E5:Hid (QW s.H [] d=QW s.H (d.take (j+1)) (d.drop (j+1))):=by show _=_;simpa using y
        clear y hq P;go_wp2_with fail
        go_quiet ((go_at_call 160;exact Calls.quiet_of_same (CI.out _)))
        go_wp2
        go_roundw
        case rel=>exact⟨j+1,by go_num,by omega,Qh bk.out _,E5.out⟩
        case measure=>simp[intOf];omega
   ·have hz:QW s.H [] d=0:=by
     rw[HC.out]
     exact QfN (by rw[o.out];omega)
    have dn:¬ (j:Int)<K:=by omega
    have HZ:=Qg hz;have E4:Hid (s.makes ⟨14,xa,xb,xc,(k:Int),xn,d,f⟩=(s.args f g.params d,g.results.map (QfQ d))):=by show _=_;rw[E3.out,hz];rfl
    have g0:=Qn e0 G.out;have g1:=Qn e1 G.out;have g2:=Qn e2 G.out;have cc:Hid (intsL.In wr QA f [.slice ag N ac]):=Ya bv.out G.out;have ao:Hid ((Qt 6).In wr (fun g=>¬ O g) g.params [.slice p1 n1 d1]):=Ya bp.out G.out;have aw:Hid ((Qt 6).In wr (fun g=>¬ O g) g.results [.slice p2 I d2]):=Ya bz.out G.out;have a7:=Qg (F.out.ok.mod.2 g bd.out);have dw:n1<=8:=by rw[<-bm.out];exact a7.out.params.1
    have d4:I<=8:=by rw[<-ad.out];exact a7.out.results.1
    have bt:Hid (¬ MFunc.great g):=fun hg=>F.out.ok.tiny (.inr ⟨g,bd.out,hg⟩);have di:Hid (∀ t∈g.params,t.count<=2000):=fun t ht=>Xo fun C=>bt.out (.inr (.inl (.inr ⟨t,ht,C⟩)));have cq:Hid (∀ t∈g.results,t.count<=2000):=fun t ht=>Xo fun C=>bt.out (.inr (.inr (.inl (.inr ⟨t,ht,C⟩))));clear E3 hz e0 e1 e2 U bj HC;go_wp2_with fail
    refine(Qdn dj.out bm.out o.out (by omega) (by omega) S7.out.ok.vals cc.out ao.out S.out di.out S7.out.known).mono ?_
    rintro e D ⟨rfl,b9⟩;have S9:=Qg (S7.out.below b9);by_cases hc:s.args f g.params d=0
    ·rw[hc]
     have E5:Hid (s.makes ⟨14,xa,xb,xc,(k:Int),xn,d,f⟩=(0,g.results.map (QfQ d))):=by show _=_;rw[E4.out,hc]
     have y6:=Qn am b9;have cw:=Qn g2 b9;have ch:Hid (intsL.In D QR d [.slice rg K rc]):=Ya S.out b9;have b3:Hid ((Qt 6).In D (fun g=>¬ O g) g.results [.slice p2 I d2]):=Ya aw.out b9;clear E4 hc b9 am bn g0 g1 g2 S7 S cc ao aw G;obtain⟨i0,hi,dg,dd,c8⟩:=pInfoT
     have cv:=Qg (QjV ch.out);go_wp2_with fail
     go_loopw [17,18] (fun v u wr=>∃ j l cs,u=Iv (j:Nat)/\j<=I/\Qag (Lay.tt 6) 105 wr D.heap.size v l cs/\l=(g.results.take j).map (QfQ d)/\Below D.heap.size D wr) (fun _ u _=>I - (intOf u).toNat)
     case atStart=>exact⟨0,[],[],Yz,Xb _,Qag.nil _ _ _ _,by simp,Zr⟩
     case round =>
      obtain⟨j2,l,cs,rfl,dv,hA,hl,A⟩:=hrel
      obtain⟨oa,oc,rfl⟩:=hA.formP
      have Q:=Qg hA;have cg:=Qg hl;have G:=Qg A;have cn:=Qn y6 A;have r2:=Qn cw A;have b2:l.length=j2:=by rw[hl];simp;rw[ad.out];omega
      have a5:D.heap.size<=wr.heap.size:=A.size;have af:=Qg b2;clear hA hl A;by_cases au:j2<I
      ·obtain⟨tl,bq⟩:=Q8 (Ya b3.out G.out)
       have W:g.results[j2]?=some (g.results[j2]'(by rw[ad.out];exact au)):=Zg _;generalize g.results[j2]'(by rw[ad.out];exact au)=t at W;obtain⟨gR,oR,ta,tc,rfl,-,t0,t1,t2,t3⟩:=LIn.at tl W
       have an:=Zm W;obtain⟨u,hu,df⟩:=Qgk (m:=d.length) (too:=fun i=>d.getD i 0) (a:=g.regs) (b:=s.H.length) (by rw[o.out,dh.out,<-c4.out];omega) (fun i hi=>QaK (ZS HZ.out (d.getD i 0) (by simp[List.getD,hi]))) (a7.out.results.2 t an)
       have bx:QfQ d t=u:=by unfold QfQ;rw[hu];rfl
       have bf:u.ok:=Qhl (fun i hi=>cv.out (d.getD i 0) (by simp[List.getD,hi])) (bq t an) hu;have av:Hid (t.ren K (fun i=>d.getD i 0)=some u):=by rw[<-o.out];exact hu
       have b1:Hid (TIn wr (fun g=>¬ O g) t ta):=t3;have db:Hid (t.count<=2000):=cq.out t an;have b4:Hid (QkC wr rg K (fun i=>d.getD i 0)):=Qm4 o.out (Ya ch.out G.out)
       have c5:Hid (l++[u]=(g.results.take (j2+1)).map (QfQ d)):=by
        show _=_;rw[XV,W,Option.toList_some,List.map_append,<-cg.out]
        simp[bx]
       have de:=Qg bf;have c6:(j2:Int)<I:=by omega
       clear tl bq W an hu df bx bf t3;go_upto_region 76 with fail
       refine Code.wp_mono ?_ (QoC r2 t0 t1 t2 cn c6 b1 db b4 av _ (by rfl) Yz Yz Yz Yz);rintro ee aa z ⟨rfl,dr,rfl,ua,uc,B2,aq,ar,ak,ca,al⟩;simp only[QC,Act.put,List.setIfInBounds_toArray,List.set_cons_zero,List.set_cons_succ,aq,ar]
       have az:Hid (Qag (Lay.tt 6) 105 z D.heap.size (.slice oa l.length oc) l cs):=Q.out.below al;have c0:=Qa ak 0 _ Yz;have c1:=Qa ak 1 _ Yz;have c2:=Qa ak 2 _ Yz;have ax:=Qg (G.out.trans (al.mono a5));have a9:D.heap.size<=z.heap.size:=Zt a5 al.size;have bu:Hid (TIn z (fun g=>wr.heap.size<=g) u ua):=ca;have dk:l.length<=8:=by rw[af.out];omega
       have PU:Hid (∀ gg a6 L,L.ownsRow D.heap.size 105 3 (.slice (some ⟨gg,0,none⟩) (l.length+1) a6) (l.length+1) (cs++[Iv u.kind,Iv u.r,.slice ua u.len uc])->(z.alloc (.cells #[Iv u.kind,Iv u.r,.slice ua u.len uc] 105)).grownBy L (Value.slice oa l.length oc).ownBlock->((Value.slice oa l.length oc).ownBlock=some gg\/gg=z.heap.size+1) ->
        Qag (Lay.tt 6) 105 L D.heap.size (.slice (some ⟨gg,0,none⟩) (l.length+1) a6) (l++[u]) (cs++[Iv u.kind,Iv u.r,.slice ua u.len uc])/\Below D.heap.size D L):=by
        intro gg a6 L s1 s2 s3;have ci:=ZR z (.cells #[Iv u.kind,Iv u.r,.slice ua u.len uc] 105);have b0:=az.out.below ci
        have dc:(Lay.tt 6).In (z.alloc (.cells #[Iv u.kind,Iv u.r,.slice ua u.len uc] 105)) (fun g=>D.heap.size<=g/\(Value.slice oa l.length oc).ownBlock≠some g) u [Iv u.kind,Iv u.r,.slice ua u.len uc] :=
         ⟨ua,uc,Yz,(bu.out.below ci).mono (fun k hk _=>⟨Zt a5 hk,fun e=>by have:=(Q.out.lo_le e).2;omega⟩),de.out⟩
        exact⟨Qag.push b0 dc s2 (by simpa using s3) s1,((ax.out.alloc a9 _).grown s2 (by simp;omega) (fun k hk=>(b0.lo_le hk).1))⟩
       have V:Hid (z.ownsRow D.heap.size 105 3 (.slice oa l.length oc) l.length cs):=az.out.own;clear az ax bu ca ak al aq ar t0 t1 t2 r2 cn Q G b1 b4 av;generalize bb:l.length=lk at V PU af dk |-;clear bb;go_wp2_with (at_builtin;refine wpList_append_lies _ Yz (.tmp 360) (.tmp 362) 80 Yz D.heap.size 105 i0 (.agg #[Iv 0,Iv 0,Nv]) 3 40 pUnderT hi dg dd c8 Yz (by decide) _ _ _ Yz (V.out.alloc _) ⟨z.heap.size,0,none⟩ 1 1 [Iv u.kind,Iv u.r,.slice ua u.len uc] Yz Yz (Qkm _ [_,_,_] _) (Qju _ _ _ _ _) (by decide) (by unfold maxLen;omega) (by omega) (by simp;omega) (z.heap.size+1) (by simp) ?_)
       intro g3 bl L s1 s2 s3 s4;obtain⟨q1,q2⟩:=PU.out g3 bl L s1 s2 s3
       have da:=Qg q1;have c9:=Qg q2;clear s1 s2 s3 s4 PU V q1 q2;go_wp2
       go_roundw
       case rel=>exact⟨j2+1,l++[u],_,by go_num,by omega,da.out,c5.out,c9.out⟩
       case measure=>simp[intOf];omega
      ·have cz:j2=I:=by omega
       have cy:¬ (j2:Int)<I:=by omega
       have Z:Hid (QV w O 0 (g.results.map (QfQ d)) (.returned (.tuple #[.slice oa l.length oc,Iv 0])) wr):=by
        have cr:l=g.results.map (QfQ d):=by
         rw[cg.out,XO (by rw[ad.out];omega)]
        rw[<-cr]
        refine⟨oa,l.length,oc,Yz,fun _=>⟨Yz,?_,Yc Q.out.lay (fun k hk _ ho=>by have h8:=S9.out.lt k ho;have:D.heap.size<=k:=hk;omega)⟩,S9.out.bel.trans (G.out.mono S9.out.bel.size)⟩
        obtain⟨-,q2⟩:=Q.out.own
        rcases q2 with ⟨e,e'⟩|⟨g',dp,du,e,d5,ds,dz,q⟩
        ·rw[e'];exact Xb _
        ·simp only[Value.slice.injEq] at e
         omega
       clear Q G cz;generalize bb:l.length=lk at Z af;clear bb;go_wp2
       go_ret2;rw[E5.out]
       exact Z.out
    ·have c7:(s.args f g.params d==0)=false:=beq_eq_false_iff_ne.2 hc;have E5:Hid ((s.makes ⟨14,xa,xb,xc,(k:Int),xn,d,f⟩).1=s.args f g.params d):=by show _=_;rw[E4.out]
     have bg:=Qg hc;clear E4 hc;generalize s.args f g.params d=c at E5 c7 bg |-;go_wp2
     go_ret2;rw[E5.out]
     exact QV.bad bg.out S9.out.bel _ _ _
 ·have ce:((K:Int)==fr)=false:=beq_eq_false_iff_ne.2 M;have E3:Hid (s.makes ⟨14,xa,xb,xc,(k:Int),xn,d,f⟩=(2,[])):=by show _=_;rw[E2.out,Xr M]
  clear E2 M;go_wp2
  go_ret2;rw[E3.out]
  exact QV.nil F.out.bel
def QkV (w w':World) (e:Ending):Prop:=∃ G1 G2,e=.returned (.agg #[.slice (some ⟨G2,0,none⟩) 1 1])/\Blk w' G1 #[Iv 0,Nv,Nv,Iv 3,Iv 0,Iv 0,Nv,Nv,Iv 0,Nv,Nv,Nv] 86/\Blk w' G2 #[Iv 0,Nv,Nv,.slice (some ⟨G1,0,none⟩) 1 1] 89/\w.heap.size<=G1/\w.heap.size<=G2/\G1≠G2/\Below w.heap.size w w'
theorem Qfp (w:World):Calls prog 39 #[] w fun e w'=>QkV w w' e:=by
 have d:=Qi ((Bxs.start w).new #[Nv] 24);go_enter func39,ntmps39
 go_upto_region 1 with fail
 generalize w.alloc (.cells #[Nv] 24)=b at d |-;generalize w.heap.size=R at d |-;have g:=d.out.new #[Iv 0,Nv,Nv,Iv 3,Iv 0,Iv 0,Nv,Nv,Iv 0,Nv,Nv,Nv] 86;have c:=g.new #[Iv 0,Nv,Nv,.slice (some ⟨b.heap.size,0,none⟩) 1 1] 89;rw[World.size_alloc] at c
 have k:=c.cell (a:=[_,_]) 0 _ Z;have j:=c.free (a:=[_,_]) 0;have f:=Qi (c.set (a:=[_,_]) 0 (.slice (some ⟨b.heap.size+1,0,none⟩) 1 1));clear g c;go_wp2
 have h:=f.out.cell (a:=[_,_]) 0 _ Z;have i:b.heap.size≠b.heap.size+1:=by omega
 exact Xy (v:=.agg #[.slice (some ⟨b.heap.size+1,0,none⟩) 1 1]) (by simp[results,results39,go_sem,h]) Z ⟨_,_,Z,f.out.at (a:=[_]),f.out.at (a:=[]),d.out.bel.size,Nat.le_succ_of_le d.out.bel.size,i,f.out.bel⟩
def T00:MTo:=⟨0,[],[]⟩
def E00:MEnd:=⟨3,0,T00,T00,[]⟩
theorem QaP {α:Type}{A:Lay α}{G:Nat}{c:Array Value}{x:α}(h:Blk w G c t) (e:c.toList=cs) (f:A.In w All x cs):A.list.In w All [x] [.slice (some ⟨G,0,none⟩) 1 1]:=by
 refine⟨some ⟨G,0,none⟩,1,Z,fun i y b=>?_⟩
 have g:i=0:=by
  have:=(Zi b).1
  simp at this;exact this
 subst g;simp at b
 subst b;refine⟨G,0,cs,Z,Y,h.lt,fun j k=>?_,f⟩
 have d:=A.len f;have a:j<c.size:=by rw[<-e] at d;simp at d;omega
 rw[Nat.zero_mul,XK,<-e,Array.getElem?_toList]
 exact(Qa h j c[j] (Xj a)).trans (Xj a).symm
theorem QmI (w:World):EIn w All E00 ⟨none,0,none,0,none,0,none,0,none,0⟩ :=
 ⟨⟨Yg _ _ _ _ _,Yg _ _ _ _ _,by decide⟩,⟨Yg _ _ _ _ _,Yg _ _ _ _ _,by decide⟩,Yg _ _ _ _ _,by decide,by decide⟩
def bI (k:Int):Qx:=⟨k,0,0,0,0,0,[],[]⟩
def fI:Qx:=⟨1,0,0,0,0,5,[],[]⟩
def fE:MEnd:=⟨3,0,⟨0,[],[]⟩,⟨0,[],[]⟩,[0]⟩
def fB:MBlock 6:=⟨0,[],[fI],fE⟩
def fF:MFunc 6:=⟨0,[],[tInt],[fB]⟩
def five6:List (MFunc 6):=[fF]
theorem five_fault:modFault five6=(0,0):=by decide +kernel
abbrev fBc (G1 Gc Gi:Nat):Array Value:=#[Iv 0,Nv,.slice (some ⟨Gc,0,none⟩) 1 1,Iv 3,Iv 0,Iv 0,Nv,Nv,Iv 0,Nv,Nv,.slice (some ⟨Gi,0,none⟩) 1 1]
theorem Qnf (w:World):intsL.In w All ([]:List Int) [Nv]:=Yg _ _ _ _ _
theorem QlU (w:World):(Lay.tt 6).In w All tInt [Iv 1,Iv 0,Nv]:=⟨none,0,Z,fun i x h=>by simp[tInt] at h,by unfold tInt;exact⟨by decide,fun x h=>by simp at h⟩⟩
theorem Qlj {c i g e d:Nat}(q:Blk w c (fBc c e d) 86) (r:Blk w i #[Iv 0,Nv,.slice (some ⟨g,0,none⟩) 1 1,.slice (some ⟨c,0,none⟩) 1 1] 89) (j:Blk w g #[Iv 1,Iv 0,Nv] 105) (o:Blk w e #[Iv 1,Iv 0,Iv 0,Iv 0,Iv 0,Iv 5,Nv,Nv] 78) (hi:Blk w d #[Iv 0] 3) :
 (Qar 6).In w All five6 [.slice (some ⟨i,0,none⟩) 1 1]:=by
 have a:=Qnf w;have h:(Qt 6).In w All ([]:List (TT 6)) [Nv]:=Yg _ _ _ _ _;have p:(Qt 6).In w All [tInt] [.slice (some ⟨g,0,none⟩) 1 1]:=QaP j Z (QlU w);have k:insL.list.In w All [fI] [.slice (some ⟨e,0,none⟩) 1 1]:=QaP o Z (Qd4 (x:=fI) a a (by decide));have m:intsL.In w All [0] [.slice (some ⟨d,0,none⟩) 1 1]:=QaP hi Z ⟨Z,by decide⟩;have l:EIn w All fE ⟨none,0,none,0,none,0,none,0,some ⟨d,0,none⟩,1⟩:=⟨⟨a,a,by decide⟩,⟨a,a,by decide⟩,m,by decide,by decide⟩;have n:(ZV 6).list.In w All [fB] [.slice (some ⟨c,0,none⟩) 1 1]:=QaP q Z (Qee (x:=fB) (b:=⟨none,0,some ⟨e,0,none⟩,1,_⟩) ⟨h,k,l,by decide⟩);exact QaP r Z (Qfy (x:=fF) (f:=⟨none,0,some ⟨g,0,none⟩,1,some ⟨c,0,none⟩,1⟩) ⟨h,p,n,by decide⟩)
def two1:List Qx:=[bI 3,⟨1,0,0,0,0,1,[],[]⟩,bI 4,bI 4]
def tB:MBlock 6:=⟨0,[],two1,E00⟩
def tF:MFunc 6:=⟨0,[],[],[tB]⟩
def two6:List (MFunc 6):=[tF]
theorem two_fault:modFault two6=(0,0):=by decide +kernel
theorem Qhi {f:MFunc 6}(o:f.params=[]) (g:f.results.length<=1) (a:∀ t∈f.results,t.count<=1){b:MBlock 6}(hb:f.blocks=[b]) (p:b.params=[]) (r:b.code.length<=40) (i:b.fin.yes.regs=[]/\b.fin.yes.args=[]/\b.fin.no.regs=[]/\b.fin.no.args=[]/\b.fin.args.length<=1) (l:∀ x∈b.code,x.regs=[]/\x.args=[]):¬ QS [f]:=by
 rintro (h | ⟨x,e,h⟩)
 ·exact absurd h (by simp)
 ·simp only[List.mem_singleton] at e
  subst e;rcases h with h | h | h | ⟨y,c,h⟩
  ·rw[hb] at h;exact absurd h (by simp)
  ·rw[o] at h
   rcases h with h | ⟨t,a,_⟩
   ·exact absurd h (by simp)
   ·cases a
  ·rcases h with h | ⟨t,d,h⟩
   ·have:=g;omega
   ·have:=a t d;omega
  ·rw[hb] at c
   simp only[List.mem_singleton] at c
   subst c;obtain⟨m,j,n,k,s⟩:=i
   rcases h with h | h | h | h | h | h | h | ⟨z,q,h⟩
   ·omega
   ·rw[p] at h
    rcases h with h | ⟨t,a,_⟩
    ·exact absurd h (by simp)
    ·cases a
   ·omega
   ·rw[m] at h;exact absurd h (by simp)
   ·rw[j] at h;exact absurd h (by simp)
   ·rw[n] at h;exact absurd h (by simp)
   ·rw[k] at h;exact absurd h (by simp)
   ·have hb:=l z q;rw[hb.1,hb.2] at h
    exact absurd h (by simp)
theorem five_not:¬ QS five6:=Qhi (b:=fB) Z (by decide) (fun t c=>by simp only[fF,List.mem_singleton] at c;subst c;decide) Z Z (by decide) ⟨Z,Z,Z,Z,by decide⟩ (fun x a=>by simp only[fB,List.mem_singleton] at a;subst a;exact⟨Z,Z⟩)
theorem two_not:¬ QS two6:=Qhi (b:=tB) Z (by decide) (fun t c=>by cases c) Z Z (by decide) ⟨Z,Z,Z,Z,by decide⟩ (fun x a=>by have a:x∈two1:=a;simp only[two1,List.mem_cons,List.not_mem_nil,or_false] at a;rcases a with rfl | rfl | rfl | rfl<;>exact⟨Z,Z⟩)
theorem QlK {α:Type}{A:Lay α}{G:Nat}{cs:Array Value}{l:List α}(h:Blk w G cs t) (b:l.length=n) (e:∀ (i:Nat) x,l[i]?=some x->∃ ds,A.In w All x ds/\∀ j,j<A.size->∃ v,ds[j]?=some v/\cs[i*A.size+j]?=some v):A.list.In w All l [.slice (some ⟨G,0,none⟩) n n] :=
 ⟨_,_,by rw[b],fun i x a=>by
  obtain⟨ds,f,k⟩:=e i x a
  refine⟨G,0,ds,Z,Y,h.lt,fun j c=>?_,f⟩
  obtain⟨v,d,g⟩:=k j c
  rw[XK,d]
  exact Qa h _ v g⟩
abbrev tCode:Array Value:=#[Iv 3,Iv 0,Iv 0,Iv 0,Iv 0,Iv 0,Nv,Nv,Iv 1,Iv 0,Iv 0,Iv 0,Iv 0,Iv 1,Nv,Nv,Iv 4,Iv 0,Iv 0,Iv 0,Iv 0,Iv 0,Nv,Nv,Iv 4,Iv 0,Iv 0,Iv 0,Iv 0,Iv 0,Nv,Nv]
theorem Qmd {d k e:Nat}(o:Blk w d #[Iv 0,Nv,.slice (some ⟨e,0,none⟩) 4 4,Iv 3,Iv 0,Iv 0,Nv,Nv,Iv 0,Nv,Nv,Nv] 86) (m:Blk w k #[Iv 0,Nv,Nv,.slice (some ⟨d,0,none⟩) 1 1] 89) (n:Blk w e tCode 78) :
 (Qar 6).In w All two6 [.slice (some ⟨k,0,none⟩) 1 1]:=by
 have c:=Qnf w;have g:(Qt 6).In w All ([]:List (TT 6)) [Nv]:=Yg _ _ _ _ _
 have p:insL.list.In w All two1 [.slice (some ⟨e,0,none⟩) 4 4]:=by
  refine QlK n Z (fun i x a=>?_);match i,a with
  | 0,a=>cases a;exact⟨_,Qd4 (x:=bI 3) c c (by decide),fun j h=>by rcases j with _ | _ | _ | _ | _ | _ | _ | _ | j<;>first | exact⟨_,Z,Z⟩ | (exfalso;have:insL.size=8:=rfl;omega)⟩
  | 1,a=>cases a;exact⟨_,Qd4 (x:=⟨1,0,0,0,0,1,[],[]⟩) c c (by decide),fun j h=>by rcases j with _ | _ | _ | _ | _ | _ | _ | _ | j<;>first | exact⟨_,Z,Z⟩ | (exfalso;have:insL.size=8:=rfl;omega)⟩
  | 2,a=>cases a;exact⟨_,Qd4 (x:=bI 4) c c (by decide),fun j h=>by rcases j with _ | _ | _ | _ | _ | _ | _ | _ | j<;>first | exact⟨_,Z,Z⟩ | (exfalso;have:insL.size=8:=rfl;omega)⟩
  | 3,a=>cases a;exact⟨_,Qd4 (x:=bI 4) c c (by decide),fun j h=>by rcases j with _ | _ | _ | _ | _ | _ | _ | _ | j<;>first | exact⟨_,Z,Z⟩ | (exfalso;have:insL.size=8:=rfl;omega)⟩
  | i+4,a=>exact absurd (Zi a).1 (by show ¬ i+4<4;omega)
 have l:(ZV 6).list.In w All [tB] [.slice (some ⟨d,0,none⟩) 1 1]:=QaP o Z (Qee (x:=tB) (b:=⟨none,0,some ⟨e,0,none⟩,4,_⟩) ⟨g,p,QmI w,by decide⟩);exact QaP m Z (Qfy (x:=tF) (f:=⟨none,0,none,0,some ⟨d,0,none⟩,1⟩) ⟨g,g,l,by decide⟩)
theorem QkK (w:World):Calls prog 38 #[] w fun e w'=>∃ G2,e=.returned (.agg #[.slice (some ⟨G2,0,none⟩) 1 1])/\(Qar 6).In w' All five6 [.slice (some ⟨G2,0,none⟩) 1 1]/\Below w.heap.size w w':=by
 have j:=Qg ((Bxs.start w).new #[Nv] 24);go_enter func38,ntmps38
 go_upto_region 1 with fail
 generalize w.alloc (.cells #[Nv] 24)=B at j |-;generalize w.heap.size=R at j |-;go_wp2_with fail
 refine(Qfp B).mono ?_
 rintro K y ⟨q,G2,rfl,D,x,A,F,u,z⟩;have m:=Qg (((j.out.made z D A).add x (Zt j.out.bel.size F) (fun b E=>by simp only[List.mem_cons,List.not_mem_nil,or_false] at E;rcases E with rfl | rfl;exact u;exact fun e=>by have N:R<B.heap.size:=(j.out.at (a:=[])).lt;have e:R=G2:=e;omega)).new #[.slice (some ⟨G2,0,none⟩) 1 1] 24);clear D x A F u z j;go_upto_region 2 with fail
 generalize y.alloc (.cells #[.slice (some ⟨G2,0,none⟩) 1 1] 24)=p at m |-;generalize y.heap.size=Y at m |-;have n:=Qg (m.out.new #[Iv 1,Iv 0,Nv] 105);have d:=m.out.cell (a:=[]) 0 _ Z;have J:=n.out.cell (a:=[_,_]) 2 _ Z;have l:=n.out.free (a:=[_,_]) 2;go_upto_region 3 with fail
 have i:=Qg (n.out.set (a:=[_,_]) 2 (.slice (some ⟨p.heap.size,0,none⟩) 1 1));clear m n d J l;generalize (p.alloc (.cells #[Iv 1,Iv 0,Nv] 105)).setCell ⟨G2,2,none⟩ (.slice (some ⟨p.heap.size,0,none⟩) 1 1)=k at i |-;generalize p.heap.size=T at i |-;have r:=Qg (i.out.new #[Iv 1,Iv 0,Iv 0,Iv 0,Iv 0,Iv 5,Nv,Nv] 78);have d:k.cell? ⟨Y,0,none⟩=some (.slice (some ⟨G2,0,none⟩) 1 1):=i.out.cell (a:=[_]) 0 _ Z;have s:k.cell? ⟨G2,3,none⟩=some (.slice (some ⟨q,0,none⟩) 1 1):=i.out.cell (a:=[_,_]) 3 _ Z;have t:=r.out.cell (a:=[_,_,_,_]) 2 _ Z;have l:=r.out.free (a:=[_,_,_,_]) 2;go_upto_region 4 with fail
 have h:=Qg (r.out.set (a:=[_,_,_,_]) 2 (.slice (some ⟨k.heap.size,0,none⟩) 1 1));clear i r d s t l;generalize (k.alloc (.cells #[Iv 1,Iv 0,Iv 0,Iv 0,Iv 0,Iv 5,Nv,Nv] 78)).setCell ⟨q,2,none⟩ (.slice (some ⟨k.heap.size,0,none⟩) 1 1)=f at h |-;generalize k.heap.size=C at h |-;have o:=Qg (h.out.new #[Iv 0] 3);have d:f.cell? ⟨Y,0,none⟩=some (.slice (some ⟨G2,0,none⟩) 1 1):=h.out.cell (a:=[_,_]) 0 _ Z;have s:f.cell? ⟨G2,3,none⟩=some (.slice (some ⟨q,0,none⟩) 1 1):=h.out.cell (a:=[_,_,_]) 3 _ Z;have t:=o.out.cell (a:=[_,_,_,_,_]) 11 _ Z;have l:=o.out.free (a:=[_,_,_,_,_]) 11;go_upto_region 5 with fail
 have g:=Qg (o.out.set (a:=[_,_,_,_,_]) 11 (.slice (some ⟨f.heap.size,0,none⟩) 1 1));clear h o d s t l;generalize (f.alloc (.cells #[Iv 0] 3)).setCell ⟨q,11,none⟩ (.slice (some ⟨f.heap.size,0,none⟩) 1 1)=H at g |-;generalize f.heap.size=I at g |-;have d:H.cell? ⟨Y,0,none⟩=some (.slice (some ⟨G2,0,none⟩) 1 1):=g.out.cell (a:=[_,_,_]) 0 _ Z;have L:=g.out.cell (a:=[_,_,_,_,_,_]) 0 _ Z;have M:=g.out.free (a:=[_,_,_,_,_,_]) 0;have c:=Qg (g.out.set (a:=[_,_,_,_,_,_]) 0 (.slice (some ⟨G2,0,none⟩) 1 1));go_wp2
 have G:=c.out.cell (a:=[_,_,_,_,_,_]) 0 _ Z;refine Xy (v:=.agg #[.slice (some ⟨G2,0,none⟩) 1 1]) (by simp[results,results38,go_sem,G]) Z ⟨G2,Z,?_,c.out.bel⟩;exact Qlj (c.out.at (a:=[_,_,_,_,_])) (c.out.at (a:=[_,_,_,_])) (c.out.at (a:=[_,_])) (c.out.at (a:=[_])) (c.out.at (a:=[]))
def QeV (w:World) (a:Option Addr) (l:List Int):Prop:=∀ i x,l[i]?=some x->∃ g o,a=some ⟨g,o,none⟩/\w.cell? ⟨g,o+i,none⟩=some (Iv x)
theorem QeV.below (h:QeV w a l) (b:Below w.heap.size w w'):QeV w' a l:=fun i x c=>by
 obtain⟨g,o,e,d⟩:=h i x c
 exact⟨g,o,e,Qn d b⟩
theorem QiR.lg {lo:Nat}(h:QiR lo l (.slice a n c) w):n=l.length/\QeV w a l:=by
 obtain⟨q,f,e,s,o,t⟩:=h
 simp only[Value.slice.injEq] at e
 obtain⟨rfl,rfl,rfl⟩:=e
 refine⟨Z,fun i x b=>?_⟩
 have u:=(Zi b).1;rcases o.2 with ⟨e,p⟩|⟨g,r,k,e,-,j,-,-,-,m⟩
 ·omega
 ·simp only[Value.slice.injEq] at e
  have d:(l.map (Value.int .i64))[i]?=some (Iv x):=by simp[b]
  rw[<-m,XR,Xs (by omega)] at d
  exact⟨g,0,e.1,Qa j _ _ (by rw[XK];simpa using d)⟩
theorem QeV.nil (w:World) (a:Option Addr):QeV w a []:=fun i x b=>by simp at b
theorem QgF {b:Option Addr}(q:l.length=N) (s:N<=100000) (n:QeV w a l) (j:QeV w b l) :
 Calls prog 28 #[.slice a N c,.slice b N d] w fun e w'=>e=.returned (.bool true)/\∃ m,w'=w.drewN m:=by
 have u:=Qb n;have t:=Qb j;have p:Hid (l.length=N):=q;clear n j q;go_enter func28,ntmps28
 go_wp2
 go_loopw [5] (fun i wr=>∃ k m:Nat,k<=N/\i=Iv k/\wr=w.drewN m) (fun i _=>N - (intOf i).toNat)
 case atStart=>exact⟨0,0,Xb _,Z,Z⟩
 case round =>
  obtain⟨k,m,B,rfl,rfl⟩:=hrel
  by_cases h:k<N
  ·have f:l[k]?=some (l[k]'(by rw[p.out];exact h)):=Zg _;generalize l[k]'(by rw[p.out];exact h)=y at f;obtain⟨g,o,rfl,C⟩:=u.out k y f
   obtain⟨A,z,rfl,v⟩:=t.out k y f
   have r:(k:Int)<N:=by omega
   have x:(0:Int)<=k:=by omega
   clear f;go_wp2_with fail
   go_quiet (fail)
   go_wp2
   go_roundw
   case rel=>exact⟨k+1,_,by omega,by go_num,Z⟩
   case measure=>simp[intOf];omega
  ·go_wp2
   go_ret;exact⟨Z,_,Z⟩
theorem QcE {b:Option Addr}(k:l.length=N) (f:N<=100000) (h:QeV w a l) (g:QeV w b l) :
 Calls prog 28 #[.slice a N c,.slice b N d] w fun e w'=>e=.returned (.bool true)/\Below w.heap.size w w' :=
 (QgF k f h g).mono fun e w' ⟨i,m,j⟩=>⟨i,by rw[j];exact Qh Zr _⟩
theorem QhS {fin fuel:Int}{r:List Int}{a' b h:Option Addr}{c' j:Nat}(C:l.length<=100000) (I:r.length<=100000) (x:QeV w a l) (z:QeV w a' l) (y:QeV w b r) (B:QeV w h r) :
 Calls prog 26 #[.agg #[Iv fin,.slice a l.length c,.slice b r.length d,Iv fuel],.agg #[Iv fin,.slice a' l.length c',.slice h r.length j,Iv fuel]] w fun e w'=>e=.returned (.bool true)/\Below w.heap.size w w':=by
 have v:Hid (∀ f,Below w.heap.size w f->Calls prog 28 #[.slice a l.length c,.slice a' l.length c'] f fun e w'=>e=.returned (.bool true)/\Below f.heap.size f w'):=fun f n=>QcE Z C (x.below n) (z.below n);have A:Hid (∀ f,Below w.heap.size w f->Calls prog 28 #[.slice b r.length d,.slice h r.length j] f fun e w'=>e=.returned (.bool true)/\Below f.heap.size f w'):=fun f n=>QcE Z I (y.below n) (B.below n);have m:=Qb (QaT w (.cells #[Iv fin,.slice a l.length c,.slice b r.length d,Iv fuel] 44) (.cells #[Iv fin,.slice a' l.length c',.slice h r.length j,Iv fuel] 44));clear x z y B;go_enter func26,ntmps26
 go_upto_region 1 with fail
 have i:=Qh1 w #[Iv fin,.slice a l.length c,.slice b r.length d,Iv fuel] 44 (.cells #[Iv fin,.slice a' l.length c',.slice h r.length j,Iv fuel] 44);have g:=Qcr w (.cells #[Iv fin,.slice a l.length c,.slice b r.length d,Iv fuel] 44) #[Iv fin,.slice a' l.length c',.slice h r.length j,Iv fuel] 44;generalize (w.alloc (.cells #[Iv fin,.slice a l.length c,.slice b r.length d,Iv fuel] 44)).alloc (.cells #[Iv fin,.slice a' l.length c',.slice h r.length j,Iv fuel] 44)=E at m i g |-;generalize w.heap.size+1=Y at g |-;generalize w.heap.size=X at i |-;have K:=Qa i 0 _ Z;have F:=Qa i 1 _ Z;have t:=Qa i 2 _ Z;have p:=Qa i 3 _ Z;have D:=Qa g 0 _ Z;have G:=Qa g 1 _ Z;have u:=Qa g 2 _ Z;have s:=Qa g 3 _ Z;clear i g;go_wp2_with fail
 refine(v.out E m.out).mono ?_
 rintro L H ⟨rfl,k⟩;have q:=Qb (m.out.trans (k.mono m.out.size));have t:=Qn t k;have u:=Qn u k;have p:=Qn p k;have s:=Qn s k;clear v K F D G k m;go_wp2_with fail
 refine(A.out H q.out).mono ?_
 rintro M N ⟨rfl,o⟩;have J:=Qb (q.out.trans (o.mono q.out.size));have p:=Qn p o;have s:=Qn s o;clear A t u o q;go_wp2
 go_ret;exact⟨Z,J.out⟩
theorem QmS (w:World) (c a:Int):Calls prog 49 #[Iv c,Iv a] w fun e w'=>e=.returned (Qa8 c a)/\Below w.heap.size w w':=by
 have d:=Qb (Zb w (.cells #[Iv 0,Iv 0] 32));have b:=Qb (Qe w #[Iv 0,Iv 0] 32);go_enter func49,ntmps49
 go_upto_region 1 with fail
 generalize w.alloc (.cells #[Iv 0,Iv 0] 32)=m at d b |-;have j:Hid (w.heap.size<=w.heap.size):=Ze;generalize h:w.heap.size=X at b j d |-;have f:=Qb h;clear h;have q:=Qa b.out 0 _ Z;have n:=Qa b.out 1 _ Z;have l:=Qd b.out 0;have o:=Qd b.out 1;go_wp2
 have g:=ZK b.out (Iv c) (Iv a);have k:=Qa g 0 _ Z;have i:=Qa g 1 _ Z;refine Xy (v:=Qa8 c a) (by simp[results,results49,go_sem,k,i]) Z ⟨Z,?_⟩;rw[<-f.out] at d |-
 exact(d.out.setCell (p:=⟨_,0,none⟩) Ze _).setCell (p:=⟨_,1,none⟩) Ze _
def Qa5 (n:Nat) (fu pg:Int):Value:=if 200<n\/fu<0\/20000<fu\/pg<0\/64<pg then Qa8 1 (-1) else Qa8 0 0
theorem QfR {b a:Int}(h:200<n\/b<0\/20000<b\/a<0\/64<a):Qa5 n b a=Qa8 1 (-1):=Xs h
theorem Qfq {b a:Int}(h:¬ (200<n\/b<0\/20000<b\/a<0\/64<a)):Qa5 n b a=Qa8 0 0:=Xr h
theorem QdV (w:World) (p:Option Addr) (n c:Nat) (b g:Int) (hn:n<1152921504606846976) :
 Calls prog 15 #[.slice p n c,Iv b,Iv g] w fun e w'=>e=.returned (Qa5 n b g)/\Below w.heap.size w w':=by
 have k:=Qb (Zb w (.cells #[Iv 0,Iv 0] 32));have l:=Qb (Qe w #[Iv 0,Iv 0] 32);go_enter func15,ntmps15
 go_upto_region 1 with fail
 generalize w.alloc (.cells #[Iv 0,Iv 0] 32)=x at k l |-;have Q:Hid (w.heap.size<=w.heap.size):=Ze;generalize P:w.heap.size=X at l Q k |-;have d:=Qb P;clear P;have z:=Qa l.out 0 _ Z;have D:=Qa l.out 1 _ Z;have A:=Qd l.out 0;have F:=Qd l.out 1;have f:(200<n\/b<0\/20000<b\/g<0\/64<g)->Hid (Qa5 n b g=Qa8 1 (-1)):=fun h=>QfR h;have t:¬ (200<n\/b<0\/20000<b\/g<0\/64<g)->Hid (Qa5 n b g=Qa8 0 0):=fun h=>Qfq h;have q:Hid (∀ C,Calls prog 49 #[Iv 1,Iv (-1)] C fun e w'=>e=.returned (Qa8 1 (-1))/\Below C.heap.size C w'):=fun C=>QmS C 1 (-1);by_cases s:200<n
 ·have E:=f (.inl s);have B:decide ((n:Int)>200)=true:=Xt (by omega);clear f t s;go_wp2_with fail
  refine(q.out x).mono ?_
  rintro H I ⟨rfl,j⟩;have a:=Qb (Blk.below l.out j);have z:=Qa a.out 0 _ Z;have D:=Qa a.out 1 _ Z;have A:=Qd a.out 0;have F:=Qd a.out 1;have r:=Qb (k.out.trans (j.mono (by have G:=k.out.size;have K:=d.out;omega)));have i:=Qb (ZK a.out (Iv 1) (Iv (-1)));go_wp2
  have m:=Qa i.out 0 _ Z;have o:=Qa i.out 1 _ Z;refine Xy (v:=Qa5 n b g) (by rw[E.out];simp[results,results15,go_sem,m,o,Qa8]) Z ⟨Z,?_⟩;rw[d.out]
  exact(r.out.setCell (p:=⟨_,0,none⟩) Ze _).setCell (p:=⟨_,1,none⟩) Ze _
 by_cases u:b<0
 ·have E:=f (.inr (.inl u));have B:decide ((n:Int)>200)=false:=Xu (by omega);have J:decide (b<0)=true:=Xt (by omega);clear f t s u;go_wp2_with fail
  refine(q.out x).mono ?_
  rintro H I ⟨rfl,j⟩;have a:=Qb (Blk.below l.out j);have z:=Qa a.out 0 _ Z;have D:=Qa a.out 1 _ Z;have A:=Qd a.out 0;have F:=Qd a.out 1;have r:=Qb (k.out.trans (j.mono (by have G:=k.out.size;have K:=d.out;omega)));have i:=Qb (ZK a.out (Iv 1) (Iv (-1)));go_wp2
  have m:=Qa i.out 0 _ Z;have o:=Qa i.out 1 _ Z;refine Xy (v:=Qa5 n b g) (by rw[E.out];simp[results,results15,go_sem,m,o,Qa8]) Z ⟨Z,?_⟩;rw[d.out]
  exact(r.out.setCell (p:=⟨_,0,none⟩) Ze _).setCell (p:=⟨_,1,none⟩) Ze _
 by_cases y:20000<b
 ·have E:=f (.inr (.inr (.inl y)));have B:decide ((n:Int)>200)=false:=Xu (by omega);have J:decide (b<0)=false:=Xu (by omega);have M:decide (b>20000)=true:=Xt (by omega);clear f t s u y;go_wp2_with fail
  refine(q.out x).mono ?_
  rintro H I ⟨rfl,j⟩;have a:=Qb (Blk.below l.out j);have z:=Qa a.out 0 _ Z;have D:=Qa a.out 1 _ Z;have A:=Qd a.out 0;have F:=Qd a.out 1;have r:=Qb (k.out.trans (j.mono (by have G:=k.out.size;have K:=d.out;omega)));have i:=Qb (ZK a.out (Iv 1) (Iv (-1)));go_wp2
  have m:=Qa i.out 0 _ Z;have o:=Qa i.out 1 _ Z;refine Xy (v:=Qa5 n b g) (by rw[E.out];simp[results,results15,go_sem,m,o,Qa8]) Z ⟨Z,?_⟩;rw[d.out]
  exact(r.out.setCell (p:=⟨_,0,none⟩) Ze _).setCell (p:=⟨_,1,none⟩) Ze _
 by_cases L:g<0
 ·have E:=f (.inr (.inr (.inr (.inl L))));have B:decide ((n:Int)>200)=false:=Xu (by omega);have J:decide (b<0)=false:=Xu (by omega);have M:decide (b>20000)=false:=Xu (by omega);have O:decide (g<0)=true:=Xt (by omega);clear f t s u y L;go_wp2_with fail
  refine(q.out x).mono ?_
  rintro H I ⟨rfl,j⟩;have a:=Qb (Blk.below l.out j);have z:=Qa a.out 0 _ Z;have D:=Qa a.out 1 _ Z;have A:=Qd a.out 0;have F:=Qd a.out 1;have r:=Qb (k.out.trans (j.mono (by have G:=k.out.size;have K:=d.out;omega)));have i:=Qb (ZK a.out (Iv 1) (Iv (-1)));go_wp2
  have m:=Qa i.out 0 _ Z;have o:=Qa i.out 1 _ Z;refine Xy (v:=Qa5 n b g) (by rw[E.out];simp[results,results15,go_sem,m,o,Qa8]) Z ⟨Z,?_⟩;rw[d.out]
  exact(r.out.setCell (p:=⟨_,0,none⟩) Ze _).setCell (p:=⟨_,1,none⟩) Ze _
 by_cases N:64<g
 ·have E:=f (.inr (.inr (.inr (.inr N))));have B:decide ((n:Int)>200)=false:=Xu (by omega);have J:decide (b<0)=false:=Xu (by omega);have M:decide (b>20000)=false:=Xu (by omega);have O:decide (g<0)=false:=Xu (by omega);have R:decide (g>64)=true:=Xt (by omega);clear f t s u y L N;go_wp2_with fail
  refine(q.out x).mono ?_
  rintro H I ⟨rfl,j⟩;have a:=Qb (Blk.below l.out j);have z:=Qa a.out 0 _ Z;have D:=Qa a.out 1 _ Z;have A:=Qd a.out 0;have F:=Qd a.out 1;have r:=Qb (k.out.trans (j.mono (by have G:=k.out.size;have K:=d.out;omega)));have i:=Qb (ZK a.out (Iv 1) (Iv (-1)));go_wp2
  have m:=Qa i.out 0 _ Z;have o:=Qa i.out 1 _ Z;refine Xy (v:=Qa5 n b g) (by rw[E.out];simp[results,results15,go_sem,m,o,Qa8]) Z ⟨Z,?_⟩;rw[d.out]
  exact(r.out.setCell (p:=⟨_,0,none⟩) Ze _).setCell (p:=⟨_,1,none⟩) Ze _
 have E:=t (by omega);have B:decide ((n:Int)>200)=false:=Xu (by omega);have J:decide (b<0)=false:=Xu (by omega);have M:decide (b>20000)=false:=Xu (by omega);have O:decide (g<0)=false:=Xu (by omega);have R:decide (g>64)=false:=Xu (by omega);clear f t s u y L N;have i:=Qb (ZK l.out (Iv 0) (Iv 0));go_wp2
 have m:=Qa i.out 0 _ Z;have o:=Qa i.out 1 _ Z;refine Xy (v:=Qa5 n b g) (by rw[E.out];simp[results,results15,go_sem,m,o,Qa8]) Z ⟨Z,?_⟩;rw[d.out]
 exact(k.out.setCell (p:=⟨_,0,none⟩) Ze _).setCell (p:=⟨_,1,none⟩) Ze _
theorem Qlg (h:intsL.In w O l [.slice a n c]):∀ x∈l,ZE x:=fun x d=>by
 obtain⟨i,j⟩:=List.mem_iff_getElem?.1 d
 obtain⟨g,o,k,-,-,-,-,e,b,f⟩:=Yf h j
 exact⟨b,f⟩
theorem QmB {m:List (MFunc 6)}(h:(Qar 6).In w O m [.slice a n c]):M64 m:=fun v q u d x b=>by
 obtain⟨i,s⟩:=List.mem_iff_getElem?.1 q
 obtain⟨_,_,_,-,-,-,-,o⟩:=Yf h s
 obtain⟨_,_,_,_,_,_,rfl,-,-,r,-⟩:=QaO o
 obtain⟨j,f⟩:=List.mem_iff_getElem?.1 d
 obtain⟨_,_,_,-,-,-,-,p⟩:=Yf r f
 obtain⟨_,_,_,_,_,rfl,-,t,-⟩:=Qcs p
 obtain⟨k,g⟩:=List.mem_iff_getElem?.1 b
 obtain⟨_,_,_,-,-,-,-,l⟩:=Yf t g
 obtain⟨_,_,_,_,rfl,-,-,e⟩:=Qhc l
 exact e.2.2.2.2.2
theorem Qi6 {m:List (MFunc 6)}(f:(Qar 6).In w All m [.slice pm m.length cm]) (h:Qcz m) (b:intsL.In w All inp [.slice pi inp.length ci]) (a:(modFault m).1=0) (hi:inp.length<=200) (d:most<=20000) (g:pages<=64) :
 Calls prog 24 #[.agg #[.slice pm m.length cm],.slice pi inp.length ci,Iv (most:Int),Iv (pages:Int)] w fun e w'=>Qd1 w m inp most pages e w' :=
 Qj9 makeArr_any a (QmB f) d (Qio a ⟨by omega,Qlg b⟩ (by omega)) (fun i c=>Qkr (Ya f c) h (Ya b c) a (Qlg b) hi d g)
theorem five_runs:∃ M',IM.steps five6 aOp 9 2 (IM.start [] 0)=some M'/\M'.done=true/\M'.fin=0/\M'.back=[5]/\M'.out=[]/\M'.fuel=2:=⟨_,Z,Z,Z,Z,Z,Z⟩
theorem two_runs:∃ N,IM.steps two6 aOp 9 3 (IM.start [] 0)=some N/\N.done=false/\IM.step two6 aOp 9 N=none/\IM.place two6 N=3:=⟨_,Z,Z,Z,Z⟩
theorem Qk5 {e:Ending}(h:Qd1 w five6 [] 9 0 e w'):Below w.heap.size w w'/\∃ a c b d,e=.returned (.tuple #[.agg #[Iv 0,.slice a 1 c,.slice b 0 d,Iv 2],Qa8 0 0])/\QeV w' a [5]:=by
 obtain⟨y,g,i,p,x,u,l⟩:=five_runs
 refine⟨h.1,?_⟩
 rcases h.2 with ⟨A,⟨k,N,-,t,m,r,-⟩,-⟩|⟨k,C,-,q,s,v,n,rfl⟩
 ·exact(Qfw g i t m r).elim
 ·have:=QhR q s g i
  subst this;obtain⟨z,B,rfl,j,o⟩:=n
  obtain⟨a,c,rfl,-⟩:=id j
  obtain⟨b,d,rfl,-⟩:=id o
  have f:=j.lg;rw[p,l]
  rw[x] at f |-
  rw[u]
  exact⟨a,c,b,d,Z,f.2⟩
theorem Qlq {e:Ending}(h:Qd1 w two6 [] 9 0 e w'):Below w.heap.size w w'/\e=.returned (.tuple #[.agg #[Iv 0,Nv,Nv,Iv 0],Qa8 20 3]):=by
 obtain⟨n,b,d,c,l⟩:=two_runs
 refine⟨h.1,?_⟩
 rcases h.2 with ⟨o,⟨k,N,-,m,f,g,a⟩,rfl⟩|⟨k,q,-,j,i,v,p,rfl⟩
 ·have:=Qjc m f g b d c
  subst this;rw[a,l]
 ·exact(Qfw j i b d c).elim
theorem QdX (w:World):Calls prog 9 #[] w fun e w'=>e=.returned (.bool true)/\Below w.heap.size w w':=by
 go_enter func9,ntmps9
 go_wp2_with fail
 refine(QkK w).mono ?_
 rintro e1 w1 ⟨G2,rfl,G,Q⟩;have o:=Qb (Qi6 (inp:=[]) (most:=9) (pages:=0) G (Qbq five_not) (Qnf w1) (congrArg Prod.fst five_fault) (by decide) (by decide) (by decide));have y:=Qb Q;clear G Q;go_wp2_with fail
 refine o.out.mono ?_;rintro e2 t p;obtain⟨b2,a,c,b,d,rfl,I⟩:=Qk5 p
 have B0:=Qb (y.out.trans (b2.mono y.out.size));have P:=Qb (Bxs.start t);have HL:=Qb I;clear p b2 I o y;have h:=(P.out.new #[Iv 0,.slice a 1 c,.slice b 0 d,Iv 2] 44).new #[Iv 0,Iv 0] 32;rw[World.size_alloc] at h
 have h:=Qb h;go_upto_region 2 with fail
 generalize (t.alloc (.cells #[Iv 0,.slice a 1 c,.slice b 0 d,Iv 2] 44)).alloc (.cells #[Iv 0,Iv 0] 32)=B at h |-;generalize t.heap.size+1=F at h |-;generalize t.heap.size=O at h |-;clear P;go_wp2_with fail
 refine(Qfp B).mono ?_
 rintro e4 M ⟨G3,k,rfl,S,K,R,n2,H,N⟩
 have n:=Qb (((h.out.made N S R).add K (Zt h.out.bel.size n2) (fun b X=>by
  simp only[List.mem_cons,List.not_mem_nil,or_false] at X
  have h8:O<B.heap.size:=(h.out.at (a:=[_])).lt;have h9:F<B.heap.size:=(h.out.at (a:=[])).lt;rcases X with rfl | rfl | rfl
  ·exact H
  ·exact fun e=>by have e:F=k:=e;omega
  ·exact fun e=>by have e:O=k:=e;omega)).new #[.slice (some ⟨k,0,none⟩) 1 1] 24)
 clear S K R n2 H N h;go_upto_region 3 with fail
 generalize M.alloc (.cells #[.slice (some ⟨k,0,none⟩) 1 1] 24)=m at n |-;generalize M.heap.size=Y at n |-;have s:=Qb (n.out.new tCode 78);have u:m.cell? ⟨Y,0,none⟩=some (.slice (some ⟨k,0,none⟩) 1 1):=n.out.cell (a:=[]) 0 _ Z;have g3:m.cell? ⟨k,3,none⟩=some (.slice (some ⟨G3,0,none⟩) 1 1):=n.out.cell (a:=[_]) 3 _ Z;have c2:=s.out.cell (a:=[_,_,_]) 2 _ Z;have z2:=s.out.free (a:=[_,_,_]) 2;go_upto_region 4 with fail
 have j:=Qb (s.out.set (a:=[_,_,_]) 2 (.slice (some ⟨m.heap.size,0,none⟩) 4 4));clear n s u g3 c2 z2;generalize (m.alloc (.cells tCode 78)).setCell ⟨G3,2,none⟩ (.slice (some ⟨m.heap.size,0,none⟩) 4 4)=z at j |-;generalize m.heap.size=C at j |-;have u:z.cell? ⟨Y,0,none⟩=some (.slice (some ⟨k,0,none⟩) 1 1):=j.out.cell (a:=[_]) 0 _ Z;have E:=Qmd (w:=z) (j.out.at (a:=[_,_,_])) (j.out.at (a:=[_,_])) (j.out.at (a:=[]));have o:=Qb (Qi6 (inp:=[]) (most:=9) (pages:=0) E (Qbq two_not) (Qnf z) (congrArg Prod.fst two_fault) (by decide) (by decide) (by decide));clear E;go_wp2_with fail
 refine o.out.mono ?_;rintro e7 D p;obtain⟨T,rfl⟩:=Qlq p
 have f:=(j.out.below T).new #[Iv 0,Nv,Nv,Iv 0] 44 |>.new #[Iv 20,Iv 3] 32
 rw[World.size_alloc] at f
 have f:=Qb f;clear p T o j u;go_upto_region 5 with fail
 generalize (D.alloc (.cells #[Iv 0,Nv,Nv,Iv 0] 44)).alloc (.cells #[Iv 20,Iv 3] 32)=g at f |-;generalize D.heap.size+1=U at f |-;generalize D.heap.size=O2 at f |-;have f0:g.cell? ⟨F,0,none⟩=some (Iv 0):=f.out.cell (a:=[_,_,_,_,_,_]) 0 _ Z;have o0:g.cell? ⟨O,0,none⟩=some (Iv 0):=f.out.cell (a:=[_,_,_,_,_,_,_]) 0 _ Z;have o1:g.cell? ⟨O,1,none⟩=some (.slice a 1 c):=f.out.cell (a:=[_,_,_,_,_,_,_]) 1 _ Z;have o2:g.cell? ⟨O,2,none⟩=some (.slice b 0 d):=f.out.cell (a:=[_,_,_,_,_,_,_]) 2 _ Z;have o3:g.cell? ⟨O,3,none⟩=some (Iv 2):=f.out.cell (a:=[_,_,_,_,_,_,_]) 3 _ Z;have A:=Qb (HL.out.below f.out.bel);have B8:=Qb (f.out.new #[Iv 5] 2)
 have V:QeV (g.alloc (.cells #[Iv 5] 2)) (some ⟨g.heap.size,0,none⟩) [5]:=fun i x q=>by
  match i,q with
  | 0,q=>cases q;exact⟨g.heap.size,0,Z,Qa (Qe g #[.int .i64 5] 2) 0 _ Z⟩
  | i+1,q=>exact absurd (Zi q).1 (by simp)
 have L:Hid (Calls prog 26 #[.agg #[Iv 0,.slice a 1 c,.slice b 0 d,Iv 2],.agg #[Iv 0,.slice (some ⟨g.heap.size,0,none⟩) 1 1,Nv,Iv 2]] (g.alloc (.cells #[Iv 5] 2)) fun e w'=>e=.returned (.bool true)/\Below (g.alloc (.cells #[Iv 5] 2)).heap.size (g.alloc (.cells #[Iv 5] 2)) w'):=QhS (l:=[5]) (r:=[]) (by decide) (by decide) (A.out.below (Zb _ _)) V (QeV.nil _ _) (QeV.nil _ _);clear V;go_wp2_with fail
 refine L.out.mono ?_;rintro e9 W ⟨rfl,J⟩;have v:=Qb (B8.out.below J);have p0:W.cell? ⟨U,0,none⟩=some (Iv 20):=v.out.cell (a:=[_]) 0 _ Z;have p1:W.cell? ⟨U,1,none⟩=some (Iv 3):=v.out.cell (a:=[_]) 1 _ Z;clear J L B8 f0 o0 o1 o2 o3;go_wp2
 go_ret;exact⟨Z,B0.out.trans (v.out.bel.mono B0.out.size)⟩
def KTo (wA w:World) (b:Nat) (O:Nat->Prop) (s:JSt):Prop:=∃ O',KAt w b O' s/\QZ O O' wA w/\∀ k,O' k->k<w.heap.size
section
variable {w w9 wA:World}{b:Nat}{O:Nat->Prop}{L:List Bool}{s:JSt}
theorem Qr.push2 (h:Qr w b O L){cap2:Nat}(c0:w.cell? ⟨b,0,none⟩=some (.slice a L.length cap))
 (A:w9.ownsRow 0 4 1 (.slice (some ⟨g,0,none⟩) (L.length+1) cap2) (L.length+1) (L.map Value.bool++[.bool true])) (f:w.grownBy w9 (Value.slice a L.length cap).ownBlock) (s:(Value.slice a L.length cap).ownBlock=some g\/w.heap.size<=g) (u:g<w9.heap.size) :
 w9.cell? ⟨b,0,none⟩=some (.slice a L.length cap)/\w9.frozen? ⟨b,0,none⟩=false /\
 Qr (w9.setCell ⟨b,0,none⟩ (.slice (some ⟨g,0,none⟩) (L.length+1) cap2)) b (fun x=>O x\/(w.heap.size<=x/\x<w9.heap.size)) (L++[true])/\QZ O (fun x=>O x\/(w.heap.size<=x/\x<w9.heap.size)) w (w9.setCell ⟨b,0,none⟩ (.slice (some ⟨g,0,none⟩) (L.length+1) cap2)):=by
 obtain⟨v,l,n,r⟩:=h
 have e:=Qa l 0 _ Z;rw[c0] at e
 simp only[Option.some.injEq] at e
 subst e;have p:b<w.heap.size:=XC l
 have i:∀ j,(Value.slice a L.length cap).ownBlock=some j->b≠j:=fun j d=>by
  obtain⟨c,y⟩:=n.block d
  exact QN l y (by decide)
 have q:w9.heap[b]?=some (.cells #[.slice a L.length cap] 180 (0,0)):=by
  rw[f.block b p (fun e=>i b e.symm Z)];exact l
 have m:b≠g:=by
  rcases s with h | h
  ·exact i g h
  ·omega
 have z:=f.size;refine⟨Qa q 0 _ Z,Qd q 0,⟨.slice (some ⟨g,0,none⟩) (L.length+1) cap2,?_,⟨?_,fun j d=>?_⟩,.inl r⟩,?_⟩
 ·rw[Qm q];rfl
 ·have:QeX w9 (fun _=>True) 4 (.slice (some ⟨g,0,none⟩) (L.length+1) cap2) ((L++[true]).map Value.bool):=⟨by simpa using A,fun _ _=>trivial⟩
  exact(this.keep (w':=w9.setCell ⟨b,0,none⟩ (.slice (some ⟨g,0,none⟩) (L.length+1) cap2)) (O':=fun _=>True) (fun j d=>Xd _ _ _ _ (by simp[Value.ownBlock] at d;subst d;exact fun e=>m e.symm)) (fun _ _=>trivial)).1
 ·simp[Value.ownBlock] at d
  subst d;rcases s with h | h
  ·exact .inl (n.2 _ h)
  ·exact .inr ⟨h,u⟩
 ·refine⟨f.os,f.tape,f.output,by simp;omega,fun k o t=>?_,fun k o=>o.imp id fun h=>h.1⟩
  rw[Xd _ _ _ _ (fun e=>t (by subst e;exact r)),f.block k o (fun e=>t (n.2 k e.symm))]
theorem Qr.keep2 (h:Qr w b O L) (hb:∀ (g:Nat) (c:Array Value) (t:TypeId),w.heap[g]?=some (Obj.cells c t (0,0))->t=180\/t=4->w9.heap[g]?=w.heap[g]?) (f:∀ g,O g->O' g):Qr w9 b O' L:=by
 obtain⟨v,e,d,j⟩:=h
 exact⟨v,(hb b _ _ e (.inl Z)).trans e,d.keep (fun g a=>by obtain⟨c,i⟩:=d.block a;exact hb g _ _ i (.inr Z)) (fun g a=>f g (d.2 g a)),f b j⟩
theorem KAt.pushH (W:∀ k,O k->k<wA.heap.size) (h:KAt wA b O s):∃ hh a cap,wA.cell? ⟨b,5,none⟩=some (Pv hh 0)/\wA.cell? ⟨hh,0,none⟩=some (.slice a s.H.length cap)/\wA.ownsRow 0 4 1 (.slice a s.H.length cap) s.H.length (s.H.map Value.bool) /\
 (∀ w9,wA.grownBy w9 (Value.slice a s.H.length cap).ownBlock->w9.cell? ⟨b,5,none⟩=some (Pv hh 0)/\w9.cell? ⟨hh,0,none⟩=some (.slice a s.H.length cap)/\w9.frozen? ⟨hh,0,none⟩=false) /\
 ∀ w9 g cap2,w9.ownsRow 0 4 1 (.slice (some ⟨g,0,none⟩) (s.H.length+1) cap2) (s.H.length+1) (s.H.map Value.bool++[.bool true])->wA.grownBy w9 (Value.slice a s.H.length cap).ownBlock->((Value.slice a s.H.length cap).ownBlock=some g\/wA.heap.size<=g)->g<w9.heap.size ->
  KTo wA (w9.setCell ⟨hh,0,none⟩ (.slice (some ⟨g,0,none⟩) (s.H.length+1) cap2)) b O { s with H:=s.H++[true] }:=by
 obtain⟨pm,F,S,J,U,X,a3,V,hh,R,o,I,k3,p,D,M⟩:=h
 obtain⟨a,cap,y,e2,e3,-⟩:=p.cells
 have E:∀ f,(Value.slice a s.H.length cap).ownBlock=some f->O f/\∃ c,wA.heap[f]?=some (.cells c 4 (0,0)):=by
  obtain⟨v,w,x,L⟩:=id p
  have e:=Qa w 0 _ Z;rw[y] at e
  simp only[Option.some.injEq] at e
  subst e;exact fun f i=>⟨x.2 f i,x.block i⟩
 obtain⟨K,j⟩:∃ c,wA.heap[hh]?=some (.cells c 180 (0,0)):=by obtain⟨v,w,-⟩:=id p;exact⟨_,w⟩
 have t:=XC o
 have r:∀ f,(Value.slice a s.H.length cap).ownBlock=some f->b≠f:=fun f i=>by
  obtain⟨c,n⟩:=(E f i).2
  exact QN o n (by decide)
 have q:∀ f,(Value.slice a s.H.length cap).ownBlock=some f->hh≠f:=fun f i=>by
  obtain⟨c,n⟩:=(E f i).2
  exact QN j n (by decide)
 have B:b≠hh:=QN o j (by decide);refine⟨hh,a,cap,Qa o 5 _ Z,y,e3,fun w9 A=>?_,fun w9 g cap2 N z Q h4=>?_⟩
 ·have T:w9.heap[hh]?=some (.cells K 180 (0,0)):=(A.block hh p.lt (fun e=>q hh e.symm Z)).trans j;exact⟨(A.cell_far ⟨b,5,none⟩ t (fun e=>r b e.symm Z)).trans (Qa o 5 _ Z),(A.cell_far ⟨hh,0,none⟩ p.lt (fun e=>q hh e.symm Z)).trans y,Qd T 0⟩
 obtain⟨-,-,G,u⟩:=p.push2 y N z Q h4
 have P:=z.size;have m:∀ k,¬ O k->k<wA.heap.size->¬ (O k\/(wA.heap.size<=k/\k<w9.heap.size)):=fun k d l e=>by rcases e with e | e;exact d e;omega
 refine⟨_,⟨pm,F,S,J,U,X,a3,V,hh,R,?_,(Qar 6).keep (fun k d l=>u.block k l d) m I,(QaF 6).keep (fun k d l=>u.block k l d) m k3,G,D.keep (fun k l d=>?_) (fun k d=>?_) m,.inl M⟩,u,fun k d=>?_⟩
 ·rw[Xd _ _ _ _ (show b≠hh from B),z.block b t (fun e=>r b e.symm Z)];exact o
 ·rcases d with d | d
  ·obtain⟨c,n⟩:=D.block d
   rw[Xd _ _ _ _ (show k≠hh from QN n j (by decide)),z.block k l (fun e=>by obtain⟨c',C⟩:=(E k e.symm).2;exact QN n C (by decide) Z)]
  ·exact u.block k l d
 ·obtain⟨xs,w,x,L⟩:=D
  exact .inl (x k d)
 ·rw[World.size_setCell]
  rcases d with d | d
  ·have:=W k d;omega
  ·exact d.2
theorem KAt.setH (N:∀ k,O k->k<wA.heap.size) (h:KAt wA b O s):∃ hh a cap,wA.cell? ⟨b,5,none⟩=some (Pv hh 0)/\wA.cell? ⟨hh,0,none⟩=some (.slice a s.H.length cap) /\
 ∀ i,i<s.H.length->∃ g,a=some ⟨g,0,none⟩/\(∃ u,wA.cell? ⟨g,i,none⟩=some (.bool u))/\wA.frozen? ⟨g,i,none⟩=false/\KTo wA (wA.setCell ⟨g,i,none⟩ (.bool false)) b O { s with H:=s.H.set i false }:=by
 obtain⟨S,y,K,C,L,P,R,M,hh,I,q,A,Q,x,p,F⟩:=h
 obtain⟨a,cap,w,W,e3,G⟩:=x.cells
 have E:∀ j,(Value.slice a s.H.length cap).ownBlock=some j->O j/\∃ c,wA.heap[j]?=some (.cells c 4 (0,0)):=by
  obtain⟨v,t,m,D⟩:=id x
  have e:=Qa t 0 _ Z;rw[w] at e
  simp only[Option.some.injEq] at e
  subst e;exact fun j l=>⟨m.2 j l,m.block l⟩
 refine⟨hh,a,cap,Qa q 5 _ Z,w,fun i T=>?_⟩
 obtain⟨g,rfl,B,J,z,U⟩:=G i T
 obtain⟨c,r⟩:=(E g Z).2
 have n:QZ O O wA (wA.setCell ⟨g,i,none⟩ (.bool false)):=⟨Z,Z,Z,by simp,fun k d V=>Xd _ _ _ _ (fun e=>V (by subst e;exact B)),fun k d=>.inl d⟩;refine⟨g,Z,⟨_,J⟩,z,O,⟨S,y,K,C,L,P,R,M,hh,I,?_,(Qar 6).keep (fun k d f=>n.block k f d) (fun k d _=>d) A,(QaF 6).keep (fun k d f=>n.block k f d) (fun k d _=>d) Q,U false,p.keep (fun k f d=>?_) (fun k d=>?_) (fun k d _=>d),F⟩,n,fun k d=>by rw[World.size_setCell];exact N k d⟩
 ·rw[Xd _ _ _ _ (show b≠g from QN q r (by decide))];exact q
 ·rcases d with d | d
  ·obtain⟨c',o⟩:=p.block d
   exact Xd _ _ _ _ (show k≠g from QN o r (by decide))
  ·exact n.block k f d
 ·obtain⟨X,t,m,D⟩:=p
  exact m k d
theorem KAt.pushL (hO:∀ k,O k->k<wA.heap.size) (h:KAt wA b O s):∃ aL cL xs,wA.cell? ⟨b,6,none⟩=some (.slice aL s.L.length cL)/\wA.frozen? ⟨b,6,none⟩=false/\s.L.length<=cL/\wA.ownsRow 0 105 3 (.slice aL s.L.length cL) s.L.length xs /\
 ∀ w9 g cap2 (l:List (TT 6)) ds,ds.length=l.length*3->w9.ownsRow 0 105 3 (.slice (some ⟨g,0,none⟩) (s.L.length+l.length) cap2) (s.L.length+l.length) (xs++ds)->wA.grownBy w9 (Value.slice aL s.L.length cL).ownBlock->((Value.slice aL s.L.length cL).ownBlock=some g\/g=wA.heap.size)->g<w9.heap.size ->
  (∀ i x,l[i]?=some x->(Lay.tt 6).In wA (fun g=>¬ O g) x ((ds.drop (i*3)).take 3)) ->
  w9.cell? ⟨b,6,none⟩=some (.slice aL s.L.length cL)/\w9.frozen? ⟨b,6,none⟩=false/\KTo wA (w9.setCell ⟨b,6,none⟩ (.slice (some ⟨g,0,none⟩) (s.L.length+l.length) cap2)) b O { s with L:=s.L++l }:=by
 obtain⟨pm,Q,a1,V,a2,c2,a3,c3,K,vL,p,T,k3,N,w,I⟩:=h
 obtain⟨aL,cL,rfl,-,-⟩:=w.form
 have y:∀ {f},(Value.slice aL s.L.length cL).ownBlock=some f->O f/\∃ c,wA.heap[f]?=some (.cells c 105 (0,0)):=fun {f} j=>⟨by obtain⟨xs,o,G,H⟩:=id w;exact G f j,w.block j⟩;obtain⟨xs,o,G,H⟩:=w
 obtain⟨ch,ab⟩:∃ c,wA.heap[K]?=some (.cells c 180 (0,0)):=by obtain⟨v,o,-⟩:=id N;exact⟨_,o⟩
 have D:=XC p
 have u:∀ f,(Value.slice aL s.L.length cL).ownBlock=some f->b≠f:=fun f j=>by
  obtain⟨c,U⟩:=(y j).2
  exact QN p U (by decide)
 have C:s.L.length<=cL:=by
  obtain⟨-,q⟩:=id o
  rcases q with ⟨e,e2⟩|⟨g,aa,S,e,_,_,F,_⟩
  ·omega
  ·simp only[Value.slice.injEq] at e;omega
 refine⟨aL,cL,xs,Qa p 6 _ Z,Qd p 6,C,o,fun w9 g cap2 l ds R W n J h4 h5=>?_⟩
 have X:=n.size;have B:=(n.block b D (fun e=>u b e.symm Z)).trans p
 have A:b≠g:=by
  rcases J with h | h
  ·exact u g h
  ·omega
 have d:∀ k,¬ O k->k<wA.heap.size->¬ (O k\/(wA.heap.size<=k/\k<w9.heap.size)):=fun k a m e=>by rcases e with e | e;exact a e;omega
 have r:QZ O (fun x=>O x\/(wA.heap.size<=x/\x<w9.heap.size)) wA (w9.setCell ⟨b,6,none⟩ (.slice (some ⟨g,0,none⟩) (s.L.length+l.length) cap2)):=by
  refine⟨n.os,n.tape,n.output,by simp;omega,fun k a F=>?_,fun k a=>a.imp id fun h=>h.1⟩
  rw[Xd _ _ _ _ (fun e=>F (by subst e;exact I)),n.block k a (fun e=>F (y e.symm).1)]
 refine⟨Qa B 6 _ Z,Qd B 6,_,⟨pm,Q,a1,V,a2,c2,a3,c3,K,.slice (some ⟨g,0,none⟩) (s.L.length+l.length) cap2,?_,(Qar 6).keep (fun k a m=>r.block k m a) d T,(QaF 6).keep (fun k a m=>r.block k m a) d k3,N.keep2 (fun k c t a M=>?_) (fun k a=>.inl a),?_,.inl I⟩,r,fun k a=>?_⟩
 ·rw[Qm B];rfl
 ·rw[Xd _ _ _ _ (show k≠b from QN a p (by rcases M with rfl | rfl<;>decide)),n.block k (XC a) (fun e=>by obtain⟨c',z⟩:=(y e.symm).2;exact QN a z (by rcases M with rfl | rfl<;>decide) Z)]
 ·refine⟨xs++ds,?_,fun k a=>?_,?_⟩
  ·rw[List.length_append]
   exact QjC W (Xd _ _ _ _ (show g≠b from fun e=>A e.symm))
  ·simp[Value.ownBlock] at a
   subst a;rcases J with h | h
   ·exact .inl (y h).1
   ·exact .inr ⟨by omega,h4⟩
  ·refine Qgj (s:=3) (P:=fun x cs=>(Lay.tt 6).In _ _ x cs) o.1 (fun i x E=>?_) (fun i x E=>?_)
   ·exact(Lay.tt 6).keep (fun k a m=>r.block k m a) d (H i x E)
   ·exact(Lay.tt 6).keep (fun k a m=>r.block k m a) d (h5 i x E)
 ·rw[World.size_setCell]
  rcases a with a | a
  ·have:=hO k a;omega
  ·exact a.2
end
theorem Z8.via {l:List Oper}{S:Nat->Bool}(a:Z8 l S){o:Oper}(b:l[q]?=some o) (c:Qb0 l 24 o i=true) (d:S q=true):S i=true :=
 Qbk (all:=l) (S:=fun j=>S j=true) a 24 o c (a q o b d)
theorem Z8.no {l:List Oper}{S:Nat->Bool}(a:Z8 l S){o:Oper}(b:l[q]?=some o) (c:Qb0 l 24 o i=true) (d:S i=false):S q=false:=by
 cases h:S q with
 | false=>rfl
 | true=>have:=a.via b c h;rw[d] at this;cases this
theorem ZA {S:Nat->Bool}(h:j≠i):ZF i S j=S j:=by
 have:(j==i)=false:=by simpa using h
 unfold ZF;rw[this,Bool.false_or]
theorem Qip {S:Nat->Bool}:ZF i S i=true:=by simp[ZF]
theorem Qhh {w w':World}(h:Below w.heap.size w w') (a:Option Nat):w.grownBy w' a:=⟨h.os,h.tape,h.output,h.size,fun k b _=>h.block k b⟩
def hTi:List (Nat × Tmp):=[(0,38),(1,39),(2,40),(3,41),(4,42),(5,43),(6,44),(7,45),(8,46),(9,47),(10,48),(11,49),(12,50),(13,51),(14,52)]
def hMv (b hh rn rc G g2 cap2:Nat) (ra:Option Addr):List (Tmp × Value):=[(38,Pv b 0),(39,Pv b 0),(40,Pv b 5),(41,Pv hh 0),(42,Pv b 0),(43,Pv b 0),(44,Pv b 5),(45,Pv hh 0),(46,Pv hh 0),(47,Pv hh 0),(48,.slice ra rn rc),(49,.slice (some ⟨G,0,none⟩) 1 1),(50,.slice (some ⟨g2,0,none⟩) (rn+1) cap2),(51,Pv hh 0),(52,Pv hh 0)]
def HIv (n:Nat) (a0:Act) (wA:World) (b:Nat) (O:Nat->Prop) (s:JSt) (hh rn rc:Nat) (ra:Option Addr) (S:Nat->Bool) (a:Act) (w:World):Prop :=
 a.tmps.size=n/\a.defers=[]/\(∀ t,([38,39,40,41,42,43,44,45,46,47,48,49,50,51,52]:List Tmp).contains t=false->a.tmps.getD t undef=a0.tmps.getD t undef)/\∃ G g2 cap2,
  (∀ x∈hTi,S x.1=true->∀ v,(hMv b hh rn rc G g2 cap2 ra).lookup x.2=some v->a.tmps.getD x.2 undef=v) /\
  (S 15=false->wA.grownBy w (Value.slice ra rn rc).ownBlock/\(S 12=false->Below wA.heap.size wA w/\(S 11=true->wA.heap.size<=G/\w.heap[G]?=some (.cells #[.bool true] 4 (0,0)))) /\
   (S 12=true->w.ownsRow 0 4 1 (.slice (some ⟨g2,0,none⟩) (rn+1) cap2) (rn+1) (s.H.map Value.bool++[.bool true])/\((Value.slice ra rn rc).ownBlock=some g2\/wA.heap.size<=g2)/\g2<w.heap.size)) /\
  (S 15=true->KTo wA w b O { s with H:=s.H++[true] })
section
variable {n:Nat}{a0 a:Act}{wA w w':World}{b hh rn rc:Nat}{O:Nat->Prop}{s:JSt}{ra:Option Addr}{S:Nat->Bool}
theorem hTi_lt:∀ x∈hTi,x.2<53/\([38,39,40,41,42,43,44,45,46,47,48,49,50,51,52]:List Tmp).contains x.2=true:=by decide
theorem HIv.pure {t:Tmp}(C:HIv n a0 wA b O s hh rn rc ra S a w) (hn:53<=n) (hi:(i,t)∈hTi) (r:∀ G g2 cap2,(hMv b hh rn rc G g2 cap2 ra).lookup t=some v) (j:i≠11) (k:i≠12) (d:i≠15):HIv n a0 wA b O s hh rn rc ra (ZF i S) (a.put (some t) v) w:=by
 obtain⟨l,A,z,G,g2,cap2,F,E,o⟩:=C
 obtain⟨D,h⟩:=hTi_lt _ hi
 have f:t<a.tmps.size:=by rw[l];exact Zl D hn
 refine⟨by rw[<-l];simp[Act.put],A,fun u g=>?_,G,g2,cap2,fun x m B q c=>?_,?_,?_⟩
 ·have:u≠t:=fun e=>by subst e;rw[h] at g;cases g
  rw[Zh f,Xr this];exact z u g
 ·rw[Zh f]
  by_cases e:x.2=t
  ·rw[Xs e];rw[e,r] at c;exact Xn c
  ·rw[Xr e]
   refine F x m (Zd (fun p=>e ?_) B) q c
   have:∀ x∈hTi,∀ y∈hTi,x.1=y.1->x.2=y.2:=by decide
   exact this x m (i,t) hi p
 ·rw[ZA (Ne.symm d),ZA (Ne.symm k),ZA (Ne.symm j)];exact E
 ·rw[ZA (Ne.symm d)];exact o
end
theorem bUnder:prog.underlying 178=some (.slice 4):=by kernel_rfl
theorem Qol {wA:World}{b:Nat}{O:Nat→Prop}{s:JSt}(hO:∀ k,O k→k<wA.heap.size) (h:KAt wA b O s) (h16:s.H.length≤16) (a:Act) (hn:a.tmps.size=82) (hdf:a.defers=[]) (h0:a.tmps.getD 0 undef=Pv b 0) :
 Code.wp prog ((Tryz.f64.body.bind (Qf 10)).getD .skip) (fun e a' w'=>e=.normal∧∃ vs,a'=QC a vs [38,39,40,41,42,43,44,45,46,47,48,49,50,51,52]∧KTo wA w' b O { s with H:=s.H++[true] }) a wA:=by
 obtain⟨hh,ra,rc,q5,q0,hown,hfar,hpush⟩:=h.pushH hO
 obtain⟨i0,hi,hz0,hz1,hz2⟩:=hInfoB
 conv=>arg 2;whnf
 refine QeJ (HIv 82 a wA b O s hh s.H.length rc ra) (by kernel_rfl) (by kernel_rfl) ?h0 ?hst ?hend
 case h0=>exact⟨hn,hdf,fun _ _=>rfl,0,0,0,fun _ _ h=>(by cases h),fun _=>⟨Qhh (Qh Zr 1) _,fun _=>⟨Qh Zr 1,fun h=>by cases h⟩,fun h=>by cases h⟩,fun h=>by cases h⟩
 case hend =>
  rintro S a' w' hS ⟨h1,h2,h3,G,g2,cap2,h4,h5,h6⟩;have hS':∀ j,j<16→S j=true:=hS;exact⟨rfl,_,QgD (by rw[h1,hn]) (by rw[h2,hdf]) h3,h6 (hS' 15 (by decide))⟩
 case hst =>
  refine⟨fun S a1 w1 hS hd hcl hI K hK=>?_,?_⟩
  ·obtain⟨h1,h2,h3,G,g2,cap2,h4,h5,h6⟩:=id hI
   have H2:Hid (a1.defers=[]):=h2;clear h2;have n15:S 15=false:=hcl.no (q:=15) rfl (by kernel_rfl) hS;have k0:a1.tmps.getD 0 undef=Pv b 0:=(h3 0 (by kernel_rfl)).trans h0;go_simp;exact hK _ _ (hI.pure (by decide) (i:=0) (t:=38) (by decide) (fun _ _ _=>rfl) (by decide) (by decide) (by decide))
  refine⟨fun S a1 w1 hS hd hcl hI K hK=>?_,?_⟩
  ·obtain⟨h1,h2,h3,G,g2,cap2,h4,h5,h6⟩:=id hI
   have H2:Hid (a1.defers=[]):=h2;clear h2;have n15:S 15=false:=hcl.no (q:=15) rfl (by kernel_rfl) hS;have k0:a1.tmps.getD 38 undef=Pv b 0:=h4 (0,38) (by decide) (hd.at 0 (by kernel_rfl)) _ rfl;go_simp;exact hK _ _ (hI.pure (by decide) (i:=1) (t:=39) (by decide) (fun _ _ _=>rfl) (by decide) (by decide) (by decide))
  refine⟨fun S a1 w1 hS hd hcl hI K hK=>?_,?_⟩
  ·obtain⟨h1,h2,h3,G,g2,cap2,h4,h5,h6⟩:=id hI
   have H2:Hid (a1.defers=[]):=h2;clear h2;have n15:S 15=false:=hcl.no (q:=15) rfl (by kernel_rfl) hS;have k0:a1.tmps.getD 39 undef=Pv b 0:=h4 (1,39) (by decide) (hd.at 1 (by kernel_rfl)) _ rfl;go_simp;exact hK _ _ (hI.pure (by decide) (i:=2) (t:=40) (by decide) (fun _ _ _=>rfl) (by decide) (by decide) (by decide))
  refine⟨fun S a1 w1 hS hd hcl hI K hK=>?_,?_⟩
  ·obtain⟨h1,h2,h3,G,g2,cap2,h4,h5,h6⟩:=id hI
   have H2:Hid (a1.defers=[]):=h2;clear h2;have n15:S 15=false:=hcl.no (q:=15) rfl (by kernel_rfl) hS;have k0:a1.tmps.getD 40 undef=Pv b 5:=h4 (2,40) (by decide) (hd.at 2 (by kernel_rfl)) _ rfl;obtain⟨c0,-,-⟩:=hfar w1 (h5 n15).1
   go_simp;exact hK _ _ (hI.pure (by decide) (i:=3) (t:=41) (by decide) (fun _ _ _=>rfl) (by decide) (by decide) (by decide))
  refine⟨fun S a1 w1 hS hd hcl hI K hK=>?_,?_⟩
  ·obtain⟨h1,h2,h3,G,g2,cap2,h4,h5,h6⟩:=id hI
   have H2:Hid (a1.defers=[]):=h2;clear h2;have n15:S 15=false:=hcl.no (q:=15) rfl (by kernel_rfl) hS;have k0:a1.tmps.getD 0 undef=Pv b 0:=(h3 0 (by kernel_rfl)).trans h0;go_simp;exact hK _ _ (hI.pure (by decide) (i:=4) (t:=42) (by decide) (fun _ _ _=>rfl) (by decide) (by decide) (by decide))
  refine⟨fun S a1 w1 hS hd hcl hI K hK=>?_,?_⟩
  ·obtain⟨h1,h2,h3,G,g2,cap2,h4,h5,h6⟩:=id hI
   have H2:Hid (a1.defers=[]):=h2;clear h2;have n15:S 15=false:=hcl.no (q:=15) rfl (by kernel_rfl) hS;have k0:a1.tmps.getD 42 undef=Pv b 0:=h4 (4,42) (by decide) (hd.at 4 (by kernel_rfl)) _ rfl;go_simp;exact hK _ _ (hI.pure (by decide) (i:=5) (t:=43) (by decide) (fun _ _ _=>rfl) (by decide) (by decide) (by decide))
  refine⟨fun S a1 w1 hS hd hcl hI K hK=>?_,?_⟩
  ·obtain⟨h1,h2,h3,G,g2,cap2,h4,h5,h6⟩:=id hI
   have H2:Hid (a1.defers=[]):=h2;clear h2;have n15:S 15=false:=hcl.no (q:=15) rfl (by kernel_rfl) hS;have k0:a1.tmps.getD 43 undef=Pv b 0:=h4 (5,43) (by decide) (hd.at 5 (by kernel_rfl)) _ rfl;go_simp;exact hK _ _ (hI.pure (by decide) (i:=6) (t:=44) (by decide) (fun _ _ _=>rfl) (by decide) (by decide) (by decide))
  refine⟨fun S a1 w1 hS hd hcl hI K hK=>?_,?_⟩
  ·obtain⟨h1,h2,h3,G,g2,cap2,h4,h5,h6⟩:=id hI
   have H2:Hid (a1.defers=[]):=h2;clear h2;have n15:S 15=false:=hcl.no (q:=15) rfl (by kernel_rfl) hS;have k0:a1.tmps.getD 44 undef=Pv b 5:=h4 (6,44) (by decide) (hd.at 6 (by kernel_rfl)) _ rfl;obtain⟨c0,-,-⟩:=hfar w1 (h5 n15).1
   go_simp;exact hK _ _ (hI.pure (by decide) (i:=7) (t:=45) (by decide) (fun _ _ _=>rfl) (by decide) (by decide) (by decide))
  refine⟨fun S a1 w1 hS hd hcl hI K hK=>?_,?_⟩
  ·obtain⟨h1,h2,h3,G,g2,cap2,h4,h5,h6⟩:=id hI
   have H2:Hid (a1.defers=[]):=h2;clear h2;have n15:S 15=false:=hcl.no (q:=15) rfl (by kernel_rfl) hS;have k0:a1.tmps.getD 45 undef=Pv hh 0:=h4 (7,45) (by decide) (hd.at 7 (by kernel_rfl)) _ rfl;go_simp;exact hK _ _ (hI.pure (by decide) (i:=8) (t:=46) (by decide) (fun _ _ _=>rfl) (by decide) (by decide) (by decide))
  refine⟨fun S a1 w1 hS hd hcl hI K hK=>?_,?_⟩
  ·obtain⟨h1,h2,h3,G,g2,cap2,h4,h5,h6⟩:=id hI
   have H2:Hid (a1.defers=[]):=h2;clear h2;have n15:S 15=false:=hcl.no (q:=15) rfl (by kernel_rfl) hS;have k0:a1.tmps.getD 46 undef=Pv hh 0:=h4 (8,46) (by decide) (hd.at 8 (by kernel_rfl)) _ rfl;go_simp;exact hK _ _ (hI.pure (by decide) (i:=9) (t:=47) (by decide) (fun _ _ _=>rfl) (by decide) (by decide) (by decide))
  refine⟨fun S a1 w1 hS hd hcl hI K hK=>?_,?_⟩
  ·obtain⟨h1,h2,h3,G,g2,cap2,h4,h5,h6⟩:=id hI
   have H2:Hid (a1.defers=[]):=h2;clear h2;have n15:S 15=false:=hcl.no (q:=15) rfl (by kernel_rfl) hS;have k0:a1.tmps.getD 47 undef=Pv hh 0:=h4 (9,47) (by decide) (hd.at 9 (by kernel_rfl)) _ rfl;obtain⟨-,c0,-⟩:=hfar w1 (h5 n15).1
   go_simp;exact hK _ _ (hI.pure (by decide) (i:=10) (t:=48) (by decide) (fun _ _ _=>rfl) (by decide) (by decide) (by decide))
  refine⟨fun S a1 w1 hS hd hcl hI K hK=>?_,?_⟩
  ·obtain⟨h1,h2,h3,G,g2,cap2,h4,h5,h6⟩:=id hI
   have H2:Hid (a1.defers=[]):=h2;clear h2;have n15:S 15=false:=hcl.no (q:=15) rfl (by kernel_rfl) hS;have n12:S 12=false:=hcl.no (q:=12) rfl (by kernel_rfl) hS;have hb:=((h5 n15).2.1 n12).1;go_simp;have hta:49<a1.tmps.size:=by rw[h1];decide
   have hbA:Below wA.heap.size wA (w1.alloc (.cells #[.bool true] 4)):=hb.alloc hb.size _;refine hK _ _ ⟨by rw[← h1];simp[Act.put],H2.out,fun u hu=>?_,w1.heap.size,g2,cap2,fun x hx hs v hv=>?_,fun _=>⟨Qhh hbA _,fun _=>⟨hbA,fun _=>⟨hb.size,Qe _ _ _⟩⟩,fun hs=>?_⟩,fun hs=>?_⟩
   ·have:u≠49:=fun e=>by subst e;revert hu;decide
    show (a1.put (some 49) _).tmps.getD u undef=_;rw[Zh hta,if_neg this];exact h3 u hu
   ·show (a1.put (some 49) _).tmps.getD x.2 undef=_;rw[Zh hta]
    simp only[hTi,List.mem_cons,List.not_mem_nil,or_false] at hx
    rcases hx with rfl | rfl | rfl | rfl | rfl | rfl | rfl | rfl | rfl | rfl | rfl | rfl | rfl | rfl | rfl
    all_goals first | (rw[if_pos rfl];exact Option.some.inj hv) | (rw[if_neg (by decide)];exact h4 _ (by decide) (Zd (by decide) hs) v hv)
   ·rw[ZA (by decide),n12] at hs;cases hs
   ·rw[ZA (by decide),n15] at hs;cases hs
  refine⟨fun S a1 w1 hS hd hcl hI K hK=>?_,?_⟩
  ·obtain⟨h1,h2,h3,G,g2,cap2,h4,h5,h6⟩:=id hI
   have H2:Hid (a1.defers=[]):=h2;clear h2;have n15:S 15=false:=hcl.no (q:=15) rfl (by kernel_rfl) hS;have k0:a1.tmps.getD 48 undef=.slice ra s.H.length rc:=h4 (10,48) (by decide) (hd.at 10 (by kernel_rfl)) _ rfl;have k1:a1.tmps.getD 49 undef=.slice (some ⟨G,0,none⟩) 1 1:=h4 (11,49) (by decide) (hd.at 11 (by kernel_rfl)) _ rfl;have hb:=((h5 n15).2.1 hS).1;obtain⟨hG1,hG2⟩:=((h5 n15).2.1 hS).2 (hd.at 11 (by kernel_rfl))
   have hta:50<a1.tmps.size:=by rw[h1];decide
   have hown1:w1.ownsRow 0 4 1 (.slice ra s.H.length rc) s.H.length (s.H.map Value.bool):=by
    obtain⟨z1,z2⟩:=hown
    refine⟨z1,?_⟩
    rcases z2 with z | ⟨g,cap,cur,e,hg,hh9,r⟩
    ·exact .inl z
    ·exact .inr ⟨g,cap,cur,e,hg,(hb.block g (lt_of_block hh9)).trans hh9,r⟩
   refine wp_append_lies w1 (.tmp 48) (.tmp 49) 178 rfl 0 4 i0 (.bool false) 1 1 bUnder hi hz0 hz1 hz2 rfl (by decide) _ _ _ k0 hown1 ⟨G,0,none⟩ 1 1 [.bool true] k1 rfl (fun j u hj=>?_) (Ql7 _) (by decide) (by unfold maxLen;omega) (by omega) (by simp) w1.heap.size rfl ?_
   ·match j,hj with
    | 0, hj => have e:(Value.bool true)=u:=by simpa using hj
               subst e;exact Qa hG2 0 _ rfl
    | j+1,hj=>simp at hj
   intro g9 cap9 w9 r1 r2 r3 r4;have hs9:=hb.size;refine hK _ _ ⟨by rw[← h1];simp[Act.put],H2.out,fun u hu=>?_,G,g9,cap9,fun x hx hs v hv=>?_,fun _=>⟨(h5 n15).1.trans r2,fun hs=>?_,fun _=>⟨r1,r3.imp id (fun e=>by omega),r4⟩⟩,fun hs=>?_⟩
   ·have:u≠50:=fun e=>by subst e;revert hu;decide
    show (a1.put (some 50) _).tmps.getD u undef=_;rw[Zh hta,if_neg this];exact h3 u hu
   ·show (a1.put (some 50) _).tmps.getD x.2 undef=_;rw[Zh hta]
    simp only[hTi,List.mem_cons,List.not_mem_nil,or_false] at hx
    rcases hx with rfl | rfl | rfl | rfl | rfl | rfl | rfl | rfl | rfl | rfl | rfl | rfl | rfl | rfl | rfl
    all_goals first | (rw[if_pos rfl];exact Option.some.inj hv) | (rw[if_neg (by decide)];exact h4 _ (by decide) (Zd (by decide) hs) v hv)
   ·rw[Qip] at hs;cases hs
   ·rw[ZA (by decide),n15] at hs;cases hs
  refine⟨fun S a1 w1 hS hd hcl hI K hK=>?_,?_⟩
  ·obtain⟨h1,h2,h3,G,g2,cap2,h4,h5,h6⟩:=id hI
   have H2:Hid (a1.defers=[]):=h2;clear h2;have n15:S 15=false:=hcl.no (q:=15) rfl (by kernel_rfl) hS;have k0:a1.tmps.getD 41 undef=Pv hh 0:=h4 (3,41) (by decide) (hd.at 3 (by kernel_rfl)) _ rfl;go_simp;exact hK _ _ (hI.pure (by decide) (i:=13) (t:=51) (by decide) (fun _ _ _=>rfl) (by decide) (by decide) (by decide))
  refine⟨fun S a1 w1 hS hd hcl hI K hK=>?_,?_⟩
  ·obtain⟨h1,h2,h3,G,g2,cap2,h4,h5,h6⟩:=id hI
   have H2:Hid (a1.defers=[]):=h2;clear h2;have n15:S 15=false:=hcl.no (q:=15) rfl (by kernel_rfl) hS;have k0:a1.tmps.getD 51 undef=Pv hh 0:=h4 (13,51) (by decide) (hd.at 13 (by kernel_rfl)) _ rfl;go_simp;exact hK _ _ (hI.pure (by decide) (i:=14) (t:=52) (by decide) (fun _ _ _=>rfl) (by decide) (by decide) (by decide))
  refine⟨fun S a1 w1 hS hd hcl hI K hK=>?_,?_⟩
  ·obtain⟨h1,h2,h3,G,g2,cap2,h4,h5,h6⟩:=id hI
   have H2:Hid (a1.defers=[]):=h2;clear h2;have n15:=hS;have k0:a1.tmps.getD 52 undef=Pv hh 0:=h4 (14,52) (by decide) (hd.at 14 (by kernel_rfl)) _ rfl;have k1:a1.tmps.getD 50 undef=.slice (some ⟨g2,0,none⟩) (s.H.length+1) cap2:=h4 (12,50) (by decide) (hd.at 12 (by kernel_rfl)) _ rfl;obtain⟨-,c0,f0⟩:=hfar w1 (h5 n15).1
   obtain⟨r1,r2,r3⟩:=(h5 n15).2.2 (hd.at 12 (by kernel_rfl))
   have Z:=hpush w1 g2 cap2 r1 (h5 n15).1 r2 r3;go_simp;refine hK _ _ ⟨h1,H2.out,h3,G,g2,cap2,fun x hx hs v hv=>h4 x hx (Zd (fun e=>?_) hs) v hv,fun hs=>?_,fun _=>Z⟩
   ·have:∀ x∈hTi,x.1≠15:=by decide
    exact this x hx e
   ·rw[Qip] at hs;cases hs
  trivial
def TRi (w:World) (lo hi:Nat) (v:Value) (ts:List (TT 6)):Prop :=
 ∃ xs,w.ownsRow 0 105 3 v ts.length xs/\(∀ g,v.ownBlock=some g->lo<=g/\g<hi)/\∀ i x,ts[i]?=some x->(Lay.tt 6).In w (fun k=>lo<=k/\k<hi/\v.ownBlock≠some k) x ((xs.drop (i*3)).take 3)
theorem TRi.below {w w':World}{lo hi:Nat}{ts:List (TT 6)}(h:TRi w lo hi v ts) (k:Below w.heap.size w w'):TRi w' lo hi v ts:=by
 obtain⟨e,⟨l,n⟩,m,o⟩:=h
 refine⟨e,⟨l,?_⟩,m,fun i x d=>Ya (o i x d) k⟩
 rcases n with f | ⟨g,a,b,rfl,j,c,r⟩
 ·exact .inl f
 ·exact .inr ⟨g,a,b,Z,j,(k.block g (XC c)).trans c,r⟩
theorem TRi.of_row {w:World}{lo:Nat}{ts:List (TT 6)}(h:QcN w lo v ts xs) (f:∀ x∈ts,x.ok):TRi w lo w.heap.size v ts:=by
 have o:=fun {g} b=>h.lo_le (g:=g) b;obtain⟨⟨t,y⟩,n⟩:=h
 refine⟨xs,⟨t,?_⟩,fun g b=>o b,fun i x d=>?_⟩
 ·rcases y with s | ⟨g,e,l,rfl,b,r⟩
  ·exact .inl s
  ·exact .inr ⟨g,e,l,Z,Xb _,r⟩
 ·obtain⟨a,c,p,q,u,k⟩:=n i x d
  refine⟨a,c,?_,k.mono (fun g b m=>⟨b.1,m,b.2⟩),f x (Zm d)⟩
  have z:i<ts.length:=(Zi d).1;refine List.ext_getElem? fun j=>?_;rw[XR,List.getElem?_drop]
  match j with
  | 0=>simpa using p
  | 1=>simpa using q
  | 2=>simpa using u
  | j+3=>rw[Xr (by omega)];rfl
structure KZ where
 h:Nat
 lo:Nat
 hi:Nat
 lo2:Nat
 hi2:Nat
 B:Nat
 c:Nat
 a:Option Addr
def kTi:List (Nat × Tmp):=[(0,17),(1,18),(2,19),(3,20),(4,21),(5,22),(6,23),(7,24),(8,25),(9,26),(10,27),(11,28),(12,29),(13,30),(14,6)]
def kMv (X mg mo nm cm fi Bk n1 d1 fl fc fm fd fn ff:Nat) (fr gr:Int) (fa fb fe p1:Option Addr) (z:KZ):List (Tmp × Value):=[(17,.agg #[.slice (some ⟨mg,mo,none⟩) nm cm]),(18,Pv X 0),(19,.slice (some ⟨mg,mo,none⟩) nm cm),(20,Iv (fi:Int)),(21,Pv mg (mo+fi*4)),(22,.agg #[Iv fr,.slice fa fl fc,.slice fb fm fd,.slice fe fn ff]),(23,Pv Bk 0),(24,Iv gr),(25,Pv z.h 0),(26,Pv Bk 1),(27,.slice p1 n1 d1),(28,.slice z.a n1 z.c),(29,.agg #[.slice (some ⟨mg,mo,none⟩) nm cm,Iv fr,.slice fa fl fc,.slice fb fm fd,.slice fe fn ff,Pv z.h 0,.slice z.a n1 z.c]),(30,Pv z.B 0),(6,Pv z.B 0)]
structure KIv (X mg mo nm cm fi Bk n1 d1 fl fc fm fd fn ff:Nat) (fr gr:Int) (fa fb fe p1:Option Addr) (n:Nat) (a0:Act) (w6:World) (ts:List (TT 6)) (z:KZ) (S:Nat->Bool) (a:Act) (w:World):Prop where
 size:a.tmps.size=n
 defers:a.defers=[]
 outer:∀ t,([17,18,19,20,21,22,23,24,25,26,27,28,29,30,6]:List Tmp).contains t=false->a.tmps.getD t undef=a0.tmps.getD t undef
 vals:∀ x∈kTi,S x.1=true->∀ v,(kMv X mg mo nm cm fi Bk n1 d1 fl fc fm fd fn ff fr gr fa fb fe p1 z).lookup x.2=some v->a.tmps.getD x.2 undef=v
 bel:Below w6.heap.size w6 w
 held:S 8=true->w6.heap.size<=z.lo/\z.hi<=w.heap.size/\Qr w z.h (fun k=>z.lo<=k/\k<z.hi) (QcT gr)
 row:S 11=true->w6.heap.size<=z.lo2/\z.hi2<=w.heap.size/\TRi w z.lo2 z.hi2 (.slice z.a n1 z.c) ts
 apart:S 8=true->S 11=true->z.hi<=z.lo2\/z.hi2<=z.lo
 box:S 13=true->w6.heap.size<=z.B/\z.hi<=z.B/\z.hi2<=z.B/\Blk w z.B #[.slice (some ⟨mg,mo,none⟩) nm cm,Iv fr,.slice fa fl fc,.slice fb fm fd,.slice fe fn ff,Pv z.h 0,.slice z.a n1 z.c] 175
section
variable {X mg mo nm cm fi Bk n1 d1 fl fc fm fd fn ff:Nat}{fr gr:Int}{fa fb fe p1:Option Addr}{n:Nat}{a0 a:Act}{w6 w w':World}{ts:List (TT 6)}{z:KZ}{S:Nat->Bool}
theorem kTi_lt:∀ x∈kTi,x.2<31/\([17,18,19,20,21,22,23,24,25,26,27,28,29,30,6]:List Tmp).contains x.2=true:=by decide
theorem kTi_ne:∀ x∈kTi,∀ y∈kTi,x.1=y.1->x.2=y.2:=by decide
theorem KIv.put {z':KZ}{t:Tmp}(f:KIv X mg mo nm cm fi Bk n1 d1 fl fc fm fd fn ff fr gr fa fb fe p1 n a0 w6 ts z S a w) (hn:31<=n) (hi:(i,t)∈kTi) (r:(kMv X mg mo nm cm fi Bk n1 d1 fl fc fm fd fn ff fr gr fa fb fe p1 z').lookup t=some v) (D:∀ x∈kTi,x.1≠i->S x.1=true->(kMv X mg mo nm cm fi Bk n1 d1 fl fc fm fd fn ff fr gr fa fb fe p1 z').lookup x.2=(kMv X mg mo nm cm fi Bk n1 d1 fl fc fm fd fn ff fr gr fa fb fe p1 z).lookup x.2)
 (s:Below w6.heap.size w6 w') (A:ZF i S 8=true->w6.heap.size<=z'.lo/\z'.hi<=w'.heap.size/\Qr w' z'.h (fun k=>z'.lo<=k/\k<z'.hi) (QcT gr)) (y:ZF i S 11=true->w6.heap.size<=z'.lo2/\z'.hi2<=w'.heap.size/\TRi w' z'.lo2 z'.hi2 (.slice z'.a n1 z'.c) ts)
 (G:ZF i S 8=true->ZF i S 11=true->z'.hi<=z'.lo2\/z'.hi2<=z'.lo) (F:ZF i S 13=true->w6.heap.size<=z'.B/\z'.hi<=z'.B/\z'.hi2<=z'.B/\Blk w' z'.B #[.slice (some ⟨mg,mo,none⟩) nm cm,Iv fr,.slice fa fl fc,.slice fb fm fd,.slice fe fn ff,Pv z'.h 0,.slice z'.a n1 z'.c] 175) :
 KIv X mg mo nm cm fi Bk n1 d1 fl fc fm fd fn ff fr gr fa fb fe p1 n a0 w6 ts z' (ZF i S) (a.put (some t) v) w':=by
 obtain⟨E,m⟩:=kTi_lt _ hi
 have j:t<a.tmps.size:=by rw[f.size];exact Zl E hn
 refine⟨by rw[<-f.size];simp[Act.put],f.defers,fun u l=>?_,fun x o C q b=>?_,s,A,y,G,F⟩
 ·have:u≠t:=fun e=>by subst e;rw[m] at l;cases l
  rw[Zh j,Xr this];exact f.outer u l
 ·rw[Zh j]
  by_cases e:x.2=t
  ·rw[Xs e];rw[e,r] at b;exact Xn b
  ·rw[Xr e]
   have g:x.1≠i:=fun p=>e (kTi_ne x o (i,t) hi p);have d:=Zd g C;rw[D x o g d] at b
   exact f.vals x o d q b
theorem KIv.pure {t:Tmp}(b:KIv X mg mo nm cm fi Bk n1 d1 fl fc fm fd fn ff fr gr fa fb fe p1 n a0 w6 ts z S a w) (hn:31<=n) (hi:(i,t)∈kTi) (f:(kMv X mg mo nm cm fi Bk n1 d1 fl fc fm fd fn ff fr gr fa fb fe p1 z).lookup t=some v) (e:i≠8) (c:i≠11) (d:i≠13):KIv X mg mo nm cm fi Bk n1 d1 fl fc fm fd fn ff fr gr fa fb fe p1 n a0 w6 ts z (ZF i S) (a.put (some t) v) w:=by
 refine b.put hn hi f (fun _ _ _ _=>rfl) b.bel ?_ ?_ ?_ ?_
 ·rw[ZA (Ne.symm e)];exact b.held
 ·rw[ZA (Ne.symm c)];exact b.row
 ·rw[ZA (Ne.symm e),ZA (Ne.symm c)];exact b.apart
 ·rw[ZA (Ne.symm d)];exact b.box
end
def QnV (X mg mo nm cm fi Bk n1 d1 fl fc fm fd fn ff:Nat) (fr gr:Int) (fa fb fe p1:Option Addr) (w6 w':World) (ts:List (TT 6)) (B:Nat):Prop :=
 ∃ h vL O',Blk w' B #[.slice (some ⟨mg,mo,none⟩) nm cm,Iv fr,.slice fa fl fc,.slice fb fm fd,.slice fe fn ff,Pv h 0,vL] 175/\Qr w' h O' (QcT gr)/\(∃ xs,w'.ownsRow 0 105 3 vL ts.length xs/\(∀ g,vL.ownBlock=some g->O' g)/\∀ i x,ts[i]?=some x->(Lay.tt 6).In w' (fun g=>¬ O' g/\w6.heap.size<=g) x ((xs.drop (i*3)).take 3))/\O' B/\(∀ k,O' k->w6.heap.size<=k/\k<w'.heap.size)/\Below w6.heap.size w6 w'
theorem KIv.fin {X D y C p s t l v fl fc fm fd fn u:Nat}{fr F:Int}{E fb fe j:Option Addr}{n:Nat}{a0 a:Act}{A w:World}{ts:List (TT 6)}{z:KZ}{S:Nat->Bool}(f:KIv X D y C p s t l v fl fc fm fd fn u fr F E fb fe j n a0 A ts z S a w) (q:S 8=true) (d:S 11=true) (o:S 13=true):QnV X D y C p s t l v fl fc fm fd fn u fr F E fb fe j A w ts z.B:=by
 obtain⟨j,V,M⟩:=f.held q
 obtain⟨Q,R,I,J,G,K⟩:=f.row d
 have U:=f.apart q d;obtain⟨L,T,O,r⟩:=f.box o
 have m:=XC r;refine⟨z.h,_,fun k=>k=z.B\/(z.lo<=k/\k<z.hi)\/(Value.slice z.a l z.c).ownBlock=some k,r,M.mono (fun k b=>.inr (.inl b)),⟨I,J,fun g H=>.inr (.inr H),fun i x N=>?_⟩,.inl Z,fun k b=>?_,f.bel⟩
 ·refine(Lay.tt 6).keep (fun _ _ _=>rfl) (fun k b P=>⟨fun e=>?_,by omega⟩) (K i x N)
  rcases e with e | e | e
  ·omega
  ·omega
  ·exact b.2.2 e
 ·rcases b with rfl | b | b
  ·exact⟨L,m⟩
  ·omega
  ·have:=G k b;omega
theorem ka2 {X w v G H A F u U fl fc fm fd fn T:Nat}{fr gr:Int}{fa fb fe L:Option Addr}{D:World}{Q:Nat->Prop}{ts:List (TT 6)}(x0:D.cell? ⟨X,0,none⟩=some (.slice (some ⟨w,v,none⟩) G H)) (ae:(A:Int)<G) (f0:D.cell? ⟨w,v+A*4,none⟩=some (Iv fr)) (f1:D.cell? ⟨w,v+A*4+1,none⟩=some (.slice fa fl fc)) (f2:D.cell? ⟨w,v+A*4+2,none⟩=some (.slice fb fm fd)) (f3:D.cell? ⟨w,v+A*4+3,none⟩=some (.slice fe fn T))
 (y0:D.cell? ⟨F,0,none⟩=some (Iv gr)) (y1:D.cell? ⟨F,1,none⟩=some (.slice L u U)) (HN:Hid (ts.length=u)) (HT:Hid ((Qt 6).In D Q ts [.slice L u U])) (HC:Hid (∀ t∈ts,t.count<=100000)) (ab:u<=100000)
 (a:Act) (hn:a.tmps.size=31) (aa:a.defers=[]) (h3:a.tmps.getD 3 undef=Pv X 0) (h1:a.tmps.getD 1 undef=Iv (A:Int)) (h7:a.tmps.getD 7 undef=Pv F 0) :
 Code.wp prog ((Tryz.f63.body.bind (Qf 2)).getD .skip) (fun e a' w'=>e=.normal/\∃ vs,a'=QC a vs [17,18,19,20,21,22,23,24,25,26,27,28,29,30,6]/\∃ B,vs 6=Pv B 0/\QnV X w v G H A F u U fl fc fm fd fn T fr gr fa fb fe L D w' ts B) a D:=by
 conv=>arg 2;whnf
 refine QeJ (fun S g n=>∃ z,KIv X w v G H A F u U fl fc fm fd fn T fr gr fa fb fe L 31 a D ts z S g n) (by kernel_rfl) (by kernel_rfl) ?h0 ?hst ?hend
 case h0=>exact⟨⟨0,0,0,0,0,0,0,none⟩,⟨hn,aa,fun _ _=>rfl,fun _ _ h=>(by cases h),Qh Zr 1,fun h=>(by cases h),fun h=>(by cases h),fun h=>(by cases h),fun h=>(by cases h)⟩⟩
 case hend =>
  rintro S a' w' p ⟨z,b⟩;have E:∀ j,j<15->S j=true:=p;exact⟨Z,_,QgD (by rw[b.size,hn]) (by rw[b.defers,aa]) b.outer,z.B,b.vals (14,6) (by decide) (E 14 (by decide)) _ Z,b.fin (E 8 (by decide)) (E 11 (by decide)) (E 13 (by decide))⟩
 case hst =>
  refine⟨fun S g n p k f d K m=>?_,?_⟩
  ·obtain⟨z,b⟩:=d
   have l:=b.bel;have s:g.tmps.getD 3 undef=Pv X 0:=(b.outer 3 (by kernel_rfl)).trans h3;have c0:=Qn x0 l;go_simp;exact m _ _ ⟨z,b.pure (by decide) (i:=0) (t:=17) (by decide) Z (by decide) (by decide) (by decide)⟩
  refine⟨fun S g n p k f d K m=>?_,?_⟩
  ·obtain⟨z,b⟩:=d
   have l:=b.bel;have s:g.tmps.getD 3 undef=Pv X 0:=(b.outer 3 (by kernel_rfl)).trans h3;go_simp;exact m _ _ ⟨z,b.pure (by decide) (i:=1) (t:=18) (by decide) Z (by decide) (by decide) (by decide)⟩
  refine⟨fun S g n p k f d K m=>?_,?_⟩
  ·obtain⟨z,b⟩:=d
   have l:=b.bel;have s:g.tmps.getD 18 undef=Pv X 0:=b.vals (1,18) (by decide) (k.at 1 (by kernel_rfl)) _ Z;have c0:=Qn x0 l;go_simp;exact m _ _ ⟨z,b.pure (by decide) (i:=2) (t:=19) (by decide) Z (by decide) (by decide) (by decide)⟩
  refine⟨fun S g n p k f d K m=>?_,?_⟩
  ·obtain⟨z,b⟩:=d
   have l:=b.bel;have s:g.tmps.getD 1 undef=Iv (A:Int):=(b.outer 1 (by kernel_rfl)).trans h1;go_simp;exact m _ _ ⟨z,b.pure (by decide) (i:=3) (t:=20) (by decide) Z (by decide) (by decide) (by decide)⟩
  refine⟨fun S g n p k f d K m=>?_,?_⟩
  ·obtain⟨z,b⟩:=d
   have l:=b.bel;have s:g.tmps.getD 19 undef=.slice (some ⟨w,v,none⟩) G H:=b.vals (2,19) (by decide) (k.at 2 (by kernel_rfl)) _ Z;have k1:g.tmps.getD 20 undef=Iv (A:Int):=b.vals (3,20) (by decide) (k.at 3 (by kernel_rfl)) _ Z;go_simp;exact m _ _ ⟨z,b.pure (by decide) (i:=4) (t:=21) (by decide) Z (by decide) (by decide) (by decide)⟩
  refine⟨fun S g n p k f d K m=>?_,?_⟩
  ·obtain⟨z,b⟩:=d
   have l:=b.bel;have s:g.tmps.getD 21 undef=Pv w (v+A*4):=b.vals (4,21) (by decide) (k.at 4 (by kernel_rfl)) _ Z;have c0:=Qn f0 l;have c1:=Qn f1 l;have c2:=Qn f2 l;have c3:=Qn f3 l;go_simp;exact m _ _ ⟨z,b.pure (by decide) (i:=5) (t:=22) (by decide) Z (by decide) (by decide) (by decide)⟩
  refine⟨fun S g n p k f d K m=>?_,?_⟩
  ·obtain⟨z,b⟩:=d
   have l:=b.bel;have s:g.tmps.getD 7 undef=Pv F 0:=(b.outer 7 (by kernel_rfl)).trans h7;go_simp;exact m _ _ ⟨z,b.pure (by decide) (i:=6) (t:=23) (by decide) Z (by decide) (by decide) (by decide)⟩
  refine⟨fun S g n p k f d K m=>?_,?_⟩
  ·obtain⟨z,b⟩:=d
   have l:=b.bel;have s:g.tmps.getD 23 undef=Pv F 0:=b.vals (6,23) (by decide) (k.at 6 (by kernel_rfl)) _ Z;have c0:=Qn y0 l;go_simp;exact m _ _ ⟨z,b.pure (by decide) (i:=7) (t:=24) (by decide) Z (by decide) (by decide) (by decide)⟩
  refine⟨fun S g n p k f d K m=>?_,?_⟩
  ·obtain⟨z,b⟩:=d
   have l:=b.bel;have s:g.tmps.getD 24 undef=Iv gr:=b.vals (7,24) (by decide) (k.at 7 (by kernel_rfl)) _ Z;have W:S 12=false:=f.no (q:=12) Z (by kernel_rfl) p;have J:S 13=false:=f.no (q:=13) Z (by kernel_rfl) p;have V:S 14=false:=f.no (q:=14) Z (by kernel_rfl) p;go_simp;refine(Qfn n gr).mono ?_
   rintro e w9 ⟨rfl,r1,O⟩;have r:=l.size;have y:=O.size;refine m _ _ ⟨{ z with h:=n.heap.size,lo:=n.heap.size,hi:=w9.heap.size },b.put (by decide) (i:=8) (t:=25) (by decide) Z (fun x I C o=>?_) (l.trans (O.mono r)) (fun _=>⟨r,Ze,r1⟩) (fun o=>?_) (fun _ o=>?_) (fun o=>?_)⟩
   ·simp only[kTi,List.mem_cons,List.not_mem_nil,or_false] at I
    rcases I with rfl | rfl | rfl | rfl | rfl | rfl | rfl | rfl | rfl | rfl | rfl | rfl | rfl | rfl | rfl
    all_goals first | rfl | (exact absurd o (by rw[W];decide)) | (exact absurd Z C)
   ·rw[ZA (by decide)] at o
    obtain⟨M,N,R⟩:=b.row o
    exact⟨M,Zt N y,R.below O⟩
   ·rw[ZA (by decide)] at o
    exact .inr (b.row o).2.1
   ·rw[ZA (by decide),J] at o;cases o
  refine⟨fun S g n p k f d K m=>?_,?_⟩
  ·obtain⟨z,b⟩:=d
   have l:=b.bel;have s:g.tmps.getD 7 undef=Pv F 0:=(b.outer 7 (by kernel_rfl)).trans h7;go_simp;exact m _ _ ⟨z,b.pure (by decide) (i:=9) (t:=26) (by decide) Z (by decide) (by decide) (by decide)⟩
  refine⟨fun S g n p k f d K m=>?_,?_⟩
  ·obtain⟨z,b⟩:=d
   have l:=b.bel;have s:g.tmps.getD 26 undef=Pv F 1:=b.vals (9,26) (by decide) (k.at 9 (by kernel_rfl)) _ Z;have c0:=Qn y1 l;go_simp;exact m _ _ ⟨z,b.pure (by decide) (i:=10) (t:=27) (by decide) Z (by decide) (by decide) (by decide)⟩
  refine⟨fun S g n p k f d K m=>?_,?_⟩
  ·obtain⟨z,b⟩:=d
   have l:=b.bel;have s:g.tmps.getD 27 undef=.slice L u U:=b.vals (10,27) (by decide) (k.at 10 (by kernel_rfl)) _ Z;have W:S 12=false:=f.no (q:=12) Z (by kernel_rfl) p;have J:S 13=false:=f.no (q:=13) Z (by kernel_rfl) p;have V:S 14=false:=f.no (q:=14) Z (by kernel_rfl) p
   have CL:Calls prog 41 #[.slice L u U] n fun e w'=>∃ a' c',e=.returned (.slice a' u c')/\TRi w' n.heap.size w'.heap.size (.slice a' u c') ts/\Below n.heap.size n w':=by
    obtain⟨tl,ad⟩:=Q8 (Ya HT.out l)
    have:=Qhp 6 (own_any 6) ts L U n tl.all (by rw[HN.out];exact ab) HC.out
    rw[HN.out] at this
    refine this.mono ?_;rintro e w9 ⟨a',c',rfl,⟨xs,hr⟩,ac⟩;exact⟨a',c',Z,TRi.of_row hr ad,ac⟩
   go_simp;refine CL.mono ?_;rintro e w9 ⟨a',c',rfl,r1,O⟩;have r:=l.size;have y:=O.size;refine m _ _ ⟨{ z with a:=a',c:=c',lo2:=n.heap.size,hi2:=w9.heap.size },b.put (by decide) (i:=11) (t:=28) (by decide) Z (fun x I C o=>?_) (l.trans (O.mono r)) (fun o=>?_) (fun _=>⟨r,Ze,r1⟩) (fun o _=>?_) (fun o=>?_)⟩
   ·simp only[kTi,List.mem_cons,List.not_mem_nil,or_false] at I
    rcases I with rfl | rfl | rfl | rfl | rfl | rfl | rfl | rfl | rfl | rfl | rfl | rfl | rfl | rfl | rfl
    all_goals first | rfl | (exact absurd o (by rw[W];decide)) | (exact absurd Z C)
   ·rw[ZA (by decide)] at o
    obtain⟨M,N,R⟩:=b.held o
    exact⟨M,Zt N y,R.below O⟩
   ·rw[ZA (by decide)] at o
    exact .inl (b.held o).2.1
   ·rw[ZA (by decide),J] at o;cases o
  refine⟨fun S g n p k f d K m=>?_,?_⟩
  ·obtain⟨z,b⟩:=d
   have l:=b.bel;have s:g.tmps.getD 17 undef=.agg #[.slice (some ⟨w,v,none⟩) G H]:=b.vals (0,17) (by decide) (k.at 0 (by kernel_rfl)) _ Z;have k1:g.tmps.getD 22 undef=.agg #[Iv fr,.slice fa fl fc,.slice fb fm fd,.slice fe fn T]:=b.vals (5,22) (by decide) (k.at 5 (by kernel_rfl)) _ Z;have k2:g.tmps.getD 25 undef=Pv z.h 0:=b.vals (8,25) (by decide) (k.at 8 (by kernel_rfl)) _ Z;have k3:g.tmps.getD 28 undef=.slice z.a u z.c:=b.vals (11,28) (by decide) (k.at 11 (by kernel_rfl)) _ Z;have m0:g.tmps[17]?.getD undef=.agg #[.slice (some ⟨w,v,none⟩) G H]:=by rw[<-Za];exact s
   have m1:g.tmps[22]?.getD undef=.agg #[Iv fr,.slice fa fl fc,.slice fb fm fd,.slice fe fn T]:=by rw[<-Za];exact k1
   have m2:g.tmps[25]?.getD undef=Pv z.h 0:=by rw[<-Za];exact k2
   have m3:g.tmps[28]?.getD undef=.slice z.a u z.c:=by rw[<-Za];exact k3
   clear s k1 k2 k3;go_simp;exact m _ _ ⟨z,b.pure (by decide) (i:=12) (t:=29) (by decide) Z (by decide) (by decide) (by decide)⟩
  refine⟨fun S g n p k f d K m=>?_,?_⟩
  ·obtain⟨z,b⟩:=d
   have l:=b.bel;have s:g.tmps.getD 29 undef=.agg #[.slice (some ⟨w,v,none⟩) G H,Iv fr,.slice fa fl fc,.slice fb fm fd,.slice fe fn T,Pv z.h 0,.slice z.a u z.c]:=b.vals (12,29) (by decide) (k.at 12 (by kernel_rfl)) _ Z;have V:S 14=false:=f.no (q:=14) Z (by kernel_rfl) p;have s8:S 8=true:=(f.via (q:=12) Z (by kernel_rfl) (k.at 12 (by kernel_rfl)));have P:S 11=true:=(f.via (q:=12) Z (by kernel_rfl) (k.at 12 (by kernel_rfl)));go_simp;have b9:=ZR n (.cells #[.slice (some ⟨w,v,none⟩) G H,Iv fr,.slice fa fl fc,.slice fb fm fd,.slice fe fn T,Pv z.h 0,.slice z.a u z.c] 175);have r:=l.size;have y:=b9.size;refine m _ _ ⟨{ z with B:=n.heap.size },b.put (by decide) (i:=13) (t:=30) (by decide) Z (fun x I C o=>?_) (l.trans (b9.mono r)) (fun o=>?_) (fun o=>?_) (fun _ _=>b.apart s8 P) (fun o=>⟨r,(b.held s8).2.1,(b.row P).2.1,Qe _ _ _⟩)⟩
   ·simp only[kTi,List.mem_cons,List.not_mem_nil,or_false] at I
    rcases I with rfl | rfl | rfl | rfl | rfl | rfl | rfl | rfl | rfl | rfl | rfl | rfl | rfl | rfl | rfl
    all_goals first | rfl | (exact absurd o (by rw[V];decide)) | (exact absurd Z C)
   ·obtain⟨M,N,R⟩:=b.held s8
    exact⟨M,Zt N y,R.below b9⟩
   ·obtain⟨M,N,R⟩:=b.row P
    exact⟨M,Zt N y,R.below b9⟩
  refine⟨fun S g n p k f d K m=>?_,?_⟩
  ·obtain⟨z,b⟩:=d
   have l:=b.bel;have s:g.tmps.getD 30 undef=Pv z.B 0:=b.vals (13,30) (by decide) (k.at 13 (by kernel_rfl)) _ Z;go_simp;exact m _ _ ⟨z,b.pure (by decide) (i:=14) (t:=6) (by decide) Z (by decide) (by decide) (by decide)⟩
  trivial
theorem QgH {Q:Nat->Prop}{m:List (MFunc 6)}{f:MFunc 6}{g:MBlock 6}(hm:(Qar 6).In w Q m [.slice pm m.length cm]) (hf:m[fi]?=some f) (V:f.blocks[bi]?=some g) (hc:∀ t∈g.params,t.count<=100000) (hn:g.params.length<=100000) :
 Calls prog 63 #[.agg #[.slice pm m.length cm],Iv (fi:Int),Iv (bi:Int)] w fun e w'=>∃ B O',e=.returned (Pv B 0)/\KAt w' B O' (JSt.start m f g)/\(∀ k,O' k->w.heap.size<=k/\k<w'.heap.size)/\Below w.heap.size w w':=by
 obtain⟨y,u,ds,rfl,-,-,o,G⟩:=Yf hm hf
 obtain⟨fa,fc,fb,fd,fe,ff,rfl,-,-,U,-⟩:=QaO G
 obtain⟨eg,W,E,C,I,rfl,d,N,F,z⟩:=Qdq U V
 have P:(fi:Int)<m.length:=by have:=(Zi hf).1;omega
 have ab:(bi:Int)<f.blocks.length:=by have:=(Zi V).1;omega
 have ak:(0:Int)<=fi:=by omega
 have aj:(0:Int)<=bi:=by omega
 have v0:w.cell? ⟨y,u+fi*4,none⟩=some (Iv f.regs):=o 0 (by decide);have v1:w.cell? ⟨y,u+fi*4+1,none⟩=some (.slice fa f.params.length fc):=o 1 (by decide);have v2:w.cell? ⟨y,u+fi*4+2,none⟩=some (.slice fb f.results.length fd):=o 2 (by decide);have v3:w.cell? ⟨y,u+fi*4+3,none⟩=some (.slice (some ⟨eg,W,none⟩) f.blocks.length ff):=o 3 (by decide);have b1:=ZR w (.cells #[.slice (some ⟨y,u,none⟩) m.length cm] 24);have A:=Qe w #[.slice (some ⟨y,u,none⟩) m.length cm] 24;have HM:Hid ((Qar 6).In w Q m [.slice (some ⟨y,u,none⟩) m.length cm]):=hm;have HF:Hid ((QaF 6).In w Q f [Iv f.regs,.slice fa f.params.length fc,.slice fb f.results.length fd,.slice (some ⟨eg,W,none⟩) f.blocks.length ff]):=G;have HP:Hid ((Qt 6).In w Q g.params [.slice E g.params.length C]):=F;have ac:=Qg d;have S:=Qg z;have ad:=Qg N;have HC:=Qg hc;have al:=Qg hf;have am:=Qg V;have L:=Qa A 0 _ Yz;have u3:=Qn v3 b1;clear o G U d N F z hc hf V hm A;go_enter func63,ntmps63
 have s:=Qg b1;have l:Hid ((w.alloc (.cells #[.slice (some ⟨y,u,none⟩) m.length cm] 24)).rangeAt eg (W+bi*12) (Value.int .i64 g.regs::Value.slice E g.params.length C::I)):=Qa2 ac.out b1;have D:Hid ((Value.int .i64 g.regs::Value.slice E g.params.length C::I).length=12):=by show _=_;simp[ad.out]
 have TS:Hid ((prog.info? 86).map (·.size)=some (Value.int .i64 g.regs::Value.slice E g.params.length C::I).length):=by show _=_;rw[D.out];exact sizeBk
 clear b1;go_upto_region 1 with fail
 obtain⟨X,hX⟩:∃ X,w.heap.size=X:=⟨_,Yz⟩
 have HX:Hid (w.heap.size=X):=hX;generalize w.alloc (.cells #[.slice (some ⟨y,u,none⟩) m.length cm] 24)=a at L u3 s l |-;rw[hX] at L |-
 clear hX;generalize r:(Value.int .i64 g.regs::Value.slice E g.params.length C::I)=c at l TS;have af:Hid ((Value.int .i64 g.regs::Value.slice E g.params.length C::I)=c):=r;have q:c.length=12:=by rw[<-r];exact D.out
 have TH:Hid ((a.alloc (.cells #[Iv 0,Nv,Nv,Iv 0,Iv 0,Iv 0,Nv,Nv,Iv 0,Nv,Nv,Nv] 86)).there a.heap.size 0 c.toArray.size):=by
  intro j hj;rw[List.size_toArray,q] at hj
  rw[XK]
  have hB:=Qe a #[Iv 0,Nv,Nv,Iv 0,Iv 0,Iv 0,Nv,Nv,Iv 0,Nv,Nv,Nv] 86;refine⟨?_,Qd hB j⟩
  rw[Qa hB j ((#[Iv 0,Nv,Nv,Iv 0,Iv 0,Iv 0,Nv,Nv,Iv 0,Nv,Nv,Nv]:Array Value)[j]'hj) (by simp)];rfl
 have K:Hid ((prog.info? 86).map (·.size)=some c.toArray.size):=by show _=_;rw[List.size_toArray];exact TS.out
 have TO:Hid (c.toArray.all (·.oneCell')=true):=by
  refine all_oneCell_toArray fun v J=>?_;rw[<-r] at J
  simp only[List.mem_cons] at J
  rcases J with rfl | rfl | J
  ·rfl
  ·rfl
  ·exact S.out v J
 have H:Hid (Blk ((a.alloc (.cells #[Iv 0,Nv,Nv,Iv 0,Iv 0,Iv 0,Nv,Nv,Iv 0,Nv,Nv,Nv] 86)).setCells a.heap.size 0 c.toArray.toList) a.heap.size c.toArray 86):=by
  have h0:Blk (a.alloc (.cells #[Iv 0,Nv,Nv,Iv 0,Iv 0,Iv 0,Nv,Nv,Iv 0,Nv,Nv,Nv] 86)) a.heap.size ([]++(#[Iv 0,Nv,Nv,Iv 0,Iv 0,Iv 0,Nv,Nv,Iv 0,Nv,Nv,Nv]:Array Value).toList).toArray 86:=Qe a _ _;exact Blk.sets c [] (#[Iv 0,Nv,Nv,Iv 0,Iv 0,Iv 0,Nv,Nv,Iv 0,Nv,Nv,Nv]:Array Value).toList _ (by rw[q];rfl) h0
 have b6:Hid (Below a.heap.size a ((a.alloc (.cells #[Iv 0,Nv,Nv,Iv 0,Iv 0,Iv 0,Nv,Nv,Iv 0,Nv,Nv,Nv] 86)).setCells a.heap.size 0 c.toArray.toList)):=by
  have:=QZ.setCells (O:=fun k=>k=a.heap.size) (O':=fun k=>k=a.heap.size) (b:=a.heap.size) Yz c.toArray.toList 0 _ (QZ.refl _ (a.alloc (.cells #[Iv 0,Nv,Nv,Iv 0,Iv 0,Iv 0,Nv,Nv,Iv 0,Nv,Nv,Nv] 86)))
  exact(ZR a _).trans (this.below (by simp) (fun k R=>by omega))
 have H:Hid (Blk ((a.alloc (.cells #[Iv 0,Nv,Nv,Iv 0,Iv 0,Iv 0,Nv,Nv,Iv 0,Nv,Nv,Nv] 86)).setCells a.heap.size 0 c.toArray.toList) a.heap.size (Value.int .i64 g.regs::Value.slice E g.params.length C::I).toArray 86):=by rw[af.out];exact H.out
 have n:Hid (Below w.heap.size w ((a.alloc (.cells #[Iv 0,Nv,Nv,Iv 0,Iv 0,Iv 0,Nv,Nv,Iv 0,Nv,Nv,Nv] 86)).setCells a.heap.size 0 c.toArray.toList)):=s.out.trans (b6.out.mono s.out.size);have p:=Qn L b6.out;clear q r;generalize M:m.length=nm at L p P;have ah:Hid (m.length=nm):=M;generalize ai:f.blocks.length=nb at u3 ab;clear M ai;go_upto_region 2 with (first | (refine wpList_load_mid Yz 86 (.tmp 15) Yz eg (W+bi*12) Yz c _ l.out underlying86 Yz TS.out ?_) | (refine wpList_store_mid Yz 86 (.tmp 7) (.tmp 16) Yz a.heap.size 0 c.toArray Yz Yz TH.out K.out TO.out ?_))
 clear TH TS K TO u3 L l b6 s;generalize (a.alloc (.cells #[Iv 0,Nv,Nv,Iv 0,Iv 0,Iv 0,Nv,Nv,Iv 0,Nv,Nv,Nv] 86)).setCells a.heap.size 0 c.toArray.toList=w6 at H n p |-;generalize a.heap.size=Bk at H |-;have y0:=Qa H.out 0 _ Yz;have y1:=Qa H.out 1 _ Yz;have z0:=Qn v0 n.out;have z1:=Qn v1 n.out;have z2:=Qn v2 n.out;have z3:=Qn v3 n.out;have ag:Hid ((Qt 6).In w6 Q g.params [.slice E g.params.length C]):=Ya HP.out n.out;refine Code.wp_mono ?_ (ka2 p P z0 z1 z2 z3 y0 y1 (show Hid (g.params.length=g.params.length) from Yz) ag HC hn _ (by rfl) Yz Yz Yz Yz);rintro ee aa w7 ⟨rfl,vs,rfl,B,ae,h,vL,O',r1,r2,r3,r4,T,r6⟩;simp only[QC,Act.put,List.setIfInBounds_toArray,List.set_cons_zero,List.set_cons_succ,ae]
 have B7:Hid (Below w.heap.size w w7):=n.out.trans (r6.mono n.out.size)
 have Z:Hid (KAt w7 B O' (JSt.start m f g)):=by
  rw[<-ah.out] at r1
  refine⟨_,_,_,_,_,_,_,_,h,vL,r1,(Qar 6).keep (fun k _ q=>B7.out.block k q) (fun k _ q e=>?_) HM.out,(QaF 6).keep (fun k _ q=>B7.out.block k q) (fun k _ q e=>?_) HF.out,r2,(by obtain⟨xs,q1,q2,q3⟩:=r3;exact⟨xs,q1,q2,fun i x hx=>(Lay.tt 6).keep (fun _ _ _=>rfl) (fun k R _=>R.1) (q3 i x hx)⟩),r4⟩
  ·have:=(T k e).1;have:=n.out.size;omega
  ·have:=(T k e).1;have:=n.out.size;omega
 have HO:Hid (∀ k,O' k->w.heap.size<=k/\k<w7.heap.size):=fun k R=>⟨Zt n.out.size (T k R).1,(T k R).2⟩;clear r1 r2 r3 r4 T r6 y0 y1 z0 z1 z2 z3 p H n;go_wp2
 go_ret;exact⟨B,Yz,O',Z.out,HO.out,B7.out⟩
theorem QhC {s:JSt}{x:Qx}{o:Option Addr}(S:∀ k,O k->k<w.heap.size) (I:JOk s) (h:KAt w b O s) (m:x.op=3) :
 Calls prog 102 #[Pv b 0,QfX x o ag rc ac] w fun e w'=>QV w O (s.makes x).1 (s.makes x).2 e w':=by
 have E:Hid (s.makes x=(if s.H.length=16 then (2,[]) else (0,[mkT 2 s.H.length []]))):=Qbs m;have C:=Qg (MkS.start x o ag rc ac S I h);obtain⟨P,D,u,z,A,y,F,v⟩:=x
 simp only at m
 subst m;clear h;go_enter func102,ntmps102
 go_upto_region 9 with fail
 obtain⟨n,l⟩:∃ n,(w.alloc (.cells #[Iv 3,Iv D,Iv u,Iv z,Iv A,Iv y,.slice o F.length rc,.slice ag v.length ac] 78)).alloc (.cells #[Iv 1,Iv 0,Nv] 105)=n:=⟨_,Yz⟩
 obtain⟨X,p⟩:∃ X,w.heap.size=X:=⟨_,Yz⟩
 have j:Hid (MkS w n b X O s ⟨3,D,u,z,A,y,F,v⟩ o ag rc ac (some ⟨X+1,0,none⟩)):=by rw[<-l,<-p];exact C.out
 rw[l,p]
 clear l p C;obtain⟨x0,x1,x2,x3,V,x6,W⟩:=j.out.cells
 obtain⟨pm,T,a1,U,a2,c2,a3,c3,hh,aL,cL,R⟩:=j.out.known.read
 obtain⟨Q,J,K,L,G,q5,M⟩:=R.cells
 have i:=j.out.ok.regs;have q:=j.out.ok.vals;obtain⟨ha,r,B,-,-,-⟩:=R.holds.cells
 clear R Q J K L G M;by_cases g:s.H.length=16
 ·have f:((s.H.length:Int)==16)=true:=beq_iff_eq.2 (by omega);rw[Xs g] at E
  clear g;generalize s.H.length=N at B f i;go_wp2
  go_ret2;rw[E.out]
  exact QV.nil j.out.bel
 ·have f:((s.H.length:Int)==16)=false:=beq_eq_false_iff_ne.2 (by omega);rw[Xr g] at E
  have Z:Hid (QV w O 0 [(mkT 2 s.H.length []:TT 6)] (.returned (.tuple #[.slice (some ⟨n.heap.size,0,none⟩) 1 1,Iv 0])) (n.alloc (.cells #[Iv 2,Iv (s.H.length:Int),Nv] 105))) :=
   ⟨_,1,1,Yz,fun _=>⟨Yz,Ze,Qdo n O j.out.lt (t:=(mkT 2 s.H.length []:TT 6)) (a:=none) (c:=0) (d:=1) (Qf5 _ _ _ _ _) (QjO (by omega))⟩,j.out.bel.alloc j.out.bel.size _⟩
  clear g;generalize s.H.length=N at B f i Z E;go_wp2
  go_ret2;rw[E.out]
  exact Z.out
theorem Qgd {s:JSt}{x:Qx}{G:Option Addr}(hO:∀ k,O k->k<w.heap.size) (hJ:JOk s) (h:KAt w b O s) (z:x.op=4) :
 Calls prog 102 #[Pv b 0,QfX x G ag rc ac] w fun e w'=>QV w O (s.makes x).1 (s.makes x).2 e w':=by
 have E:Hid (s.makes x=(match s.at x.a with | none=>(1,[]) | some t=>(code2 (s.want x.a 2 true) (if t.r<s.f.regs then 11 else 0),[]))):=Z2 z;have S0:=Qg (MkS.start x G ag rc ac hO hJ h);obtain⟨ab,A,n,q,u,p,v,o⟩:=x
 simp only at z
 subst z;clear h;go_enter func102,ntmps102
 go_upto_region 13 with fail
 obtain⟨K,y⟩:∃ K,(w.alloc (.cells #[Iv 4,Iv A,Iv n,Iv q,Iv u,Iv p,.slice G v.length rc,.slice ag o.length ac] 78)).alloc (.cells #[Iv 1,Iv 0,Nv] 105)=K:=⟨_,Z⟩
 obtain⟨X,M⟩:∃ X,w.heap.size=X:=⟨_,Z⟩
 have d:Hid (MkS w K b X O s ⟨4,A,n,q,u,p,v,o⟩ G ag rc ac (some ⟨X+1,0,none⟩)):=by rw[<-y,<-M];exact S0.out
 rw[y,M]
 clear y M S0;obtain⟨x0,W,x2,x3,Q,U,T⟩:=d.out.cells
 have S:=d.out.ok.regs;have m:=d.out.ok.vals;go_wp2_with fail
 refine(Q7 A 2 true d.out.ok.regs d.out.ok.vals d.out.known).mono ?_
 rintro e w3 ⟨rfl,n3,D⟩;have S3:Hid (MkS w w3 b X O s ⟨4,A,n,q,u,p,v,o⟩ G ag rc ac (some ⟨X+1,0,none⟩)):=d.out.below (by rw[D];exact Qh Zr n3);clear D d x0 W x2 x3 Q U T;have d:=S3;obtain⟨x0,W,x2,x3,Q,U,T⟩:=d.out.cells
 obtain⟨pm,cm,a1,c1,a2,c2,a3,c3,hh,aL,cL,R⟩:=d.out.known.read
 obtain⟨q0,q1,q2,q3,q4,q5,V⟩:=R.cells
 have HR:Hid (TRd w3 (fun g=>¬ O g) aL s.L):=R.row;clear R q0 q2 q3 q4 q5
 cases hat:s.at A with
 | none =>
   have hw:s.want A 2 true=1:=by unfold JSt.want;rw[hat]
   have l:Hid (s.makes ⟨4,A,n,q,u,p,v,o⟩=(1,[])):=by
    show _=_;rw[E.out];simp only[hat]
   rw[hw]
   clear E hw hat;generalize s.L.length=nl at V m;go_wp2_with fail
   go_quiet (fail)
   go_wp2
   go_ret2;rw[l.out]
   exact QV.nil (Qh d.out.bel _)
 | some t =>
   obtain⟨-,N,J,F⟩:=Qbp hat
   obtain⟨i,rfl⟩:=Xc N
   obtain⟨gL,va,vc,rfl,v0,v1,v2,-,-⟩:=HR.out i t (by simpa using F)
   have l:Hid (s.makes ⟨4,(i:Int),n,q,u,p,v,o⟩=(code2 (s.want (i:Int) 2 true) (if t.r<s.f.regs then 11 else 0),[])):=by
    show _=_;rw[E.out];simp only[hat]
   clear E hat F;generalize s.want (i:Int) 2 true=c at l;generalize s.L.length=nl at V m J;generalize ad:s.f.regs=P at q1 l;generalize t.r=I at v1 l;by_cases H:c=0
   ·subst H;by_cases j:I<P
    ·have B:decide (I<P)=true:=Xt j;have C:Hid (s.makes ⟨4,(i:Int),n,q,u,p,v,o⟩=(11,[])):=by show _=_;rw[l.out,Xs j];rfl
     clear l j;go_wp2_with fail
     go_quiet (fail)
     go_wp2
     go_ret2;rw[C.out]
     exact QV.nil (Qh d.out.bel _)
    ·have B:decide (I<P)=false:=Xu j;have C:Hid (s.makes ⟨4,(i:Int),n,q,u,p,v,o⟩=(0,[])):=by show _=_;rw[l.out,Xr j];rfl
     clear l j;go_wp2_with fail
     go_quiet (fail)
     go_wp2
     go_ret2;rw[C.out]
     exact QV.nil (Qh d.out.bel _)
   ·have aa:(c==0)=false:=beq_eq_false_iff_ne.2 H;have C:Hid (s.makes ⟨4,(i:Int),n,q,u,p,v,o⟩=(c,[])):=by show _=_;rw[l.out,code2,Xr H]
    clear l H;go_wp2_with fail
    go_quiet (fail)
    go_wp2
    go_ret2;rw[C.out]
    exact QV.nil (Qh d.out.bel _)
theorem Qhv {s:JSt}{x:Qx}{l:Option Addr}(B:∀ k,O k->k<w.heap.size) (z:JOk s) (h:KAt w b O s) (f:x.op=11) :
 Calls prog 102 #[Pv b 0,QfX x l ag rc ac] w fun e w'=>QV w O (s.makes x).1 (s.makes x).2 e w':=by
 have E:Hid (s.makes x=(s.want x.a 4 true,[tInt])):=Qbc f;have u:=Qg (MkS.start x l ag rc ac B z h);obtain⟨C,m,o,r,t,q,v,p⟩:=x
 simp only at f
 subst f;clear h;go_enter func102,ntmps102
 go_upto_region 56 with fail
 obtain⟨i,d⟩:∃ i,(w.alloc (.cells #[Iv 11,Iv m,Iv o,Iv r,Iv t,Iv q,.slice l v.length rc,.slice ag p.length ac] 78)).alloc (.cells #[Iv 1,Iv 0,Nv] 105)=i:=⟨_,Z⟩
 obtain⟨X,n⟩:∃ X,w.heap.size=X:=⟨_,Z⟩
 have j:Hid (MkS w i b X O s ⟨11,m,o,r,t,q,v,p⟩ l ag rc ac (some ⟨X+1,0,none⟩)):=by rw[<-d,<-n];exact u.out
 rw[d,n]
 clear d n u;obtain⟨L,I,J,K,F,H,G⟩:=j.out.cells
 go_wp2_with fail
 refine(Q7 m 4 true j.out.ok.regs j.out.ok.vals j.out.known).mono ?_
 rintro e D ⟨rfl,y,g⟩;have A:Below i.heap.size i D:=by rw[g];exact Qh Zr y
 clear g;generalize s.want m 4 true=c at E;go_wp2
 go_ret2;rw[E.out]
 exact QV.num j.out A
theorem Qhz {s:JSt}{x:Qx}{l:Option Addr}(B:∀ k,O k->k<w.heap.size) (z:JOk s) (h:KAt w b O s) (f:x.op=13) :
 Calls prog 102 #[Pv b 0,QfX x l ag rc ac] w fun e w'=>QV w O (s.makes x).1 (s.makes x).2 e w':=by
 have E:Hid (s.makes x=(s.want x.a 1 false,[])):=Qbe f;have u:=Qg (MkS.start x l ag rc ac B z h);obtain⟨C,m,o,r,t,q,v,p⟩:=x
 simp only at f
 subst f;clear h;go_enter func102,ntmps102
 go_upto_region 58 with fail
 obtain⟨i,d⟩:∃ i,(w.alloc (.cells #[Iv 13,Iv m,Iv o,Iv r,Iv t,Iv q,.slice l v.length rc,.slice ag p.length ac] 78)).alloc (.cells #[Iv 1,Iv 0,Nv] 105)=i:=⟨_,Z⟩
 obtain⟨X,n⟩:∃ X,w.heap.size=X:=⟨_,Z⟩
 have j:Hid (MkS w i b X O s ⟨13,m,o,r,t,q,v,p⟩ l ag rc ac (some ⟨X+1,0,none⟩)):=by rw[<-d,<-n];exact u.out
 rw[d,n]
 clear d n u;obtain⟨L,I,J,K,F,H,G⟩:=j.out.cells
 go_wp2_with fail
 refine(Q7 m 1 false j.out.ok.regs j.out.ok.vals j.out.known).mono ?_
 rintro e D ⟨rfl,y,g⟩;have A:Below i.heap.size i D:=by rw[g];exact Qh Zr y
 clear g;generalize s.want m 1 false=c at E;go_wp2
 go_ret2;rw[E.out]
 exact QV.nil (j.out.below A).bel
def Qn1 (b X:Nat) (x:Qx) (na:Option Addr) (c1:Int) (c2:Int) (t:Tmp) (v:Value) (w:World):Prop :=
 match ([(40,fun v w=>IV w [c1,c2] v)]:List (Tmp × (Value->World->Prop))).lookup t with
 | some p=>p v w
 | none=>v=(([(0,.pointer (some ⟨b,0,none⟩)),(3,.pointer (some ⟨X,0,none⟩)),(6,.slice na 1 1),(31,.slice na 1 1),(32,.pointer (some ⟨b,0,none⟩)),(33,.pointer (some ⟨X,1,none⟩)),(34,.int .i64 x.a),(35,.int .i64 c1),(36,.pointer (some ⟨b,0,none⟩)),(37,.pointer (some ⟨X,2,none⟩)),(38,.int .i64 x.b),(39,.int .i64 c2),(41,.int .i64 (firstI [c1,c2])),(4,.slice na 1 1),(5,.int .i64 (firstI [c1,c2]))]:List (Tmp × Value)).lookup t).getD undef
theorem kr7 {s:JSt}{x:Qx}{I:Option Addr}{u:Option Addr}(j:Hid (MkS w w2 b X O s x I ag rc ac u)){k:Int}{o:Int}(z:Hid (s.want x.a 1 false=k)) (A:Hid (s.want x.b 1 false=o)) (G:Hid (∀ x∈[k,o],-9223372036854775808<=x/\x<=9223372036854775807))
 (a:Act) (m:Nat) (hn:a.tmps.size=m) (y:365<=m) (F:a.tmps.getD 0 undef=Pv b 0) (H:a.tmps.getD 3 undef=Pv X 0) (D:a.tmps.getD 6 undef=.slice u 1 1) :
 Code.wp prog ((Tryz.f102.body.bind (Qf 7)).getD .skip) (fun e a' w'=>e=.normal/\∃ vs,a'=QC a vs [31,32,33,34,35,36,37,38,39,40,41,4,5]/\vs 4=.slice u 1 1/\vs 5=Iv (firstI [k,o])/\Below w2.heap.size w2 w') a w2:=by
 conv=>arg 2;whnf
 refine Qu (Qn1 b X x u k o) (fun w=>Below w2.heap.size w2 w) (fun w w'=>Below w.heap.size w w') (outs:=[0,3,6]) (gs:=[]) (bs:=[true,true,true,true,true,true,true,true,true,true,true,true,true]) (by kernel_rfl) (n:=365) hn y (by kernel_rfl) ?hR ?hG (Qh Zr 1) ⟨F,H,D,Y⟩ ?hA ?hend
 case hR =>
  intro t v w w' L h;unfold Qn1 at h |-;split at h
  ·rename_i p r
   simp only[List.lookup_cons,List.lookup_nil] at r
   split at r
   ·cases r;exact IV.below h L
   ·cases r
  ·exact h
 case hG=>exact Y
 case hend=>exact fun vs w' c f=>⟨Z,vs,Z,f 4 (by kernel_rfl),f 5 (by kernel_rfl),c⟩
 case hA =>
  iterate 4
   refine⟨fun a w c f K i=>?_,?_⟩
   ·obtain⟨d,-⟩:=f
    conv at d=>whnf;rhs;whnf
    have M:=(j.out.below c).cells.2.1;go_simp;exact i _ _ Zr c Z
  refine⟨fun a w c f K i=>?_,?_⟩
  ·obtain⟨d,l,-⟩:=f
   conv at d=>whnf;rhs;whnf
   conv at l=>whnf;rhs;whnf
   go_simp;refine(Q7 x.a 1 false j.out.ok.regs j.out.ok.vals (j.out.below c).known).mono ?_;rw[z.out];rintro B C ⟨rfl,q,g⟩;subst g
   go_simp;exact i _ _ (Qh Zr q) (Qh c q) Z
  iterate 3
   refine⟨fun a w c f K i=>?_,?_⟩
   ·obtain⟨d,-⟩:=f
    conv at d=>whnf;rhs;whnf
    have M:=(j.out.below c).cells.2.2.1;go_simp;exact i _ _ Zr c Z
  refine⟨fun a w c f K i=>?_,?_⟩
  ·obtain⟨d,l,-⟩:=f
   conv at d=>whnf;rhs;whnf
   conv at l=>whnf;rhs;whnf
   go_simp;refine(Q7 x.b 1 false j.out.ok.regs j.out.ok.vals (j.out.below c).known).mono ?_;rw[A.out];rintro B C ⟨rfl,q,g⟩;subst g
   go_simp;exact i _ _ (Qh Zr q) (Qh c q) Z
  refine⟨fun a w c f K i=>?_,?_⟩
  ·obtain⟨d,l,-⟩:=f
   conv at d=>whnf;rhs;whnf
   conv at l=>whnf;rhs;whnf
   simp only[Za] at d l
   go_simp;exact i _ _ (ZR _ _) (c.alloc c.size _) (QgY w 3 [k,o] G.out 2)
  refine⟨fun a w c f K i=>?_,?_⟩
  ·obtain⟨d,-⟩:=f
   have d:(fun v w=>IV w [k,o] v) (a.tmps.getD 40 undef) w:=d;generalize J:a.tmps.getD 40 undef=E at d;go_simp;refine(QcQ (by simp) d).mono ?_;rintro B C ⟨rfl,g⟩;have g:=g.symm;subst g
   go_simp;exact i _ _ Zr c Z
  iterate 2
   refine⟨fun a w c f K i=>?_,?_⟩
   ·obtain⟨d,-⟩:=f
    conv at d=>whnf;rhs;whnf
    go_simp;exact i _ _ Zr c Z
  trivial
def Qmk (b X:Nat) (x:Qx) (na:Option Addr) (c1:Int) (c2:Int) (t:Tmp) (v:Value) (w:World):Prop :=
 match ([(230,fun v w=>IV w [c1,c2] v)]:List (Tmp × (Value->World->Prop))).lookup t with
 | some p=>p v w
 | none=>v=(([(0,.pointer (some ⟨b,0,none⟩)),(3,.pointer (some ⟨X,0,none⟩)),(222,.pointer (some ⟨b,0,none⟩)),(223,.pointer (some ⟨X,1,none⟩)),(224,.int .i64 x.a),(225,.int .i64 c1),(226,.pointer (some ⟨b,0,none⟩)),(227,.pointer (some ⟨X,2,none⟩)),(228,.int .i64 x.b),(229,.int .i64 c2),(231,.int .i64 (firstI [c1,c2])),(13,.int .i64 (firstI [c1,c2]))]:List (Tmp × Value)).lookup t).getD undef
theorem QoI {s:JSt}{x:Qx}{H:Option Addr}{B:Option Addr}(j:Hid (MkS w w2 b X O s x H ag rc ac B)){k:Int}{o:Int}(y:Hid (s.want x.a 2 true=k)) (z:Hid (s.want x.b 1 false=o)) (F:Hid (∀ x∈[k,o],-9223372036854775808<=x/\x<=9223372036854775807))
 (a:Act) (m:Nat) (hn:a.tmps.size=m) (u:365<=m) (E:a.tmps.getD 0 undef=Pv b 0) (G:a.tmps.getD 3 undef=Pv X 0) :
 Code.wp prog ((Tryz.f102.body.bind (Qf 47)).getD .skip) (fun e a' w'=>e=.normal/\∃ vs,a'=QC a vs [222,223,224,225,226,227,228,229,230,231,13]/\vs 13=Iv (firstI [k,o])/\Below w2.heap.size w2 w') a w2:=by
 conv=>arg 2;whnf
 refine Qu (Qmk b X x B k o) (fun w=>Below w2.heap.size w2 w) (fun w w'=>Below w.heap.size w w') (outs:=[0,3]) (gs:=[]) (bs:=[true,true,true,true,true,true,true,true,true,true,true]) (by kernel_rfl) (n:=365) hn u (by kernel_rfl) ?hR ?hG (Qh Zr 1) ⟨E,G,Y⟩ ?hA ?hend
 case hR =>
  intro t v w w' J h;unfold Qmk at h |-;split at h
  ·rename_i p r
   simp only[List.lookup_cons,List.lookup_nil] at r
   split at r
   ·cases r;exact IV.below h J
   ·cases r
  ·exact h
 case hG=>exact Y
 case hend=>exact fun vs w' c f=>⟨Z,vs,Z,f 13 (by kernel_rfl),c⟩
 case hA =>
  iterate 3
   refine⟨fun a w c f K i=>?_,?_⟩
   ·obtain⟨d,-⟩:=f
    conv at d=>whnf;rhs;whnf
    have L:=(j.out.below c).cells.2.1;go_simp;exact i _ _ Zr c Z
  refine⟨fun a w c f K i=>?_,?_⟩
  ·obtain⟨d,l,-⟩:=f
   conv at d=>whnf;rhs;whnf
   conv at l=>whnf;rhs;whnf
   go_simp;refine(Q7 x.a 2 true j.out.ok.regs j.out.ok.vals (j.out.below c).known).mono ?_;rw[y.out];rintro A C ⟨rfl,q,g⟩;subst g
   go_simp;exact i _ _ (Qh Zr q) (Qh c q) Z
  iterate 3
   refine⟨fun a w c f K i=>?_,?_⟩
   ·obtain⟨d,-⟩:=f
    conv at d=>whnf;rhs;whnf
    have L:=(j.out.below c).cells.2.2.1;go_simp;exact i _ _ Zr c Z
  refine⟨fun a w c f K i=>?_,?_⟩
  ·obtain⟨d,l,-⟩:=f
   conv at d=>whnf;rhs;whnf
   conv at l=>whnf;rhs;whnf
   go_simp;refine(Q7 x.b 1 false j.out.ok.regs j.out.ok.vals (j.out.below c).known).mono ?_;rw[z.out];rintro A C ⟨rfl,q,g⟩;subst g
   go_simp;exact i _ _ (Qh Zr q) (Qh c q) Z
  refine⟨fun a w c f K i=>?_,?_⟩
  ·obtain⟨d,l,-⟩:=f
   conv at d=>whnf;rhs;whnf
   conv at l=>whnf;rhs;whnf
   simp only[Za] at d l
   go_simp;exact i _ _ (ZR _ _) (c.alloc c.size _) (QgY w 3 [k,o] F.out 2)
  refine⟨fun a w c f K i=>?_,?_⟩
  ·obtain⟨d,-⟩:=f
   have d:(fun v w=>IV w [k,o] v) (a.tmps.getD 230 undef) w:=d;generalize I:a.tmps.getD 230 undef=D at d;go_simp;refine(QcQ (by simp) d).mono ?_;rintro A C ⟨rfl,g⟩;have g:=g.symm;subst g
   go_simp;exact i _ _ Zr c Z
  refine⟨fun a w c f K i=>?_,?_⟩
  ·obtain⟨d,-⟩:=f
   conv at d=>whnf;rhs;whnf
   go_simp;exact i _ _ Zr c Z
  trivial
def QmX (b X:Nat) (x:Qx) (na:Option Addr) (c1:Int) (c2:Int) (t:Tmp) (v:Value) (w:World):Prop :=
 match ([(257,fun v w=>IV w [c1,c2] v)]:List (Tmp × (Value->World->Prop))).lookup t with
 | some p=>p v w
 | none=>v=(([(0,.pointer (some ⟨b,0,none⟩)),(3,.pointer (some ⟨X,0,none⟩)),(6,.slice na 1 1),(248,.slice na 1 1),(249,.pointer (some ⟨b,0,none⟩)),(250,.pointer (some ⟨X,1,none⟩)),(251,.int .i64 x.a),(252,.int .i64 c1),(253,.pointer (some ⟨b,0,none⟩)),(254,.pointer (some ⟨X,2,none⟩)),(255,.int .i64 x.b),(256,.int .i64 c2),(258,.int .i64 (firstI [c1,c2])),(4,.slice na 1 1),(5,.int .i64 (firstI [c1,c2]))]:List (Tmp × Value)).lookup t).getD undef
theorem QoN {s:JSt}{x:Qx}{I:Option Addr}{u:Option Addr}(j:Hid (MkS w w2 b X O s x I ag rc ac u)){k:Int}{o:Int}(z:Hid (s.want x.a 4 true=k)) (A:Hid (s.want x.b 1 false=o)) (G:Hid (∀ x∈[k,o],-9223372036854775808<=x/\x<=9223372036854775807))
 (a:Act) (m:Nat) (hn:a.tmps.size=m) (y:365<=m) (F:a.tmps.getD 0 undef=Pv b 0) (H:a.tmps.getD 3 undef=Pv X 0) (D:a.tmps.getD 6 undef=.slice u 1 1) :
 Code.wp prog ((Tryz.f102.body.bind (Qf 52)).getD .skip) (fun e a' w'=>e=.normal/\∃ vs,a'=QC a vs [248,249,250,251,252,253,254,255,256,257,258,4,5]/\vs 4=.slice u 1 1/\vs 5=Iv (firstI [k,o])/\Below w2.heap.size w2 w') a w2:=by
 conv=>arg 2;whnf
 refine Qu (QmX b X x u k o) (fun w=>Below w2.heap.size w2 w) (fun w w'=>Below w.heap.size w w') (outs:=[0,3,6]) (gs:=[]) (bs:=[true,true,true,true,true,true,true,true,true,true,true,true,true]) (by kernel_rfl) (n:=365) hn y (by kernel_rfl) ?hR ?hG (Qh Zr 1) ⟨F,H,D,Y⟩ ?hA ?hend
 case hR =>
  intro t v w w' L h;unfold QmX at h |-;split at h
  ·rename_i p r
   simp only[List.lookup_cons,List.lookup_nil] at r
   split at r
   ·cases r;exact IV.below h L
   ·cases r
  ·exact h
 case hG=>exact Y
 case hend=>exact fun vs w' c f=>⟨Z,vs,Z,f 4 (by kernel_rfl),f 5 (by kernel_rfl),c⟩
 case hA =>
  iterate 4
   refine⟨fun a w c f K i=>?_,?_⟩
   ·obtain⟨d,-⟩:=f
    conv at d=>whnf;rhs;whnf
    have M:=(j.out.below c).cells.2.1;go_simp;exact i _ _ Zr c Z
  refine⟨fun a w c f K i=>?_,?_⟩
  ·obtain⟨d,l,-⟩:=f
   conv at d=>whnf;rhs;whnf
   conv at l=>whnf;rhs;whnf
   go_simp;refine(Q7 x.a 4 true j.out.ok.regs j.out.ok.vals (j.out.below c).known).mono ?_;rw[z.out];rintro B C ⟨rfl,q,g⟩;subst g
   go_simp;exact i _ _ (Qh Zr q) (Qh c q) Z
  iterate 3
   refine⟨fun a w c f K i=>?_,?_⟩
   ·obtain⟨d,-⟩:=f
    conv at d=>whnf;rhs;whnf
    have M:=(j.out.below c).cells.2.2.1;go_simp;exact i _ _ Zr c Z
  refine⟨fun a w c f K i=>?_,?_⟩
  ·obtain⟨d,l,-⟩:=f
   conv at d=>whnf;rhs;whnf
   conv at l=>whnf;rhs;whnf
   go_simp;refine(Q7 x.b 1 false j.out.ok.regs j.out.ok.vals (j.out.below c).known).mono ?_;rw[A.out];rintro B C ⟨rfl,q,g⟩;subst g
   go_simp;exact i _ _ (Qh Zr q) (Qh c q) Z
  refine⟨fun a w c f K i=>?_,?_⟩
  ·obtain⟨d,l,-⟩:=f
   conv at d=>whnf;rhs;whnf
   conv at l=>whnf;rhs;whnf
   simp only[Za] at d l
   go_simp;exact i _ _ (ZR _ _) (c.alloc c.size _) (QgY w 3 [k,o] G.out 2)
  refine⟨fun a w c f K i=>?_,?_⟩
  ·obtain⟨d,-⟩:=f
   have d:(fun v w=>IV w [k,o] v) (a.tmps.getD 257 undef) w:=d;generalize J:a.tmps.getD 257 undef=E at d;go_simp;refine(QcQ (by simp) d).mono ?_;rintro B C ⟨rfl,g⟩;have g:=g.symm;subst g
   go_simp;exact i _ _ Zr c Z
  iterate 2
   refine⟨fun a w c f K i=>?_,?_⟩
   ·obtain⟨d,-⟩:=f
    conv at d=>whnf;rhs;whnf
    go_simp;exact i _ _ Zr c Z
  trivial
def QmW (b X:Nat) (x:Qx) (na:Option Addr) (c1:Int) (c2:Int) (c3:Int) (t:Tmp) (v:Value) (w:World):Prop :=
 match ([(273,fun v w=>IV w [c1,c2,c3] v)]:List (Tmp × (Value->World->Prop))).lookup t with
 | some p=>p v w
 | none=>v=(([(0,.pointer (some ⟨b,0,none⟩)),(3,.pointer (some ⟨X,0,none⟩)),(261,.pointer (some ⟨b,0,none⟩)),(262,.pointer (some ⟨X,1,none⟩)),(263,.int .i64 x.a),(264,.int .i64 c1),(265,.pointer (some ⟨b,0,none⟩)),(266,.pointer (some ⟨X,2,none⟩)),(267,.int .i64 x.b),(268,.int .i64 c2),(269,.pointer (some ⟨b,0,none⟩)),(270,.pointer (some ⟨X,3,none⟩)),(271,.int .i64 x.c),(272,.int .i64 c3),(274,.int .i64 (firstI [c1,c2,c3])),(4,.slice none 0 0),(5,.int .i64 (firstI [c1,c2,c3]))]:List (Tmp × Value)).lookup t).getD undef
theorem QoX {s:JSt}{x:Qx}{N:Option Addr}{G:Option Addr}(k:Hid (MkS w w2 b X O s x N ag rc ac G)){q:Int}{u:Int}{r:Int}(B:Hid (s.want x.a 4 true=q)) (C:Hid (s.want x.b 1 false=u)) (A:Hid (s.want x.c 1 false=r)) (L:Hid (∀ x∈[q,u,r],-9223372036854775808<=x/\x<=9223372036854775807))
 (a:Act) (m:Nat) (hn:a.tmps.size=m) (z:365<=m) (J:a.tmps.getD 0 undef=Pv b 0) (M:a.tmps.getD 3 undef=Pv X 0) :
 Code.wp prog ((Tryz.f102.body.bind (Qf 54)).getD .skip) (fun e a' w'=>e=.normal/\∃ vs,a'=QC a vs [261,262,263,264,265,266,267,268,269,270,271,272,273,274,4,5]/\vs 4=Nv/\vs 5=Iv (firstI [q,u,r])/\Below w2.heap.size w2 w') a w2:=by
 conv=>arg 2;whnf
 refine Qu (QmW b X x G q u r) (fun w=>Below w2.heap.size w2 w) (fun w w'=>Below w.heap.size w w') (outs:=[0,3]) (gs:=[]) (bs:=[true,true,true,true,true,true,true,true,true,true,true,true,true,true,true,true]) (by kernel_rfl) (n:=365) hn z (by kernel_rfl) ?hR ?hG (Qh Zr 1) ⟨J,M,Y⟩ ?hA ?hend
 case hR =>
  intro t v w w' Q h;unfold QmW at h |-;split at h
  ·rename_i p y
   simp only[List.lookup_cons,List.lookup_nil] at y
   split at y
   ·cases y;exact IV.below h Q
   ·cases y
  ·exact h
 case hG=>exact Y
 case hend=>exact fun vs w' d f=>⟨Z,vs,Z,f 4 (by kernel_rfl),f 5 (by kernel_rfl),d⟩
 case hA =>
  iterate 3
   refine⟨fun a w d f K i=>?_,?_⟩
   ·obtain⟨g,-⟩:=f
    conv at g=>whnf;rhs;whnf
    have H:=(k.out.below d).cells.2.1;go_simp;exact i _ _ Zr d Z
  refine⟨fun a w d f K i=>?_,?_⟩
  ·obtain⟨g,o,-⟩:=f
   conv at g=>whnf;rhs;whnf
   conv at o=>whnf;rhs;whnf
   go_simp;refine(Q7 x.a 4 true k.out.ok.regs k.out.ok.vals (k.out.below d).known).mono ?_;rw[B.out];rintro D E ⟨rfl,l,j⟩;subst j
   go_simp;exact i _ _ (Qh Zr l) (Qh d l) Z
  iterate 3
   refine⟨fun a w d f K i=>?_,?_⟩
   ·obtain⟨g,-⟩:=f
    conv at g=>whnf;rhs;whnf
    have H:=(k.out.below d).cells.2.2.1;go_simp;exact i _ _ Zr d Z
  refine⟨fun a w d f K i=>?_,?_⟩
  ·obtain⟨g,o,-⟩:=f
   conv at g=>whnf;rhs;whnf
   conv at o=>whnf;rhs;whnf
   go_simp;refine(Q7 x.b 1 false k.out.ok.regs k.out.ok.vals (k.out.below d).known).mono ?_;rw[C.out];rintro D E ⟨rfl,l,j⟩;subst j
   go_simp;exact i _ _ (Qh Zr l) (Qh d l) Z
  iterate 3
   refine⟨fun a w d f K i=>?_,?_⟩
   ·obtain⟨g,-⟩:=f
    conv at g=>whnf;rhs;whnf
    have H:=(k.out.below d).cells.2.2.2.1;go_simp;exact i _ _ Zr d Z
  refine⟨fun a w d f K i=>?_,?_⟩
  ·obtain⟨g,o,-⟩:=f
   conv at g=>whnf;rhs;whnf
   conv at o=>whnf;rhs;whnf
   go_simp;refine(Q7 x.c 1 false k.out.ok.regs k.out.ok.vals (k.out.below d).known).mono ?_;rw[A.out];rintro D E ⟨rfl,l,j⟩;subst j
   go_simp;exact i _ _ (Qh Zr l) (Qh d l) Z
  refine⟨fun a w d f K i=>?_,?_⟩
  ·obtain⟨g,o,F,-⟩:=f
   conv at g=>whnf;rhs;whnf
   conv at o=>whnf;rhs;whnf
   conv at F=>whnf;rhs;whnf
   simp only[Za] at g o F
   go_simp;exact i _ _ (ZR _ _) (d.alloc d.size _) (QgY w 3 [q,u,r] L.out 3)
  refine⟨fun a w d f K i=>?_,?_⟩
  ·obtain⟨g,-⟩:=f
   have g:(fun v w=>IV w [q,u,r] v) (a.tmps.getD 273 undef) w:=g;generalize P:a.tmps.getD 273 undef=I at g;go_simp;refine(QcQ (by simp) g).mono ?_;rintro D E ⟨rfl,j⟩;have j:=j.symm;subst j
   go_simp;exact i _ _ Zr d Z
  refine⟨fun a w d f K i=>?_,?_⟩
  ·clear f;go_simp;exact i _ _ Zr d Z
  refine⟨fun a w d f K i=>?_,?_⟩
  ·obtain⟨g,-⟩:=f
   conv at g=>whnf;rhs;whnf
   go_simp;exact i _ _ Zr d Z
  trivial
theorem Qib {s:JSt}{x:Qx}{l:Option Addr}(G:∀ k,O k->k<w.heap.size) (C:JOk s) (h:KAt w b O s) (f:x.op=2) :
 Calls prog 102 #[Pv b 0,QfX x l ag rc ac] w fun e w'=>QV w O (s.makes x).1 (s.makes x).2 e w':=by
 have E:Hid (s.makes x=(code2 (s.want x.a 1 false) (s.want x.b 1 false),[tInt])):=Qbo f;have B:=Qg (MkS.start x l ag rc ac G C h);obtain⟨F,i,g,v,z,t,u,r⟩:=x
 simp only at f
 subst f;clear h;go_enter func102,ntmps102
 go_upto_region 7 with fail
 obtain⟨n,d⟩:∃ n,(w.alloc (.cells #[Iv 2,Iv i,Iv g,Iv v,Iv z,Iv t,.slice l u.length rc,.slice ag r.length ac] 78)).alloc (.cells #[Iv 1,Iv 0,Nv] 105)=n:=⟨_,Z⟩
 obtain⟨X,o⟩:∃ X,w.heap.size=X:=⟨_,Z⟩
 have p:Hid (MkS w n b X O s ⟨2,i,g,v,z,t,u,r⟩ l ag rc ac (some ⟨X+1,0,none⟩)):=by rw[<-d,<-o];exact B.out
 rw[d,o]
 clear d o B;obtain⟨U,M,P,Q,J,L,K⟩:=p.out.cells
 have D:Hid (∀ y∈[s.want i 1 false,s.want g 1 false],-9223372036854775808<=y/\y<=9223372036854775807):=fun y A=>by simp only[List.mem_cons,List.not_mem_nil,or_false] at A;rcases A with rfl | rfl<;>exact QcR _ _ _ _
 refine Code.wp_mono ?_ (kr7 p (show Hid (s.want i 1 false=s.want i 1 false) from Z) (show Hid (s.want g 1 false=s.want g 1 false) from Z) D _ _ Z (Xg (by kernel_rfl)) Z Z Z);rintro S R T ⟨rfl,N,rfl,m,q,H⟩;simp only[QC,Act.put,List.setIfInBounds_toArray,List.set_cons_zero,List.set_cons_succ,m,q]
 have j:=E.out;rw[<-QeR] at j
 generalize firstI [s.want i 1 false,s.want g 1 false]=c at j |-;have I:=Qg j;clear j E;go_wp2
 go_ret2;rw[I.out]
 exact QV.num p.out H
theorem Qgy {s:JSt}{x:Qx}{l:Option Addr}(G:∀ k,O k->k<w.heap.size) (C:JOk s) (h:KAt w b O s) (f:x.op=9) :
 Calls prog 102 #[Pv b 0,QfX x l ag rc ac] w fun e w'=>QV w O (s.makes x).1 (s.makes x).2 e w':=by
 have E:Hid (s.makes x=(code2 (s.want x.a 4 true) (s.want x.b 1 false),[tInt])):=QaD f;have B:=Qg (MkS.start x l ag rc ac G C h);obtain⟨F,i,g,v,z,t,u,r⟩:=x
 simp only at f
 subst f;clear h;go_enter func102,ntmps102
 go_upto_region 52 with fail
 obtain⟨n,d⟩:∃ n,(w.alloc (.cells #[Iv 9,Iv i,Iv g,Iv v,Iv z,Iv t,.slice l u.length rc,.slice ag r.length ac] 78)).alloc (.cells #[Iv 1,Iv 0,Nv] 105)=n:=⟨_,Z⟩
 obtain⟨X,o⟩:∃ X,w.heap.size=X:=⟨_,Z⟩
 have p:Hid (MkS w n b X O s ⟨9,i,g,v,z,t,u,r⟩ l ag rc ac (some ⟨X+1,0,none⟩)):=by rw[<-d,<-o];exact B.out
 rw[d,o]
 clear d o B;obtain⟨U,M,P,Q,J,L,K⟩:=p.out.cells
 have D:Hid (∀ y∈[s.want i 4 true,s.want g 1 false],-9223372036854775808<=y/\y<=9223372036854775807):=fun y A=>by simp only[List.mem_cons,List.not_mem_nil,or_false] at A;rcases A with rfl | rfl<;>exact QcR _ _ _ _
 refine Code.wp_mono ?_ (QoN p (show Hid (s.want i 4 true=s.want i 4 true) from Z) (show Hid (s.want g 1 false=s.want g 1 false) from Z) D _ _ Z (Xg (by kernel_rfl)) Z Z Z);rintro S R T ⟨rfl,N,rfl,m,q,H⟩;simp only[QC,Act.put,List.setIfInBounds_toArray,List.set_cons_zero,List.set_cons_succ,m,q]
 have j:=E.out;rw[<-QeR] at j
 generalize firstI [s.want i 4 true,s.want g 1 false]=c at j |-;have I:=Qg j;clear j E;go_wp2
 go_ret2;rw[I.out]
 exact QV.num p.out H
theorem QfU {s:JSt}{x:Qx}{m:Option Addr}(G:∀ k,O k->k<w.heap.size) (C:JOk s) (h:KAt w b O s) (f:x.op=10) :
 Calls prog 102 #[Pv b 0,QfX x m ag rc ac] w fun e w'=>QV w O (s.makes x).1 (s.makes x).2 e w':=by
 have E:Hid (s.makes x=(code2 (s.want x.a 4 true) (code2 (s.want x.b 1 false) (s.want x.c 1 false)),[])):=Qan f;have B:=Qg (MkS.start x m ag rc ac G C h);obtain⟨F,j,g,i,z,u,v,t⟩:=x
 simp only at f
 subst f;clear h;go_enter func102,ntmps102
 go_upto_region 54 with fail
 obtain⟨o,d⟩:∃ o,(w.alloc (.cells #[Iv 10,Iv j,Iv g,Iv i,Iv z,Iv u,.slice m v.length rc,.slice ag t.length ac] 78)).alloc (.cells #[Iv 1,Iv 0,Nv] 105)=o:=⟨_,Z⟩
 obtain⟨X,p⟩:∃ X,w.heap.size=X:=⟨_,Z⟩
 have q:Hid (MkS w o b X O s ⟨10,j,g,i,z,u,v,t⟩ m ag rc ac (some ⟨X+1,0,none⟩)):=by rw[<-d,<-p];exact B.out
 rw[d,p]
 clear d p B;obtain⟨U,M,P,Q,J,L,K⟩:=q.out.cells
 have D:Hid (∀ y∈[s.want j 4 true,s.want g 1 false,s.want i 1 false],-9223372036854775808<=y/\y<=9223372036854775807):=fun y A=>by simp only[List.mem_cons,List.not_mem_nil,or_false] at A;rcases A with rfl | rfl | rfl<;>exact QcR _ _ _ _
 refine Code.wp_mono ?_ (QoX q (show Hid (s.want j 4 true=s.want j 4 true) from Z) (show Hid (s.want g 1 false=s.want g 1 false) from Z) (show Hid (s.want i 1 false=s.want i 1 false) from Z) D _ _ Z (Xg (by kernel_rfl)) Z Z);rintro S R T ⟨rfl,N,rfl,n,r,H⟩;simp only[QC,Act.put,List.setIfInBounds_toArray,List.set_cons_zero,List.set_cons_succ,n,r]
 have l:=E.out;rw[<-Qlo] at l
 generalize firstI [s.want j 4 true,s.want g 1 false,s.want i 1 false]=c at l |-;have I:=Qg l;clear l E;go_wp2
 go_ret2;rw[I.out]
 exact QV.nil (q.out.below H).bel
def Ql8 (b X gL nl cL i:Nat) (O:Nat->Prop) (r:Int) (t:Tmp) (v:Value) (w:World):Prop :=
 match ([(245,fun v w=>∃ a,v=.slice a 1 1/\(Qt 6).In w (fun g=>¬ O g) [(mkT 4 r []:TT 6)] [.slice a 1 1]),(4,fun v w=>∃ a,v=.slice a 1 1/\(Qt 6).In w (fun g=>¬ O g) [(mkT 4 r []:TT 6)] [.slice a 1 1])]:List (Tmp × (Value->World->Prop))).lookup t with
 | some p=>p v w
 | none=>v=(([(0,.pointer (some ⟨b,0,none⟩)),(3,.pointer (some ⟨X,0,none⟩)),(235,.pointer (some ⟨b,0,none⟩)),(236,.pointer (some ⟨b,0,none⟩)),(237,.pointer (some ⟨b,6,none⟩)),(238,.slice (some ⟨gL,0,none⟩) nl cL),(239,.pointer (some ⟨X,1,none⟩)),(240,.int .i64 (i:Int)),(241,.pointer (some ⟨gL,i*3,none⟩)),(242,.pointer (some ⟨gL,i*3+1,none⟩)),(243,.int .i64 r),(244,.agg #[.int .i64 4,.int .i64 r,.slice none 0 0]),(5,.int .i64 0)]:List (Tmp × Value)).lookup t).getD undef
theorem Qos {s:JSt}{x:Qx}{M:Option Addr}{L:Option Addr}(B:Hid (MkS w w2 b X O s x M ag rc ac L)){u z:Nat}{r:Int}(E:w2.cell? ⟨b,6,none⟩=some (.slice (some ⟨u,0,none⟩) z cL)) (F:w2.cell? ⟨u,i*3+1,none⟩=some (Iv r)) (C:(i:Int)<z) (y:x.a=(i:Int)) (G:Hid (-9223372036854775808<=r/\r<=9223372036854775807))
 (a:Act) (m:Nat) (hn:a.tmps.size=m) (q:365<=m) (H:a.tmps.getD 0 undef=Pv b 0) (J:a.tmps.getD 3 undef=Pv X 0) :
 Code.wp prog ((Tryz.f102.body.bind (Qf 50)).getD .skip) (fun e a' w'=>e=.normal/\∃ vs,a'=QC a vs [235,236,237,238,239,240,241,242,243,244,245,4,5]/\(fun v w=>∃ a,v=.slice a 1 1/\(Qt 6).In w (fun g=>¬ O g) [(mkT 4 r []:TT 6)] [.slice a 1 1]) (vs 4) w'/\vs 5=Iv 0/\Below w2.heap.size w2 w') a w2:=by
 conv=>arg 2;whnf
 refine Qu (Ql8 b X u z cL i O r) (fun w=>Below w2.heap.size w2 w) (fun w w'=>Below w.heap.size w w') (outs:=[0,3]) (gs:=[]) (bs:=[true,true,true,true,true,true,true,true,true,true,true,true,true]) (by kernel_rfl) (n:=365) hn q (by kernel_rfl) ?hR ?hG (Qh Zr 1) ⟨H,J,Y⟩ ?hA ?hend
 case hR =>
  intro t v w w' A h;unfold Ql8 at h |-;split at h
  ·rename_i p o
   simp only[List.lookup_cons,List.lookup_nil] at o
   split at o
   ·cases o;exact(by obtain⟨a,e,h⟩:=h;exact⟨a,e,Ya h A⟩)
   ·split at o
    ·cases o;exact(by obtain⟨a,e,h⟩:=h;exact⟨a,e,Ya h A⟩)
    ·cases o
  ·exact h
 case hG=>exact Y
 case hend=>exact fun vs w' f k=>⟨Z,vs,Z,k 4 (by kernel_rfl),k 5 (by kernel_rfl),f⟩
 case hA =>
  iterate 5
   refine⟨fun a w f k K l=>?_,?_⟩
   ·obtain⟨j,-⟩:=k
    conv at j=>whnf;rhs;whnf
    have Q:=Qn E f;go_simp;exact l _ _ Zr f Z
  refine⟨fun a w f k K l=>?_,?_⟩
  ·obtain⟨j,-⟩:=k
   conv at j=>whnf;rhs;whnf
   have N:=(B.out.below f).cells.2.1;rw[y] at N
   go_simp;exact l _ _ Zr f Z
  refine⟨fun a w f k K l=>?_,?_⟩
  ·obtain⟨j,I,-⟩:=k
   conv at j=>whnf;rhs;whnf
   conv at I=>whnf;rhs;whnf
   go_simp;exact l _ _ Zr f Z
  iterate 2
   refine⟨fun a w f k K l=>?_,?_⟩
   ·obtain⟨j,-⟩:=k
    conv at j=>whnf;rhs;whnf
    have Q:=Qn F f;go_simp;exact l _ _ Zr f Z
  refine⟨fun a w f k K l=>?_,?_⟩
  ·obtain⟨j,-⟩:=k
   conv at j=>whnf;rhs;whnf
   simp only[Za] at j
   go_simp;exact l _ _ Zr f Z
  refine⟨fun a w f k K l=>?_,?_⟩
  ·obtain⟨j,-⟩:=k
   conv at j=>whnf;rhs;whnf
   simp only[Za] at j
   go_simp;exact l _ _ (ZR _ _) (f.alloc f.size _) ⟨_,Z,Qdo w O (B.out.below f).lt (t:=(mkT 4 r []:TT 6)) (a:=none) (c:=0) (d:=1) (Qf5 _ _ _ _ _) (QjO G.out)⟩
  refine⟨fun a w f k K l=>?_,?_⟩
  ·obtain⟨j,-⟩:=k
   have j:(fun v w=>∃ a,v=.slice a 1 1/\(Qt 6).In w (fun g=>¬ O g) [(mkT 4 r []:TT 6)] [.slice a 1 1]) (a.tmps.getD 245 undef) w:=j;generalize P:a.tmps.getD 245 undef=D at j;go_simp;exact l _ _ Zr f j
  refine⟨fun a w f k K l=>?_,?_⟩
  ·clear k;go_simp;exact l _ _ Zr f Z
  trivial
theorem QfH {s:JSt}{x:Qx}{A:Option Addr}(hO:∀ k,O k->k<w.heap.size) (hJ:JOk s) (h:KAt w b O s) (o:x.op=8) :
 Calls prog 102 #[Pv b 0,QfX x A ag rc ac] w fun e w'=>QV w O (s.makes x).1 (s.makes x).2 e w':=by
 have E:Hid (s.makes x=(match s.at x.a with | none=>(1,[]) | some t=>(code2 (s.want x.a 2 true) (s.want x.b 1 false),[mkT 4 t.r []]))):=Qa3 o;have U:=Qg (MkS.start x A ag rc ac hO hJ h);obtain⟨ad,d,f,B,C,u,H,q⟩:=x
 simp only at o
 subst o;clear h;go_enter func102,ntmps102
 go_upto_region 47 with fail
 obtain⟨M,j⟩:∃ M,(w.alloc (.cells #[Iv 8,Iv d,Iv f,Iv B,Iv C,Iv u,.slice A H.length rc,.slice ag q.length ac] 78)).alloc (.cells #[Iv 1,Iv 0,Nv] 105)=M:=⟨_,Yz⟩
 obtain⟨X,N⟩:∃ X,w.heap.size=X:=⟨_,Yz⟩
 have m:Hid (MkS w M b X O s ⟨8,d,f,B,C,u,H,q⟩ A ag rc ac (some ⟨X+1,0,none⟩)):=by rw[<-j,<-N];exact U.out
 rw[j,N]
 clear j N U;obtain⟨x0,x1,x2,x3,x4,x6,x7⟩:=m.out.cells
 have Q:Hid (∀ y∈[s.want d 2 true,s.want f 1 false],-9223372036854775808<=y/\y<=9223372036854775807):=fun y T=>by simp only[List.mem_cons,List.not_mem_nil,or_false] at T;rcases T with rfl | rfl<;>exact QcR _ _ _ _
 refine Code.wp_mono ?_ (QoI m (show Hid (s.want d 2 true=s.want d 2 true) from Yz) (show Hid (s.want f 1 false=s.want f 1 false) from Yz) Q _ _ Yz (Xg (by kernel_rfl)) Yz Yz);rintro ee aa w3 ⟨rfl,vs,rfl,g,D⟩;simp only[QC,Act.put,List.setIfInBounds_toArray,List.set_cons_zero,List.set_cons_succ,g]
 have S:Hid (MkS w w3 b X O s ⟨8,d,f,B,C,u,H,q⟩ A ag rc ac (some ⟨X+1,0,none⟩)):=m.out.below D;rw[QeR]
 clear D g m Q x0 x1 x2 x3 x4 x6 x7;have m:=S;clear S;by_cases n:code2 (s.want d 2 true) (s.want f 1 false)=0
 ·obtain⟨G,j⟩:=QH n
  obtain⟨t,l,-,-⟩:=QaG G
  have J:Hid (s.makes ⟨8,d,f,B,C,u,H,q⟩=(0,[mkT 4 t.r []])):=by
   show _=_;rw[E.out];simp only[l,n]
  rw[n]
  clear E n G j;obtain⟨-,F,v,z⟩:=Qbp l
  obtain⟨i,rfl⟩:=Xc F
  clear l F;obtain⟨pm,cm,a1,c1,a2,c2,a3,c3,hh,aL,cL,R⟩:=m.out.known.read
  obtain⟨q0,q1,q2,q3,W,q5,K⟩:=R.cells
  obtain⟨gL,va,vc,rfl,v0,P,v2,-,I⟩:=R.row i t (by simpa using z)
  have HR:Hid (-9223372036854775808<=t.r/\t.r<=9223372036854775807):=I.1;clear R q0 q1 q2 q3 W q5 z v0 v2 I;generalize s.L.length=nl at K v;go_upto_region 50 with fail
  refine Code.wp_mono ?_ (Qos m K P v Yz HR _ _ Yz (Xg (by kernel_rfl)) Yz Yz);rintro ee aa w4 ⟨rfl,vs,rfl,⟨a4,p,V⟩,g,D⟩;simp only[QC,Act.put,List.setIfInBounds_toArray,List.set_cons_zero,List.set_cons_succ,p,g]
  have Z:Hid (QV w O 0 [(mkT 4 t.r []:TT 6)] (.returned (.tuple #[.slice a4 1 1,Iv 0])) w4):=⟨_,1,1,Yz,fun _=>⟨Yz,Ze,V⟩,(m.out.below D).bel⟩;clear V D p g P K;go_wp2
  go_ret2;rw[J.out]
  exact Z.out
 ·have J:Hid ((s.makes ⟨8,d,f,B,C,u,H,q⟩).1=code2 (s.want d 2 true) (s.want f 1 false)):=by
   show _=_;rw[E.out]
   cases l:s.at d with
   | none =>
     have:s.want d 2 true=1:=by unfold JSt.want;rw[l]
     simp only[this];rfl
   | some t=>rfl
  clear E;generalize code2 (s.want d 2 true) (s.want f 1 false)=c at J n |-;have ab:(c==0)=false:=beq_eq_false_iff_ne.2 n;have HC:=Qg n;clear n;go_wp2
  go_ret2;rw[J.out]
  exact QV.bad HC.out m.out.bel _ _ _
def Qmf (w2:World) (b X gL nl cL i gk ok nk ck k uc:Nat) (u:TT 5) (ua:Option Addr) (t:Tmp) (v:Value) (w:World):Prop :=
 match ([(12,fun v w=>∃ B,v=.pointer (some ⟨B,0,none⟩)/\w2.heap.size<=B/\Blk w B #[.int .i64 0,.int .i64 0,.slice none 0 0] 105)]:List (Tmp × (Value->World->Prop))).lookup t with
 | some p=>p v w
 | none=>v=(([(0,.pointer (some ⟨b,0,none⟩)),(3,.pointer (some ⟨X,0,none⟩)),(178,.pointer (some ⟨b,0,none⟩)),(179,.pointer (some ⟨b,0,none⟩)),(180,.pointer (some ⟨b,6,none⟩)),(181,.slice (some ⟨gL,0,none⟩) nl cL),(182,.pointer (some ⟨X,1,none⟩)),(183,.int .i64 (i:Int)),(184,.pointer (some ⟨gL,i*3,none⟩)),(185,.pointer (some ⟨gL,i*3+2,none⟩)),(186,.slice (some ⟨gk,ok,none⟩) nk ck),(187,.pointer (some ⟨X,4,none⟩)),(188,.int .i64 (k:Int)),(189,.pointer (some ⟨gk,ok+k*3,none⟩)),(190,.agg #[.int .i64 u.kind,.int .i64 u.r,.slice ua u.len uc])]:List (Tmp × Value)).lookup t).getD undef
theorem QnZ {s:JSt}{x:Qx}{U:Option Addr}{T:Option Addr}(I:Hid (MkS w w2 b X O s x U ag rc ac T)){C F g ok y H z:Nat}{u:TT 5}{E:Option Addr}(L:w2.cell? ⟨b,6,none⟩=some (.slice (some ⟨C,0,none⟩) F cL)) (V:w2.cell? ⟨C,i*3+2,none⟩=some (.slice (some ⟨g,ok,none⟩) y H)) (u0:w2.cell? ⟨g,ok+k*3,none⟩=some (Iv u.kind)) (M:w2.cell? ⟨g,ok+k*3+1,none⟩=some (Iv u.r)) (u2:w2.cell? ⟨g,ok+k*3+2,none⟩=some (.slice E u.len z)) (J:(i:Int)<F) (aa:(k:Int)<y) (D:x.a=(i:Int)) (A:x.k=(k:Int))
 (a:Act) (m:Nat) (hn:a.tmps.size=m) (q:365<=m) (N:a.tmps.getD 0 undef=Pv b 0) (R:a.tmps.getD 3 undef=Pv X 0)
 (hend:∀ ops vs w',vs 190=.agg #[Iv u.kind,Iv u.r,.slice E u.len z]->(fun v w=>∃ B,v=Pv B 0/\w2.heap.size<=B/\Blk w B #[Iv 0,Iv 0,Nv] 105) (vs 12) w'->Below w2.heap.size w2 w'->wpList prog ops Q (QaI 14 ((Tryz.f102.body.bind (Qf 38)).getD .skip)) (QC a vs [178,179,180,181,182,183,184,185,186,187,188,189,190,12]) w') :
 Code.wp prog ((Tryz.f102.body.bind (Qf 38)).getD .skip) Q a w2:=by
 conv=>arg 2;whnf
 refine Qj 14 (Qmf w2 b X C F cL i g ok y H k z u E) (fun w=>Below w2.heap.size w2 w) (fun w w'=>Below w.heap.size w w') (outs:=[0,3]) (gs:=[]) (bs:=[true,true,true,true,true,true,true,true,true,true,true,true,true,true]) (by kernel_rfl) (n:=365) hn q (by kernel_rfl) (by kernel_rfl) ?hR ?hG (Qh Zr 1) ⟨N,R,Y⟩ ?hA ?hend
 case hR =>
  intro t v w w' W h;unfold Qmf at h |-;split at h
  ·rename_i p l
   simp only[List.lookup_cons,List.lookup_nil] at l
   split at l
   ·cases l;exact(by obtain⟨B,e,P,G⟩:=h;exact⟨B,e,P,(W.block B (XC G)).trans G⟩)
   ·cases l
  ·exact h
 case hG=>exact Y
 case hend=>exact fun ops vs w' c d=>hend ops vs w' (d 190 (by kernel_rfl)) (d 12 (by kernel_rfl)) c
 case hA =>
  repeat
   refine⟨fun a w c d K j=>?_,?_⟩
   focus first
    | obtain⟨f,-⟩:=d
      conv at f=>whnf;rhs;whnf
      have o:=Qn L c;have c1:=Qn V c;have c2:=Qn u0 c;have c3:=Qn M c;have c4:=Qn u2 c;go_simp;exact j _ _ Zr c Z
    | obtain⟨f,S,-⟩:=d
      conv at f=>whnf;rhs;whnf
      conv at S=>whnf;rhs;whnf
      go_simp;exact j _ _ Zr c Z
    | clear d
      go_simp;exact j _ _ (ZR _ _) (c.alloc c.size _) ⟨_,Z,c.size,Qe _ _ _⟩
    | obtain⟨f,-⟩:=d
      conv at f=>whnf;rhs;whnf
      have o:=(I.out.below c).cells.2.1;rw[D] at o
      go_simp;exact j _ _ Zr c Z
    | obtain⟨f,-⟩:=d
      conv at f=>whnf;rhs;whnf
      have o:=(I.out.below c).cells.2.2.2.2.1;rw[A] at o
      go_simp;exact j _ _ Zr c Z
  trivial
theorem QhH {s:JSt}{x:Qx}{rg:Option Addr}(hO:∀ k,O k->k<w.heap.size) (hJ:JOk s) (h:KAt w b O s) (aj:0<=x.k/\x.k<=7) (S:x.op=6) :
 Calls prog 102 #[Pv b 0,QfX x rg ag rc ac] w fun e w'=>QV w O (s.makes x).1 (s.makes x).2 e w':=by
 have E:Hid (s.makes x=(match s.at x.a with
  | none=>(1,[])
  | some t=>if s.want x.a 3 true=0 then (match t.2.2[x.k.toNat]? with
   | none=>(9,[])
   | some u=>(0,[u.at 5]))
   else (s.want x.a 3 true,[]))):=Qb7 S
 have S0:=Qg (MkS.start x rg ag rc ac hO hJ h);obtain⟨au,m,xb,xc,xk,N,xr,xs⟩:=x
 simp only at S
 subst S;clear h;go_enter func102,ntmps102
 go_upto_region 33 with fail
 obtain⟨w2,ad⟩:∃ w2,(w.alloc (.cells #[Iv 6,Iv m,Iv xb,Iv xc,Iv xk,Iv N,.slice rg xr.length rc,.slice ag xs.length ac] 78)).alloc (.cells #[Iv 1,Iv 0,Nv] 105)=w2:=⟨_,Yz⟩
 obtain⟨X,hX⟩:∃ X,w.heap.size=X:=⟨_,Yz⟩
 have d:Hid (MkS w w2 b X O s ⟨6,m,xb,xc,xk,N,xr,xs⟩ rg ag rc ac (some ⟨X+1,0,none⟩)):=by rw[<-ad,<-hX];exact S0.out
 rw[ad,hX]
 clear ad hX S0;obtain⟨A,D,v,y,F,G,C⟩:=d.out.cells
 have aq:=d.out.ok.regs;have K:=d.out.ok.vals;go_wp2_with fail
 refine(Q7 m 3 true d.out.ok.regs d.out.ok.vals d.out.known).mono ?_
 rintro e z ⟨rfl,n3,al⟩;have S3:Hid (MkS w z b X O s ⟨6,m,xb,xc,xk,N,xr,xs⟩ rg ag rc ac (some ⟨X+1,0,none⟩)):=d.out.below (by rw[al];exact Qh Zr n3);clear al d A D v y F G C;have d:=S3;clear S3;obtain⟨A,D,v,y,F,G,C⟩:=d.out.cells
 simp only at A D v y F G C aj
 cases hat:s.at m with
 | none =>
   have j:s.want m 3 true=1:=by unfold JSt.want;rw[hat]
   have J:Hid (s.makes ⟨6,m,xb,xc,xk,N,xr,xs⟩=(1,[])):=by
    show _=_;rw[E.out];simp only[hat]
   rw[j]
   clear E j hat;go_wp2
   go_ret2;rw[J.out]
   exact QV.nil d.out.bel
 | some t =>
   by_cases j:s.want m 3 true=0
   ·obtain⟨k,rfl⟩:=Xc aj.1
    obtain⟨-,ao,P,aa⟩:=Qbp hat
    obtain⟨i,rfl⟩:=Xc ao
    obtain⟨pm,cm,a1,c1,a2,c2,a3,c3,hh,aL,cL,R⟩:=d.out.known.read
    obtain⟨q0,q1,q2,q3,q4,q5,q6⟩:=R.cells
    obtain⟨gL,va,vc,rfl,v0,v1,v2,v3,ak⟩:=R.row i t (by simpa using aa)
    have af:Hid (TRd z (fun g=>¬ O g) (some ⟨gL,0,none⟩) s.L):=R.row;clear R q0 q1 q2 q3 q4 q5 v0 v1;have f:t.len=t.2.2.length:=rfl
    cases hu:t.2.2[k]? with
    | none =>
      have J:Hid (s.makes ⟨6,(i:Int),xb,xc,(k:Int),N,xr,xs⟩=(9,[])):=by
       show _=_;rw[E.out];simp only[hat,if_pos j,Int.toNat_natCast,hu]
      have U:(t.len:Int)<=k:=by rw[f];have:=List.getElem?_eq_none_iff.1 hu;omega
      rw[j]
      clear E j hat hu f aa;generalize t.len=tl at v2 U;generalize Q:s.L.length=nl at q6 P K;go_wp2_with fail
      go_quiet (fail)
      go_wp2
      go_ret2;rw[J.out]
      exact QV.nil (Qh d.out.bel _)
    | some u =>
      have ah:(k:Int)<t.len:=by rw[f];have:=(Zi hu).1;omega
      obtain⟨gk,ax,M,uc,rfl,-,u0,u1,u2,u3⟩:=v3 k u hu
      have am:u.ok:=ak.2 u (Zm hu);have HU:Hid (TIn z (fun g=>¬ O g) u M/\u.ok):=⟨u3,am⟩
      have aw:Hid ((u.at 5).count<=100000):=by
       have h1:=QbM (d.out.ok.types t (Qbp hat).1);have h2:=t.count_kid (Zm hu);have h3:=TT.at_count 5 u;show _<=_;omega
      have J:Hid (s.makes ⟨6,(i:Int),xb,xc,(k:Int),N,xr,xs⟩=(0,[u.at 5])):=by
       show _=_;rw[E.out];simp only[hat,if_pos j,Int.toNat_natCast,hu]
      have U:¬ (t.len:Int)<=k:=by omega
      rw[j]
      clear E j hat hu f aa v3 ak u3 am;generalize t.len=tl at v2 U ah;generalize Q:s.L.length=nl at q6 P K;have av:Hid (s.L.length=nl):=Q;clear Q;go_wp2_with fail
      go_quiet (fail)
      have S4:=Qg (d.out.below (Qh Zr nq));have H:Below z.heap.size z (z.drewN nq):=Qh Zr nq;have q:Hid (TIn (z.drewN nq) (fun g=>¬ O g) u M/\u.ok):=⟨HU.out.1.below H,HU.out.2⟩;have n:Hid (TRd (z.drewN nq) (fun g=>¬ O g) (some ⟨gL,0,none⟩) s.L):=af.out.below H;have ab:=Qn q6 H;have W:=Qn v2 H;have V:=Qn u0 H;have T:=Qn u1 H;have ae:=Qn u2 H;clear H;generalize z.drewN nq=w4 at S4 q n ab W V T ae |-;clear q6 v2 u0 u1 u2 HU af d A D v y F G C;have d:=S4;clear S4;obtain⟨A,D,v,y,F,G,C⟩:=d.out.cells
      simp only at A D v y F G C
      go_upto_region 38 with fail
      refine QnZ d ab W V T ae P ah Yz Yz _ _ Yz (Xg (by kernel_rfl)) Yz Yz ?_;rintro an vs w5 o ⟨B,I,hB,l⟩ b5;show wpList _ an _ [_] (QC _ vs [178,179,180,181,182,183,184,185,186,187,188,189,190,12]) w5;simp only[QC,Act.put,List.setIfInBounds_toArray,List.set_cons_zero,List.set_cons_succ,o,I]
      have B6:Hid (Blk (((w5.setCell ⟨B,0,none⟩ (Iv u.kind)).setCell ⟨B,1,none⟩ (Iv u.r)).setCell ⟨B,2,none⟩ (.slice M u.len uc)) B #[Iv u.kind,Iv u.r,.slice M u.len uc] 105):=Blk.set3 l _ _ _
      have b6:Hid (Below w4.heap.size w4 (((w5.setCell ⟨B,0,none⟩ (Iv u.kind)).setCell ⟨B,1,none⟩ (Iv u.r)).setCell ⟨B,2,none⟩ (.slice M u.len uc))) :=
       ((b5.setCell (p:=⟨B,0,none⟩) hB _).setCell (p:=⟨B,1,none⟩) hB _).setCell (p:=⟨B,2,none⟩) hB _
      have e0:=Qa l 0 _ Yz;have e1:=Qa l 1 _ Yz;have e2:=Qa l 2 _ Yz;have ef:∀ i,w5.frozen? ⟨B,i,none⟩=false:=fun i=>Qd l i;clear l hB b5 o I ab W V T ae;go_upto_region 39 with fail
      generalize (((w5.setCell ⟨B,0,none⟩ (Iv u.kind)).setCell ⟨B,1,none⟩ (Iv u.r)).setCell ⟨B,2,none⟩ (.slice M u.len uc))=w6 at B6 b6 |-;have S6:=Qg (d.out.below b6.out);have ai:Hid (TIn w6 (fun g=>¬ O g) u M/\u.ok):=⟨q.out.1.below b6.out,q.out.2⟩;have ar:Hid (TRd w6 (fun g=>¬ O g) (some ⟨gL,0,none⟩) s.L):=n.out.below b6.out;clear d q n e0 e1 e2 ef A D v y F G C;have d:=S6;clear S6;obtain⟨A,D,v,y,F,G,C⟩:=d.out.cells
      simp only at A D v y F G C
      have e0:=Qa B6.out 0 _ Yz;have e1:=Qa B6.out 1 _ Yz;have e2:=Qa B6.out 2 _ Yz
      have Z:Hid (QV w O 0 [u.at 5] (.returned (.tuple #[.slice (some ⟨w6.heap.size,0,none⟩) 1 1,Iv 0])) (w6.alloc (.cells #[Iv u.kind,Iv u.r,.slice M u.len uc] 105))) :=
       ⟨_,1,1,Yz,fun _=>⟨Yz,Ze,QhU w6 O d.out.lt ai.out.1 ai.out.2⟩,d.out.bel.alloc d.out.bel.size _⟩
      clear B6 b6;go_wp2
      go_ret2;rw[J.out]
      exact Z.out
   ·have ap:(s.want m 3 true==0)=false:=beq_eq_false_iff_ne.2 j
    have J:Hid (s.makes ⟨6,m,xb,xc,xk,N,xr,xs⟩=(s.want m 3 true,[])):=by
     show _=_;rw[E.out];simp only[hat,if_neg j]
    have HW:=Qg j;clear E hat j;generalize s.want m 3 true=c at J ap HW |-;go_wp2
    go_ret2;rw[J.out]
    exact QV.nil d.out.bel
def Qnz (b X B gL nl cL j uc yc:Nat) (u y:TT 6) (ua ya:Option Addr) (q:Bool) (t:Tmp) (v:Value) (w:World):Prop :=
 v=(([(0,Pv b 0),(3,Pv X 0),(12,Pv B 0),(209,.agg #[Iv u.kind,Iv u.r,.slice ua u.len uc]),(210,Pv b 0),(211,Pv b 0),(212,Pv b 6),(213,.slice (some ⟨gL,0,none⟩) nl cL),(214,Pv X 2),(215,Iv (j:Int)),(216,Pv gL (j*3)),(217,.agg #[Iv y.kind,Iv y.r,.slice ya y.len yc]),(218,.bool q),(219,.bool (!q))]:List (Tmp × Value)).lookup t).getD undef
theorem Qow {s:JSt}{x:Qx}{rg:Option Addr}{na:Option Addr}(HS:Hid (MkS w w2 b X O s x rg ag rc ac na)){g E p z:Nat}{u y:TT 6}{i k:Option Addr}{q:Bool}{Q R:Nat->Prop}(L:w2.cell? ⟨B,0,none⟩=some (Iv u.kind)) (V:w2.cell? ⟨B,1,none⟩=some (Iv u.r)) (P:w2.cell? ⟨B,2,none⟩=some (.slice i u.len p)) (N:w2.cell? ⟨b,6,none⟩=some (.slice (some ⟨g,0,none⟩) E cL)) (M:w2.cell? ⟨g,j*3,none⟩=some (Iv y.kind)) (S:w2.cell? ⟨g,j*3+1,none⟩=some (Iv y.r)) (v2:w2.cell? ⟨g,j*3+2,none⟩=some (.slice k y.len z)) (J:(j:Int)<E) (F:x.b=(j:Int)) (HU:Hid (TIn w2 Q u i)) (HV:Hid (TIn w2 R y k)) (T:Hid (u.count<=100000)) (HQ:Hid (q=true↔u=y))
 (a:Act) (m:Nat) (hn:a.tmps.size=m) (o:365<=m) (W:a.tmps.getD 0 undef=Pv b 0) (h3:a.tmps.getD 3 undef=Pv X 0) (D:a.tmps.getD 12 undef=Pv B 0) :
 Code.wp prog ((Tryz.f102.body.bind (Qf 43)).getD .skip) (fun e a' w'=>e=.normal/\∃ vs,a'=QC a vs [209,210,211,212,213,214,215,216,217,218,219]/\vs 219=.bool (!q)/\Below w2.heap.size w2 w') a w2:=by
 conv=>arg 2;whnf
 refine Qu (Qnz b X B g E cL j p z u y i k q) (fun w=>Below w2.heap.size w2 w) (fun w w'=>Below w.heap.size w w') (outs:=[0,3,12]) (gs:=[]) (bs:=[true,true,true,true,true,true,true,true,true,true,true]) (by kernel_rfl) (n:=365) hn o (by kernel_rfl) ?hR ?hG (Qh Zr 1) ⟨W,h3,D,Y⟩ ?hA ?hend
 case hR=>exact fun t v w w' _ h=>h
 case hG=>exact Y
 case hend=>exact fun vs w' c f=>⟨Z,vs,Z,f 219 (by kernel_rfl),c⟩
 case hA =>
  repeat
   refine⟨fun a w c f K l=>?_,?_⟩
   focus first
    | obtain⟨d,-⟩:=f
      conv at d=>whnf;rhs;whnf
      have I:=Qn L c;have c1:=Qn V c;have c2:=Qn P c;have c3:=Qn N c;have c4:=Qn M c;have c5:=Qn S c;have c6:=Qn v2 c;go_simp;exact l _ _ Zr c Z
    | obtain⟨d,C,-⟩:=f
      conv at d=>whnf;rhs;whnf
      conv at C=>whnf;rhs;whnf
      go_simp;exact l _ _ Zr c Z
    | obtain⟨d,-⟩:=f
      conv at d=>whnf;rhs;whnf
      have I:=(HS.out.below c).cells.2.2.1;rw[F] at I
      go_simp;exact l _ _ Zr c Z
    | obtain⟨d,C,-⟩:=f
      conv at d=>whnf;rhs;whnf
      conv at C=>whnf;rhs;whnf
      go_simp;refine(samet_any 6 u y i k p z w (HU.out.below c).all (HV.out.below c).all T.out).mono ?_;rintro r7 w7 ⟨⟨U,rfl,G⟩,H⟩
      have A:U=q:=Bool.eq_iff_iff.2 (G.trans HQ.out.symm);subst A;go_simp;exact l _ _ H (c.trans (H.mono c.size)) Z
  trivial
theorem Qht {s:JSt}{x:Qx}{rg:Option Addr}(hO:∀ k,O k->k<w.heap.size) (hJ:JOk s) (h:KAt w b O s) (a5:0<=x.k/\x.k<=7) (am:x.op=7) :
 Calls prog 102 #[Pv b 0,QfX x rg ag rc ac] w fun e w'=>QV w O (s.makes x).1 (s.makes x).2 e w':=by
 have E:Hid (s.makes x=(match s.at x.a with
  | none=>(1,[])
  | some t=>if s.want x.a 3 true=0 then (match t.2.2[x.k.toNat]? with
   | none=>(9,[])
   | some u=>(match s.at x.b with
     | none=>(1,[])
     | some v=>if bdec (u.at 5=v) then (0,[]) else (9,[])))
   else (s.want x.a 3 true,[]))):=Qca am
 have S0:=Qg (MkS.start x rg ag rc ac hO hJ h);obtain⟨bt,D,o,W,xk,J,P,S⟩:=x
 simp only at am
 subst am;clear h;go_enter func102,ntmps102
 go_upto_region 33 with fail
 obtain⟨w2,av⟩:∃ w2,(w.alloc (.cells #[Iv 7,Iv D,Iv o,Iv W,Iv xk,Iv J,.slice rg P.length rc,.slice ag S.length ac] 78)).alloc (.cells #[Iv 1,Iv 0,Nv] 105)=w2:=⟨_,Z⟩
 obtain⟨X,hX⟩:∃ X,w.heap.size=X:=⟨_,Z⟩
 have d:Hid (MkS w w2 b X O s ⟨7,D,o,W,xk,J,P,S⟩ rg ag rc ac (some ⟨X+1,0,none⟩)):=by rw[<-av,<-hX];exact S0.out
 rw[av,hX]
 clear av hX S0;obtain⟨N,T,K,M,U,V,Q⟩:=d.out.cells
 have bq:=d.out.ok.regs;have ah:=d.out.ok.vals;go_wp2_with fail
 refine(Q7 D 3 true d.out.ok.regs d.out.ok.vals d.out.known).mono ?_
 rintro e w3 ⟨rfl,n3,ba⟩;have S3:Hid (MkS w w3 b X O s ⟨7,D,o,W,xk,J,P,S⟩ rg ag rc ac (some ⟨X+1,0,none⟩)):=d.out.below (by rw[ba];exact Qh Zr n3);clear ba d N T K M U V Q;have d:=S3;clear S3;obtain⟨N,T,K,M,U,V,Q⟩:=d.out.cells
 simp only at N T K M U V Q a5
 cases hat:s.at D with
 | none =>
   have z:s.want D 3 true=1:=by unfold JSt.want;rw[hat]
   have l:Hid (s.makes ⟨7,D,o,W,xk,J,P,S⟩=(1,[])):=by
    show _=_;rw[E.out];simp only[hat]
   rw[z]
   clear E z hat;go_wp2
   go_ret2;rw[l.out]
   exact QV.nil d.out.bel
 | some t =>
   by_cases z:s.want D 3 true=0
   ·obtain⟨k,rfl⟩:=Xc a5.1
    obtain⟨-,bm,ak,aq⟩:=Qbp hat
    obtain⟨i,rfl⟩:=Xc bm
    obtain⟨pm,cm,a1,c1,a2,c2,a3,c3,hh,aL,cL,R⟩:=d.out.known.read
    obtain⟨q0,q1,q2,q3,q4,q5,q6⟩:=R.cells
    obtain⟨gL,va,vc,rfl,v0,v1,v2,v3,a7⟩:=R.row i t (by simpa using aq)
    have ax:Hid (TRd w3 (fun g=>¬ O g) (some ⟨gL,0,none⟩) s.L):=R.row;clear R q0 q1 q2 q3 q4 q5 v0 v1;have m:t.len=t.2.2.length:=rfl
    cases hu:t.2.2[k]? with
    | none =>
      have l:Hid (s.makes ⟨7,(i:Int),o,W,(k:Int),J,P,S⟩=(9,[])):=by
       show _=_;rw[E.out];simp only[hat,if_pos z,Int.toNat_natCast,hu]
      have ao:(t.len:Int)<=k:=by rw[m];have:=List.getElem?_eq_none_iff.1 hu;omega
      rw[z]
      clear E z hat hu m aq;generalize t.len=tl at v2 ao;generalize al:s.L.length=nl at q6 ak ah;go_wp2_with fail
      go_quiet (fail)
      go_wp2
      go_ret2;rw[l.out]
      exact QV.nil (Qh d.out.bel _)
    | some u =>
      have ay:(k:Int)<t.len:=by rw[m];have:=(Zi hu).1;omega
      obtain⟨gk,bu,ua,uc,rfl,-,u0,u1,u2,u3⟩:=v3 k u hu
      have bb:u.ok:=a7.2 u (Zm hu);have HU:Hid (TIn w3 (fun g=>¬ O g) u ua/\u.ok):=⟨u3,bb⟩
      have bp:Hid ((u.at 5).count<=100000):=by
       have h1:=QbM (d.out.ok.types t (Qbp hat).1);have h2:=t.count_kid (Zm hu);have h3:=TT.at_count 5 u;show _<=_;omega
      have l:Hid (s.makes ⟨7,(i:Int),o,W,(k:Int),J,P,S⟩=(match s.at o with | none=>(1,[]) | some v=>if bdec (u.at 5=v) then (0,[]) else (9,[]))):=by
       show _=_;rw[E.out];simp only[hat,if_pos z,Int.toNat_natCast,hu]
      have ao:¬ (t.len:Int)<=k:=by omega
      rw[z]
      clear E z hat hu m aq v3 a7 u3 bb;generalize t.len=tl at v2 ao ay;generalize al:s.L.length=nl at q6 ak ah;have ad:Hid (s.L.length=nl):=al;clear al;go_wp2_with fail
      go_quiet (fail)
      have S4:=Qg (d.out.below (Qh Zr nq));have b4:Below w3.heap.size w3 (w3.drewN nq):=Qh Zr nq;have ab:Hid (TIn (w3.drewN nq) (fun g=>¬ O g) u ua/\u.ok):=⟨HU.out.1.below b4,HU.out.2⟩;have F:Hid (TRd (w3.drewN nq) (fun g=>¬ O g) (some ⟨gL,0,none⟩) s.L):=ax.out.below b4;have C:=Qn q6 b4;have n:=Qn v2 b4;have ap:=Qn u0 b4;have an:=Qn u1 b4;have aw:=Qn u2 b4;clear b4;generalize w3.drewN nq=w4 at S4 ab F C n ap an aw |-;clear q6 v2 u0 u1 u2 HU ax d N T K M U V Q;have d:=S4;clear S4;obtain⟨N,T,K,M,U,V,Q⟩:=d.out.cells
      simp only at N T K M U V Q
      go_upto_region 38 with fail
      refine QnZ d C n ap an aw ak ay Z Z _ _ Z (Xg (by kernel_rfl)) Z Z ?_;rintro bl vs w5 I ⟨B,af,hB,A⟩ b5;show wpList _ bl _ [_] (QC _ vs [178,179,180,181,182,183,184,185,186,187,188,189,190,12]) w5;simp only[QC,Act.put,List.setIfInBounds_toArray,List.set_cons_zero,List.set_cons_succ,I,af]
      have B6:Hid (Blk (((w5.setCell ⟨B,0,none⟩ (Iv u.kind)).setCell ⟨B,1,none⟩ (Iv u.r)).setCell ⟨B,2,none⟩ (.slice ua u.len uc)) B #[Iv u.kind,Iv u.r,.slice ua u.len uc] 105):=Blk.set3 A _ _ _
      have b6:Hid (Below w4.heap.size w4 (((w5.setCell ⟨B,0,none⟩ (Iv u.kind)).setCell ⟨B,1,none⟩ (Iv u.r)).setCell ⟨B,2,none⟩ (.slice ua u.len uc))) :=
       ((b5.setCell (p:=⟨B,0,none⟩) hB _).setCell (p:=⟨B,1,none⟩) hB _).setCell (p:=⟨B,2,none⟩) hB _
      have e0:=Qa A 0 _ Z;have e1:=Qa A 1 _ Z;have e2:=Qa A 2 _ Z;have ef:∀ i,w5.frozen? ⟨B,i,none⟩=false:=fun i=>Qd A i;clear A hB b5 I af C n ap an aw;go_upto_region 39 with fail
      generalize (((w5.setCell ⟨B,0,none⟩ (Iv u.kind)).setCell ⟨B,1,none⟩ (Iv u.r)).setCell ⟨B,2,none⟩ (.slice ua u.len uc))=H at B6 b6 |-;have S6:=Qg (d.out.below b6.out);have az:Hid (TIn H (fun g=>¬ O g) u ua/\u.ok):=⟨ab.out.1.below b6.out,ab.out.2⟩;have bc:Hid (TRd H (fun g=>¬ O g) (some ⟨gL,0,none⟩) s.L):=F.out.below b6.out;clear d ab F e0 e1 e2 ef N T K M U V Q;have d:=S6;clear S6;obtain⟨N,T,K,M,U,V,Q⟩:=d.out.cells
      simp only at N T K M U V Q
      have e0:=Qa B6.out 0 _ Z;have e1:=Qa B6.out 1 _ Z;have e2:=Qa B6.out 2 _ Z;have ar:u.height<=5:=by have h9:u.height<5:=TT.height_lt u;omega
      rw[<-TT.at_kind 5 u] at e0
      rw[<-TT.at_r 5 u] at e1
      rw[<-TT.at_len 5 u ar] at e2
      have au:Hid (TIn H (fun g=>¬ O g) (u.at 5) ua):=az.out.1.at 5 ar;have a8:Hid ((u.at 5).count<=100000):=bp.out;obtain⟨bw,bv,b0,br,b2,b3,bx,bz,bs,bo,b1,R'⟩:=d.out.known.read
      obtain⟨-,-,-,-,-,-,q6⟩:=R'.cells
      have aj:Hid (TRd H (fun g=>¬ O g) bo s.L):=R'.row;rw[ad.out] at q6
      clear R' az bc B6 ar;generalize u.at 5=u6 at e0 e1 e2 au a8 l;by_cases f:o<0
      ·have bk:decide (o<0)=true:=Xt f
       have E3:Hid (s.makes ⟨7,(i:Int),o,W,(k:Int),J,P,S⟩=(1,[])):=by
        show _=_
        have:s.at o=none:=by unfold JSt.at;rw[Xs f]
        rw[l.out,this]
       clear l f;go_wp2_with fail
       go_quiet (fail)
       go_wp2
       go_ret2;rw[E3.out]
       exact QV.nil (Qh d.out.bel _)
      obtain⟨j,rfl⟩:=Xc (show 0<=o by omega)
      have bk:decide ((j:Int)<0)=false:=Xu (by omega);by_cases bd:j<nl
      ·have ae:s.L[j]?=some (s.L[j]'(by rw[ad.out];exact bd)):=Zg _;generalize s.L[j]'(by rw[ad.out];exact bd)=y at ae;have ai:s.at (j:Int)=some y:=by unfold JSt.at;rw[Xr f];exact ae
       have E3:Hid (s.makes ⟨7,(i:Int),(j:Int),W,(k:Int),J,P,S⟩=if bdec (u6=y) then (0,[]) else (9,[])):=by
        show _=_;rw[l.out,ai]
       obtain⟨gY,ya,yc,rfl,v0,v1,v2,v3,-⟩:=aj.out j y ae
       have a4:decide ((nl:Int)<=j)=false:=Xu (by omega);have be:(j:Int)<nl:=by omega
       have HY:Hid (TIn H (fun g=>¬ O g) y ya):=v3;clear l f ae ai v3 aj;go_wp2_with fail
       go_quiet (fail)
       have G:Below H.heap.size H (H.drewN nq):=Qh Zr nq;have S7:=Qg (d.out.below G);have bh:Hid (TIn (H.drewN nq) (fun g=>¬ O g) u6 ua):=au.out.below G;have a6:Hid (TIn (H.drewN nq) (fun g=>¬ O g) y ya):=HY.out.below G;have C:=Qn q6 G;have bf:=Qn e0 G;have a0:=Qn e1 G;have a9:=Qn e2 G;have bg:=Qn v0 G;have bi:=Qn v1 G;have n:=Qn v2 G;clear G b6;generalize H.drewN nq=w7 at S7 bh a6 C bf a0 a9 bg bi n |-;clear q6 e0 e1 e2 v0 v1 v2 d au HY N T K M U V Q;have HQ:Hid (bdec (u6=y)=true↔u6=y):=QcU;go_upto_region 43 with fail
       refine Code.wp_mono ?_ (Qow S7 bf a0 a9 C bg bi n be Z bh a6 a8 HQ _ _ Z (Xg (by kernel_rfl)) Z Z Z);rintro ee aa w8 ⟨rfl,vs,rfl,hv,bj⟩;simp only[QC,Act.put,List.setIfInBounds_toArray,List.set_cons_zero,List.set_cons_succ,hv]
       have B8:=Qg (S7.out.below bj).bel;clear bj hv HQ;generalize bdec (u6=y)=q at E3 |-
       cases q with
       | true =>
         go_wp2
         go_ret2;rw[E3.out]
         exact QV.nil B8.out
       | false =>
         go_wp2
         go_ret2;rw[E3.out]
         exact QV.nil B8.out
      ·have E3:Hid (s.makes ⟨7,(i:Int),(j:Int),W,(k:Int),J,P,S⟩=(1,[])):=by
        show _=_
        have:s.at (j:Int)=none:=by unfold JSt.at;rw[Xr f,XT,Xk (by rw[ad.out];omega)]
        rw[l.out,this]
       have a4:decide ((nl:Int)<=j)=true:=Xt (by omega);clear l f;go_wp2_with fail
       go_quiet (fail)
       go_wp2
       go_ret2;rw[E3.out]
       exact QV.nil (Qh d.out.bel _)
   ·have bn:(s.want D 3 true==0)=false:=beq_eq_false_iff_ne.2 z
    have l:Hid (s.makes ⟨7,D,o,W,xk,J,P,S⟩=(s.want D 3 true,[])):=by
     show _=_;rw[E.out];simp only[hat,if_neg z]
    have HW:=Qg z;clear E hat z;generalize s.want D 3 true=c at l bn HW |-;go_wp2
    go_ret2;rw[l.out]
    exact QV.nil d.out.bel
structure Tup (wA wr:World) (B:Nat) (O:Nat->Prop) (r:Int) (v:Value) (l:List (TT 6)):Prop where
 bel:Below wA.heap.size wA wr
 hB:wA.heap.size<=B
 box:Blk wr B #[Iv 3,Iv r,v] 105
 row:∃ xs,wr.ownsRow (B+1) 105 3 v l.length xs/\∀ i x,l[i]?=some x->(Lay.tt 6).In wr (fun g=>¬ O g/\g<wA.heap.size) x ((xs.drop (i*3)).take 3)
section
variable {wA wr w':World}{B:Nat}{O:Nat->Prop}{r:Int}{v:Value}{l:List (TT 6)}
theorem Tup.below (h:Tup wA wr B O r v l) (k:Below wr.heap.size wr w'):Tup wA w' B O r v l:=by
 obtain⟨d,p,e,j,⟨o,t⟩,m⟩:=h
 refine⟨d.trans (k.mono d.size),p,(k.block B (XC e)).trans e,j,⟨o,?_⟩,fun i x f=>Ya (m i x f) k⟩
 rcases t with s | ⟨g,a,b,rfl,n,c,q⟩
 ·exact Or.inl s
 ·exact Or.inr ⟨g,a,b,Z,n,(k.block g (XC c)).trans c,q⟩
theorem Tup.form (h:Tup wA wr B O r v l):∃ a c xs,v=.slice a l.length c/\wr.ownsRow (B+1) 105 3 (.slice a l.length c) l.length xs/\(∀ i x,l[i]?=some x->(Lay.tt 6).In wr (fun g=>¬ O g/\g<wA.heap.size) x ((xs.drop (i*3)).take 3))/\wr.cell? ⟨B,2,none⟩=some (.slice a l.length c):=by
 obtain⟨s,o,f,xs,b,j⟩:=h
 obtain⟨t,m⟩:=id b
 rcases m with ⟨rfl,e⟩|⟨g,d,k,rfl,p,n,q⟩
 ·refine⟨none,0,xs,by rw[e],by rw[e] at b |-;exact b,j,?_⟩
  rw[Qa f 2 _ Z,e];rfl
 ·exact⟨some ⟨g,0,none⟩,d,xs,Z,b,j,Qa f 2 _ Z⟩
theorem Tup.tree (h:Tup wA wr B O r v l) (F:∀ k,O k->k<wA.heap.size):∃ a c,v=.slice a l.length c/\TIn wr (fun g=>¬ O g) (mkT 3 r l:TT 7) a/\∀ x∈l,x.ok:=by
 obtain⟨a,c,z,rfl,I,t,-⟩:=h.form
 refine⟨a,c,Z,fun i x b=>?_,fun x b=>?_⟩
 ·obtain⟨M,y⟩:=I
  have s:i<l.length:=(Zi b).1;rcases y with ⟨_,K⟩|⟨g,G,w,e,L,D,Q,J,N,H⟩
  ·omega
  ·obtain⟨q,p,o,n,f⟩:=t i x b
   have P:=h.hB
   have d:∀ j u,j<3->((z.drop (i*3)).take 3)[j]?=some u->wr.cell? ⟨g,i*3+j,none⟩=some u:=fun j u E m=>by
    rw[XR,Xs E,List.getElem?_drop,<-H,XR,Xs (by omega),Array.getElem?_toList] at m
    exact Qa D _ u m
   rw[o] at d
   simp only[Value.slice.injEq] at e
   refine⟨g,0,q,p,e.1,fun A=>by have:=F g A;omega,?_,?_,?_,n.mono (fun k C _=>C.1)⟩
   ·rw[XK];exact d 0 _ (by omega) Z
   ·rw[XK];exact d 1 _ (by omega) Z
   ·rw[XK];exact d 2 _ (by omega) Z
 ·obtain⟨i,s⟩:=List.getElem?_of_mem b
  obtain⟨q,p,o,n,f⟩:=t i x s
  exact f
theorem Tup.push {w9:World}{t:TT 6}{s:Option Addr}{A:Nat}(b:Below wA.heap.size wA wr) (N:wA.heap.size<=B) (j:Blk wr B #[Iv 3,Iv r,.slice a l.length c] 105)
 (m:∀ i x,l[i]?=some x->(Lay.tt 6).In wr (fun g=>¬ O g/\g<wA.heap.size) x ((xs.drop (i*3)).take 3)) (p:xs.length=l.length*3) (P:TIn wr (fun g=>¬ O g/\g<wA.heap.size) t s) (D:t.ok) (d:∀ k,(Value.slice a l.length c).ownBlock=some k->B+1<=k)
 (K:w9.ownsRow (B+1) 105 3 (.slice (some ⟨g,0,none⟩) (l.length+1) cap) (l.length+1) (xs++[Iv t.kind,Iv t.r,.slice s t.len A])) (n:wr.grownBy w9 (Value.slice a l.length c).ownBlock) :
 w9.cell? ⟨B,2,none⟩=some (.slice a l.length c)/\w9.frozen? ⟨B,2,none⟩=false/\Tup wA (w9.setCell ⟨B,2,none⟩ (.slice (some ⟨g,0,none⟩) (l.length+1) cap)) B O r (.slice (some ⟨g,0,none⟩) (l.length+1) cap) (l++[t]):=by
 have w:B<wr.heap.size:=XC j;have z:w9.heap[B]?=some (.cells #[Iv 3,Iv r,.slice a l.length c] 105 (0,0)):=(n.block B w (fun e=>by have:=d B e.symm;omega)).trans j
 have f:∀ {x:TT 6} {y:List Value},(Lay.tt 6).In wr (fun g=>¬ O g/\g<wA.heap.size) x y->(Lay.tt 6).In (w9.setCell ⟨B,2,none⟩ (.slice (some ⟨g,0,none⟩) (l.length+1) cap)) (fun g=>¬ O g/\g<wA.heap.size) x y:=fun {x y} h =>
  (Lay.tt 6).keep (fun k o F=>(Xd _ _ _ _ (show k≠B by have:=o.2;omega)).trans (n.block k F (fun e=>by have:=d k e.symm;have:=o.2;omega))) (fun _ o _=>o) h
 refine⟨Qa z 2 _ Z,Qd z 2,?_,N,?_,xs++[Iv t.kind,Iv t.r,.slice s t.len A],?_,?_⟩
 ·refine⟨n.os.trans b.os,n.tape.trans b.tape,n.output.trans b.output,by have:=n.size;have:=b.size;simp;omega,fun k o=>?_⟩
  have L:=b.size;rw[Xd _ _ _ _ (show k≠B by omega),n.block k (by omega) (fun e=>by have:=d k e.symm;omega)]
  exact b.block k o
 ·show (w9.setCell ⟨B,2,none⟩ _).heap[B]?=_;rw[Qm z];rfl
 ·obtain⟨H,I⟩:=K
  rw[List.length_append]
  refine⟨H,?_⟩
  rcases I with ⟨e,_⟩|⟨Q,E,v,e,G,M,q⟩
  ·cases e
  ·cases e
   exact Or.inr ⟨g,cap,v,Z,G,(Xd _ _ _ _ (show g≠B by omega)).trans M,q⟩
 ·intro i x h;rw[List.getElem?_append] at h
  split at h
  ·rename_i J
   rw[List.drop_append_of_le_length (by omega),List.take_append_of_le_length (by simp;omega)]
   exact f (m i x h)
  ·rename_i J
   have C:=(Zi h).1;have u:i=l.length:=by simp at C;omega
   subst u;rw[Nat.sub_self] at h
   have h:t=x:=by simpa using h
   subst h;rw[List.drop_append,List.drop_of_length_le (by omega),p,Nat.sub_self,List.drop_zero,List.nil_append]
   exact f ⟨s,A,Z,P,D⟩
end
theorem Qc1 {s:JSt}{l:List Int}{x:Int}(a:l[k]?=some x):s.fields (l.drop k)=match s.at x with
 | none=>none
 | some t=>match s.fields (l.drop (k+1)) with
   | none=>none
   | some r=>some (t::r):=by
 obtain⟨b,e⟩:=Zi a
 rw[List.drop_eq_getElem_cons b,e,JSt.fields]
 cases s.at x with
 | none=>rfl
 | some t=>cases s.fields (l.drop (k+1))<;>rfl
theorem Qch {s:JSt}{l:List Int}:∀ (k:Nat) (ts:List (TT 6)),k<=l.length->ts.length=k->(∀ (i:Nat) (x:Int),l[i]?=some x->i<k->s.at x=ts[i]?)->s.fields l=(s.fields (l.drop k)).map (ts++·)
 | 0,ts,_,h,_=>by
   have:ts=[]:=Xf.1 h
   subst this;simp
 | k+1,ts,hk,h,hs=>by
   have a:k<l.length:=by omega
   have d:l[k]?=some l[k]:=Zg a;have e:ts[k]?=some (ts[k]'(by omega)):=Zg _;have f:=Qch (s:=s) (l:=l) k (ts.take k) (by omega) (by rw[List.length_take];omega) (fun i x g b=>by rw[hs i x g (by omega),XR,Xs b]);rw[f,Qc1 d,hs k _ d (by omega),e]
   simp only
   cases s.fields (l.drop (k+1)) with
   | none=>rfl
   | some r =>
     simp only[Option.map_some]
     congr 1
     have:ts=ts.take k++[ts[k]'(by omega)]:=by
      have c:=List.take_append_drop k ts;rw[List.drop_eq_getElem_cons (by omega),List.drop_of_length_le (by omega)] at c
      exact c.symm
     rw[<-List.singleton_append,<-List.append_assoc,<-this]
def Qna (w2:World) (b X gL nl cL i:Nat) (r:Int) (t:Tmp) (v:Value) (w:World):Prop :=
 match ([(9,fun v w=>∃ B,v=.pointer (some ⟨B,0,none⟩)/\w2.heap.size<=B/\Blk w B #[.int .i64 0,.int .i64 0,.slice none 0 0] 105)]:List (Tmp × (Value->World->Prop))).lookup t with
 | some p=>p v w
 | none=>v=(([(0,.pointer (some ⟨b,0,none⟩)),(3,.pointer (some ⟨X,0,none⟩)),(98,.pointer (some ⟨b,0,none⟩)),(99,.pointer (some ⟨b,0,none⟩)),(100,.pointer (some ⟨b,6,none⟩)),(101,.slice (some ⟨gL,0,none⟩) nl cL),(102,.pointer (some ⟨X,1,none⟩)),(103,.int .i64 (i:Int)),(104,.pointer (some ⟨gL,i*3,none⟩)),(105,.pointer (some ⟨gL,i*3+1,none⟩)),(106,.int .i64 r),(107,.agg #[.int .i64 3,.int .i64 r,.slice none 0 0])]:List (Tmp × Value)).lookup t).getD undef
theorem Qop {O:Nat->Prop}{s:JSt}{x:Qx}{I:Option Addr}{H:Option Addr}(L:Hid (MkS w w2 b X O s x I ag rc ac H)){l q:Nat}{r:Int}(A:w2.cell? ⟨b,6,none⟩=some (.slice (some ⟨l,0,none⟩) q cL)) (C:w2.cell? ⟨l,i*3+1,none⟩=some (Iv r)) (z:(i:Int)<q) (o:x.a=(i:Int))
 (a:Act) (m:Nat) (hn:a.tmps.size=m) (k:365<=m) (D:a.tmps.getD 0 undef=Pv b 0) (F:a.tmps.getD 3 undef=Pv X 0)
 (hend:∀ ops vs w',vs 107=.agg #[Iv 3,Iv r,Nv]->(fun v w=>∃ B,v=Pv B 0/\w2.heap.size<=B/\Blk w B #[Iv 0,Iv 0,Nv] 105) (vs 9) w'->Below w2.heap.size w2 w'->wpList prog ops Q (QaI 11 ((Tryz.f102.body.bind (Qf 21)).getD .skip)) (QC a vs [98,99,100,101,102,103,104,105,106,107,9]) w') :
 Code.wp prog ((Tryz.f102.body.bind (Qf 21)).getD .skip) Q a w2:=by
 conv=>arg 2;whnf
 refine Qj 11 (Qna w2 b X l q cL i r) (fun w=>Below w2.heap.size w2 w) (fun w w'=>Below w.heap.size w w') (outs:=[0,3]) (gs:=[]) (bs:=[true,true,true,true,true,true,true,true,true,true,true]) (by kernel_rfl) (n:=365) hn k (by kernel_rfl) (by kernel_rfl) ?hR ?hG (Qh Zr 1) ⟨D,F,Y⟩ ?hA ?hend
 case hR =>
  intro t v w w' J h;unfold Qna at h |-;split at h
  ·rename_i p j
   simp only[List.lookup_cons,List.lookup_nil] at j
   split at j
   ·cases j;exact(by obtain⟨B,e,E,u⟩:=h;exact⟨B,e,E,(J.block B (XC u)).trans u⟩)
   ·cases j
  ·exact h
 case hG=>exact Y
 case hend=>exact fun ops vs w' c f=>hend ops vs w' (f 107 (by kernel_rfl)) (f 9 (by kernel_rfl)) c
 case hA =>
  repeat
   refine⟨fun a w c f K g=>?_,?_⟩
   focus first
    | obtain⟨d,-⟩:=f
      conv at d=>whnf;rhs;whnf
      have y:=Qn A c;have M:=Qn C c;go_simp;exact g _ _ Zr c Z
    | clear f
      go_simp;exact g _ _ (ZR _ _) (c.alloc c.size _) ⟨_,Z,c.size,Qe _ _ _⟩
    | obtain⟨d,G,-⟩:=f
      conv at d=>whnf;rhs;whnf
      conv at G=>whnf;rhs;whnf
      go_simp;exact g _ _ Zr c Z
    | obtain⟨d,-⟩:=f
      conv at d=>whnf;rhs;whnf
      simp only[Za] at d
      go_simp;exact g _ _ Zr c Z
    | obtain⟨d,-⟩:=f
      conv at d=>whnf;rhs;whnf
      have y:=(L.out.below c).cells.2.1;rw[o] at y
      go_simp;exact g _ _ Zr c Z
  trivial
def QmE (w2:World) (b X B tn tc gL nl cL lg lo N lc k j uc:Nat) (u:TT 6) (ta ua:Option Addr) (t:Tmp) (v:Value) (w:World):Prop :=
 match ([(147,fun v w=>∃ G,v=.slice (some ⟨G,0,none⟩) 1 1/\w2.heap.size<=G/\Blk w G #[.int .i64 u.kind,.int .i64 u.r,.slice ua u.len uc] 105)]:List (Tmp × (Value->World->Prop))).lookup t with
 | some p=>p v w
 | none=>v=(([(0,.pointer (some ⟨b,0,none⟩)),(3,.pointer (some ⟨X,0,none⟩)),(9,.pointer (some ⟨B,0,none⟩)),(10,.int .i64 (k:Int)),(134,.pointer (some ⟨B,2,none⟩)),(135,.slice ta tn tc),(136,.pointer (some ⟨b,0,none⟩)),(137,.pointer (some ⟨b,0,none⟩)),(138,.pointer (some ⟨b,6,none⟩)),(139,.slice (some ⟨gL,0,none⟩) nl cL),(140,.pointer (some ⟨X,7,none⟩)),(141,.slice (some ⟨lg,lo,none⟩) N lc),(142,.int .i64 (k:Int)),(143,.pointer (some ⟨lg,lo+k,none⟩)),(144,.int .i64 (j:Int)),(145,.pointer (some ⟨gL,j*3,none⟩)),(146,.agg #[.int .i64 u.kind,.int .i64 u.r,.slice ua u.len uc])]:List (Tmp × Value)).lookup t).getD undef
theorem QoP {B q A g D s lo F o:Nat}{u:TT 6}{y z:Option Addr}(T:w2.cell? ⟨B,2,none⟩=some (.slice y q A)) (J:w2.cell? ⟨b,6,none⟩=some (.slice (some ⟨g,0,none⟩) D cL)) (l7:w2.cell? ⟨X,7,none⟩=some (.slice (some ⟨s,lo,none⟩) N F)) (S:w2.cell? ⟨s,lo+k,none⟩=some (Iv (j:Int))) (I:w2.cell? ⟨g,j*3,none⟩=some (Iv u.kind)) (L:w2.cell? ⟨g,j*3+1,none⟩=some (Iv u.r)) (U:w2.cell? ⟨g,j*3+2,none⟩=some (.slice z u.len o)) (W:(k:Int)<N) (H:(j:Int)<D)
 (a:Act) (m:Nat) (hn:a.tmps.size=m) (l:365<=m) (M:a.tmps.getD 0 undef=Pv b 0) (P:a.tmps.getD 3 undef=Pv X 0) (h9:a.tmps.getD 9 undef=Pv B 0) (x:a.tmps.getD 10 undef=Iv (k:Int))
 (hend:∀ ops vs w',vs 135=.slice y q A->(fun v w=>∃ G,v=.slice (some ⟨G,0,none⟩) 1 1/\w2.heap.size<=G/\Blk w G #[Iv u.kind,Iv u.r,.slice z u.len o] 105) (vs 147) w'->Below w2.heap.size w2 w'->wpList prog ops Q (QaI 14 ((Tryz.f102.body.bind (Qf 27)).getD .skip)) (QC a vs [134,135,136,137,138,139,140,141,142,143,144,145,146,147]) w') :
 Code.wp prog ((Tryz.f102.body.bind (Qf 27)).getD .skip) Q a w2:=by
 conv=>arg 2;whnf
 refine Qj 14 (QmE w2 b X B q A g D cL s lo N F k j o u y z) (fun w=>Below w2.heap.size w2 w) (fun w w'=>Below w.heap.size w w') (outs:=[0,3,9,10]) (gs:=[]) (bs:=[true,true,true,true,true,true,true,true,true,true,true,true,true,true]) (by kernel_rfl) (n:=365) hn l (by kernel_rfl) (by kernel_rfl) ?hR ?hG (Qh Zr 1) ⟨M,P,h9,x,Y⟩ ?hA ?hend
 case hR =>
  intro t v w w' V h;unfold QmE at h |-;split at h
  ·rename_i p i
   simp only[List.lookup_cons,List.lookup_nil] at i
   split at i
   ·cases i;exact(by obtain⟨G,e,O,E⟩:=h;exact⟨G,e,O,(V.block G (XC E)).trans E⟩)
   ·cases i
  ·exact h
 case hG=>exact Y
 case hend=>exact fun ops vs w' c f=>hend ops vs w' (f 135 (by kernel_rfl)) (f 147 (by kernel_rfl)) c
 case hA =>
  repeat
   refine⟨fun a w c f K C=>?_,?_⟩
   focus first
    | obtain⟨d,-⟩:=f
      conv at d=>whnf;rhs;whnf
      have c0:=Qn T c;have c1:=Qn J c;have c2:=Qn l7 c;have c3:=Qn S c;have c4:=Qn I c;have c5:=Qn L c;have c6:=Qn U c;go_simp;exact C _ _ Zr c Z
    | obtain⟨d,R,-⟩:=f
      conv at d=>whnf;rhs;whnf
      conv at R=>whnf;rhs;whnf
      go_simp;exact C _ _ Zr c Z
    | obtain⟨d,-⟩:=f
      conv at d=>whnf;rhs;whnf
      simp only[Za] at d
      go_simp;exact C _ _ (ZR _ _) (c.alloc c.size _) ⟨_,Z,c.size,Qe _ _ _⟩
  trivial
theorem Qe9 {O:Nat->Prop}{s:JSt}{x:Qx}{rg:Option Addr}(hO:∀ k,O k->k<w.heap.size) (hJ:JOk s) (h:KAt w b O s){QA:Nat->Prop}(ak:intsL.In w QA x.args [.slice ag x.args.length ac]) (D:x.args.length<=8) (bb:x.op=5) :
 Calls prog 102 #[Pv b 0,QfX x rg ag rc ac] w fun e w'=>QV w O (s.makes x).1 (s.makes x).2 e w':=by
 have ab:=Qg ak;clear ak
 have E:Hid (s.makes x=(match s.at x.a with
  | none=>(1,[])
  | some t=>if s.want x.a 2 true=0 then (match s.fields x.args with
   | none=>(1,[])
   | some l=>if 4<TT.height (n:=7) (mkT 3 t.r l) then (19,[]) else (0,[TT.at (n:=7) 5 (mkT 3 t.r l)]))
   else (s.want x.a 2 true,[]))):=QaQ bb
 have S0:=Qg (MkS.start x rg ag rc ac hO hJ h);obtain⟨dj,xa,xb,xc,xk,xn,xr,f⟩:=x
 simp only at bb
 subst bb;clear h;go_enter func102,ntmps102
 go_upto_region 18 with fail
 obtain⟨w2,bf⟩:∃ w2,(w.alloc (.cells #[Iv 5,Iv xa,Iv xb,Iv xc,Iv xk,Iv xn,.slice rg xr.length rc,.slice ag f.length ac] 78)).alloc (.cells #[Iv 1,Iv 0,Nv] 105)=w2:=⟨_,Yz⟩
 obtain⟨X,hX⟩:∃ X,w.heap.size=X:=⟨_,Yz⟩
 have A:Hid (MkS w w2 b X O s ⟨5,xa,xb,xc,xk,xn,xr,f⟩ rg ag rc ac (some ⟨X+1,0,none⟩)):=by rw[<-bf,<-hX];exact S0.out
 rw[bf,hX]
 clear bf hX S0;obtain⟨x0,x1,x2,x3,x4,x6,x7⟩:=A.out.cells
 have de:=A.out.ok.regs;have br:=A.out.ok.vals;simp only at x0 x1 x2 x3 x4 x6 x7 D
 have cn:Hid (intsL.In w2 QA f [.slice ag f.length ac]):=Ya ab.out A.out.bel;clear ab;go_wp2_with fail
 refine(Q7 xa 2 true A.out.ok.regs A.out.ok.vals A.out.known).mono ?_
 rintro e Q ⟨rfl,n3,bu⟩;have bd:Below w2.heap.size w2 Q:=by rw[bu];exact Qh Zr n3
 have S3:Hid (MkS w Q b X O s ⟨5,xa,xb,xc,xk,xn,xr,f⟩ rg ag rc ac (some ⟨X+1,0,none⟩)):=A.out.below bd;have HA:Hid (intsL.In Q QA f [.slice ag f.length ac]):=Ya cn.out bd;clear bu bd A cn x0 x1 x2 x3 x4 x6 x7;have A:=S3;clear S3
 cases m:s.at xa with
 | none =>
   have hw:s.want xa 2 true=1:=by unfold JSt.want;rw[m]
   have E2:Hid (s.makes ⟨5,xa,xb,xc,xk,xn,xr,f⟩=(1,[])):=by
    show _=_;rw[E.out];simp only[m]
   rw[hw]
   clear E hw m;go_wp2
   go_ret2;rw[E2.out]
   exact QV.nil A.out.bel
 | some t =>
   by_cases hw:s.want xa 2 true=0
   ·obtain⟨-,cu,bi,bv⟩:=Qbp m
    obtain⟨i,rfl⟩:=Xc cu
    obtain⟨pm,cm,a1,c1,a2,c2,a3,c3,hh,aL,cL,R⟩:=A.out.known.read
    obtain⟨-,-,-,-,-,-,q6⟩:=R.cells
    obtain⟨gL,va,vc,rfl,-,v1,-,-,bo⟩:=R.row i t (by simpa using bv)
    have bh:Hid (TRd Q (fun g=>¬ O g) (some ⟨gL,0,none⟩) s.L):=R.row;have bt:Hid (-9223372036854775808<=t.r/\t.r<=9223372036854775807):=bo.1
    have E2:Hid (s.makes ⟨5,(i:Int),xb,xc,xk,xn,xr,f⟩=(match s.fields f with | none=>(1,[]) | some l=>if 4<TT.height (n:=7) (mkT 3 t.r l) then (19,[]) else (0,[TT.at (n:=7) 5 (mkT 3 t.r l)]))):=by
     show _=_;rw[E.out];simp only[m,if_pos hw]
    rw[hw]
    clear E hw m bv R bo;generalize bm:s.L.length=nl at q6 bi br;have bc:Hid (s.L.length=nl):=bm;generalize t.r=r at v1 E2 bt;clear bm;go_upto_region 21 with fail
    refine Qop A q6 v1 bi Yz _ _ Yz (Xg (by kernel_rfl)) Yz Yz ?_;rintro ba vs w5 ar ⟨B,bw,hB,W⟩ b5;show wpList _ ba _ [_] (QC _ vs [98,99,100,101,102,103,104,105,106,107,9]) w5;simp only[QC,Act.put,List.setIfInBounds_toArray,List.set_cons_zero,List.set_cons_succ,ar,bw]
    have T6:Hid (Tup Q (((w5.setCell ⟨B,0,none⟩ (Iv 3)).setCell ⟨B,1,none⟩ (Iv r)).setCell ⟨B,2,none⟩ (Nv)) B O r (Nv) []) :=
     ⟨((b5.setCell (p:=⟨B,0,none⟩) hB _).setCell (p:=⟨B,1,none⟩) hB _).setCell (p:=⟨B,2,none⟩) hB _,hB,Blk.set3 W _ _ _,[],⟨Yz,Or.inl ⟨Yz,Yz⟩⟩,fun i x hx=>by simp at hx⟩
    have e0:=Qa W 0 _ Yz;have e1:=Qa W 1 _ Yz;have e2:=Qa W 2 _ Yz;have ef:∀ i,w5.frozen? ⟨B,i,none⟩=false:=fun i=>Qd W i;clear W hB b5 ar bw v1;go_upto_region 22 with fail
    generalize (((w5.setCell ⟨B,0,none⟩ (Iv 3)).setCell ⟨B,1,none⟩ (Iv r)).setCell ⟨B,2,none⟩ (Nv))=w6 at T6 |-;clear e0 e1 e2 ef;have cs:Hid (f.length<=8):=D;go_wp2_with fail
    go_loopw [10] (fun u wr=>∃ k v l,u=Iv (k:Nat)/\k<=f.length/\Tup Q wr B O r v l/\l.length=k/\∀ (i:Nat) (x:Int),f[i]?=some x->i<k->s.at x=l[i]?) (fun u _=>f.length - (intOf u).toNat)
    case atStart=>exact⟨0,_,[],Yz,Xb _,T6.out,Yz,fun i x _ h=>by omega⟩
    case round =>
     obtain⟨k,v,l,rfl,S,hT,hl,m⟩:=hrel
     have F:Hid (Tup Q wr B O r v l):=hT;have C:Hid (l.length=k):=hl;have al:=Qg m;have S7:=Qg (A.out.below hT.bel);have cj:=Qn q6 hT.bel;have co:Hid (TRd wr (fun g=>¬ O g) (some ⟨gL,0,none⟩) s.L):=bh.out.below hT.bel;have c6:Hid (intsL.In wr QA f [.slice ag f.length ac]):=Ya HA.out hT.bel;have du:Hid (Q.heap.size<=wr.heap.size):=hT.bel.size;clear hT hl m T6;obtain⟨x0,x1,x2,x3,x4,x6,x7⟩:=S7.out.cells
     simp only at x0 x1 x2 x3 x4 x6 x7
     by_cases J:k<f.length
     ·have V:f[k]?=some f[k]:=Zg J;obtain⟨lg,lo,rfl,-,-,z0⟩:=ZW c6.out J
      have ex:f.getD k 0=f[k]:=by simp[List.getD,J]
      rw[ex] at z0
      generalize f[k]=y at V z0;have ax:(k:Int)<f.length:=by omega
      have dg:(0:Int)<=k:=by omega
      have HF:=Qg (Qch (s:=s) (l:=f) k l S C.out al.out);have ai:=Qg (Qc1 (s:=s) V);clear ex;by_cases K:y<0
      ·have cq:decide (y<0)=true:=Xt K
       have E3:Hid (s.makes ⟨5,(i:Int),xb,xc,xk,xn,xr,f⟩=(1,[])):=by
        show _=_;have ha:s.at y=none:=by unfold JSt.at;rw[Xs K]
        rw[E2.out,HF.out,ai.out,ha];rfl
       have bg:=Qg (A.out.bel.trans (F.out.bel.mono A.out.bel.size));clear E2 K V HF ai;generalize f.length=N at x7 ax J S D;go_wp2_with fail
       go_quiet (fail)
       go_wp2
       go_ret2;rw[E3.out]
       exact QV.nil (Qh bg.out _)
      obtain⟨j,rfl⟩:=Xc (show 0<=y by omega)
      have cq:decide ((j:Int)<0)=false:=Xu (by omega);by_cases b0:j<nl
      ·have am:s.L[j]?=some (s.L[j]'(by rw[bc.out];exact b0)):=Zg _;generalize s.L[j]'(by rw[bc.out];exact b0)=u at am;have a9:s.at (j:Int)=some u:=by unfold JSt.at;rw[Xr K];exact am
       obtain⟨gY,ua,uc,eY,v0,v1,v2,v3,a4⟩:=co.out j u am
       cases eY
       have cz:Hid (∃ be cb,wr.cell? ⟨gL,j*3+2,none⟩=some (.slice be u.len cb)/\TIn Q (fun g=>¬ O g) u be/\u.ok):=by
        obtain⟨gZ,za,zc,eZ,di,dr,c8,ct,c4⟩:=bh.out j u am
        cases eZ
        exact⟨za,zc,Qn c8 F.out.bel,ct,c4⟩
       have bj:decide ((nl:Int)<=j)=false:=Xu (by omega);have b2:(j:Int)<nl:=by omega
       have cd:Hid (∀ (i:Nat) (x:Int),f[i]?=some x->i<k+1->s.at x=(l++[u])[i]?):=by
        intro i x hi ds;by_cases e:i=k
        ·subst e;rw[V] at hi
         cases hi
         rw[XQ (by rw[C.out];omega),C.out,Nat.sub_self]
         exact a9
        ·rw[XP (by rw[C.out];omega)]
         exact al.out i x hi (by omega)
       have cy:Hid (u.ok):=a4;clear K V a9 HF ai v3 a4 al am;obtain⟨ta,tc,dt,rfl,ad,ah,t2⟩:=F.out.form
       have a8:=F.out.box;have cx:=Qg a8;have c0:=Qg ah;have cw:=Qg ad;have dd:Hid (Q.heap.size<=B):=F.out.hB;have af:Hid (Below Q.heap.size Q wr):=F.out.bel;rw[C.out] at t2
       clear a8 ah ad cx c0 cw;have b7:Hid (f.length=f.length):=rfl;generalize cc:f.length=N at x7 ax J S D;have cp:Hid (f.length=N):=cc;clear cc b7;go_wp2_with fail
       go_quiet (fail)
       have b8:Below wr.heap.size wr (wr.drewN nq):=Qh Zr nq;have bx:=Qn t2 b8;have cg:=Qn cj b8;have bk:=Qn x7 b8;have bs:=Qn z0 b8;have cr:=Qn v0 b8;have bp:=Qn v1 b8;have b3:=Qn v2 b8;have U:=Qg b8;clear b8;go_upto_region 27 with fail
       refine QoP bx cg bk bs cr bp b3 ax b2 _ _ Yz (Xg (by kernel_rfl)) Yz Yz Yz Yz ?_;rintro ba vs w9 aj ⟨G,au,hG,b1⟩ b9;show wpList _ ba _ [_,_,_] (QC _ vs [134,135,136,137,138,139,140,141,142,143,144,145,146,147]) w9;simp only[QC,Act.put,List.setIfInBounds_toArray,List.set_cons_zero,List.set_cons_succ,aj,au]
       have ay:Below wr.heap.size wr w9:=U.out.trans (b9.mono U.out.size);obtain⟨dq,dn,a6,e9,o,T,db⟩:=(F.out.below ay).form
       cases e9
       have M:=(F.out.below ay).box;have P:=(F.out.below ay).bel;obtain⟨be,cb,ao,ca,-⟩:=cz.out
       rw[v2] at ao
       cases ao
       have PU:Hid (∀ g aw H,H.ownsRow (B+1) 105 3 (.slice (some ⟨g,0,none⟩) (k+1) aw) (k+1) (a6++[Iv u.kind,Iv u.r,.slice ua u.len uc])->w9.grownBy H (Value.slice ta k tc).ownBlock ->
        H.cell? ⟨B,2,none⟩=some (.slice ta k tc)/\H.frozen? ⟨B,2,none⟩=false/\Tup Q (H.setCell ⟨B,2,none⟩ (.slice (some ⟨g,0,none⟩) (k+1) aw)) B O r (.slice (some ⟨g,0,none⟩) (k+1) aw) (l++[u])):=by
        intro g aw H p1 p2;rw[<-C.out] at p1 p2 |-
        refine Tup.push P dd.out M T o.1 ?_ cy.out ?_ p1 p2
        ·exact(ca.mono (O':=fun g=>¬ O g/\g<Q.heap.size) (fun k S hl=>⟨S,hl⟩)).keep (fun k S _=>P.block k S.2) (fun _ S _=>S)
        ·intro k' az;obtain⟨-,q2⟩:=o
         rcases q2 with ⟨e,_⟩|⟨g',df,dl,e,dp,dh,q⟩
         ·rw[e] at az;simp[Value.ownBlock] at az
         ·rw[e] at az
          simp[Value.ownBlock] at az
          omega
       have a5:Hid (w9.ownsRow (B+1) 105 3 (.slice ta k tc) k a6):=by rw[C.out] at o;exact o
       have aq:Hid (∀ (j:Nat) (v:Value),[Value.int .i64 u.kind,Iv u.r,.slice ua u.len uc][j]?=some v->w9.cell? ((⟨G,0,none⟩:Addr).add j)=some v):=by
        intro j v hv;rw[Go.WideShapes.add_plain,XK]
        exact Qa b1 j v (by simpa using hv)
       have aa:Hid (B+1<=w9.heap.size):=by show _<=_;have:=XC M;omega
       have da:Hid (f.length - (k+1)<f.length - k):=by show _<_;rw[cp.out];omega
       obtain⟨i0,hi,dc,c9,c5⟩:=pInfoT
       clear o T db M P ca b1 hG b9 ay aj au t2 bx cj cg x7 bk z0 bs v0 cr v1 bp v2 b3 F;go_wp2_with (at_builtin;refine wpList_append_lies _ Yz (.tmp 135) (.tmp 147) 80 Yz (B+1) 105 i0 (.agg #[Iv 0,Iv 0,Nv]) 3 40 pUnderT hi dc c9 c5 Yz (by decide) _ _ _ Yz a5.out ⟨G,0,none⟩ 1 1 [Iv u.kind,Iv u.r,.slice ua u.len uc] Yz Yz aq.out (Qju _ _ _ _ _) (by decide) (by unfold maxLen;omega) (by omega) aa.out w9.heap.size Yz ?_)
       intro g2 bq H p1 p2 p3 p4;obtain⟨dm,dk,bz⟩:=PU.out g2 bq H p1 p2
       have bn:=Qg bz;clear p1 p2 p3 p4 bz PU a5 aq aa;go_wp2
       go_roundw
       case rel=>exact⟨k+1,_,l++[u],by go_num,by first | omega | (rw[cp.out];omega),bn.out,by rw[List.length_append,C.out];rfl,cd.out⟩
       case measure=>simp only[intOf];have:=da.out;omega
      ·have E3:Hid (s.makes ⟨5,(i:Int),xb,xc,xk,xn,xr,f⟩=(1,[])):=by
        show _=_;have ha:s.at (j:Int)=none:=by unfold JSt.at;rw[Xr K,XT,Xk (by rw[bc.out];omega)]
        rw[E2.out,HF.out,ai.out,ha];rfl
       have bg:=Qg (A.out.bel.trans (F.out.bel.mono A.out.bel.size));have bj:decide ((nl:Int)<=j)=true:=Xt (by omega);clear E2 K V HF ai;generalize f.length=N at x7 ax J S D;go_wp2_with fail
       go_quiet (fail)
       go_wp2
       go_ret2;rw[E3.out]
       exact QV.nil (Qh bg.out _)
     ·have c7:k=f.length:=by omega
      have hF:s.fields f=some l:=by
       rw[Qch (s:=s) (l:=f) k l S C.out al.out,List.drop_of_length_le (by omega),JSt.fields]
       simp
      obtain⟨bl,ce⟩:=QbL hF
      have a7:TT.count (n:=7) (mkT 3 r l)<=100000:=by
       have h1:=sum_le_mul (l.map TT.count) 4681 (fun c hc=>by
        obtain⟨z,hz,rfl⟩:=List.mem_map.1 hc
        exact QbM (A.out.ok.types z (ce z hz)))
       rw[XN] at h1
       show 1+(l.map TT.count).sum<=100000;have h2:l.length*4681<=8*4681:=Xp _ (by rw[bl];exact cs.out);omega
      have E3:Hid (s.makes ⟨5,(i:Int),xb,xc,xk,xn,xr,f⟩=if 4<TT.height (n:=7) (mkT 3 r l) then (19,[]) else (0,[TT.at (n:=7) 5 (mkT 3 r l)])):=by
       show _=_;rw[E2.out,hF]
      obtain⟨ta,tc,rfl,an,a0⟩:=F.out.tree A.out.lt
      have ap:=Qg an;have cl:=Qg a7;have ck:=Qg a0;have e0:=Qa F.out.box 0 _ Yz;have e1:=Qa F.out.box 1 _ Yz;have e2:=Qa F.out.box 2 _ Yz;have b4:¬ (k:Int)<f.length:=by omega
      have af:Hid (Below w.heap.size w wr):=A.out.bel.trans (F.out.bel.mono A.out.bel.size);have b6:Hid (∀ k,O k->k<wr.heap.size):=S7.out.lt;clear E2 hF bl ce a7 an a0 al F c7 C;generalize ch:l.length=ll at e2;have ci:Hid (l.length=ll):=ch
      have DC:Hid (Calls prog 126 #[.agg #[Iv 3,Iv r,.slice ta ll tc],Iv 4] wr fun e w'=>e=.returned (Iv ((min (TT.height (n:=7) (mkT 3 r l)) 5:Nat):Int))/\Below wr.heap.size wr w'):=by
       have:=deepOf_any 7 (mkT 3 r l) ta tc wr 4 ap.out.all cl.out (by decide)
       have e9:Tv (mkT 3 r l:TT 7) ta tc=.agg #[Iv 3,Iv r,.slice ta ll tc]:=by rw[<-ci.out];rfl
       rw[e9] at this
       exact this
      clear ch;generalize f.length=N at x7 J b4 S D;go_wp2_with fail
      refine(DC.out).mono ?_
      rintro e w8 ⟨rfl,I⟩;have U:Hid (Below w.heap.size w w8):=af.out.trans (I.mono af.out.size);have f0:=Qn e0 I;have f1:=Qn e1 I;have f2:=Qn e2 I;by_cases av:4<TT.height (n:=7) (mkT 3 r l)
      ·have E4:Hid (s.makes ⟨5,(i:Int),xb,xc,xk,xn,xr,f⟩=(19,[])):=by show _=_;rw[E3.out,Xs av]
       have ae:decide ((4:Int)<((min (TT.height (n:=7) (mkT 3 r l)) 5:Nat):Int))=true:=Xt (by omega);clear E3 av DC I e0 e1 e2;generalize ((min (TT.height (n:=7) (mkT 3 r l)) 5:Nat):Int)=hv at ae |-;go_wp2
       go_ret2;rw[E4.out]
       exact QV.nil U.out
      ·have E4:Hid (s.makes ⟨5,(i:Int),xb,xc,xk,xn,xr,f⟩=(0,[TT.at (n:=7) 5 (mkT 3 r l)])):=by show _=_;rw[E3.out,Xr av]
       have ae:decide ((4:Int)<((min (TT.height (n:=7) (mkT 3 r l)) 5:Nat):Int))=false:=Xu (by omega)
       have Z:Hid (QV w O 0 [TT.at (n:=7) 5 (mkT 3 r l)] (.returned (.tuple #[.slice (some ⟨w8.heap.size,0,none⟩) 1 1,Iv 0])) (w8.alloc (.cells #[Iv 3,Iv r,.slice ta ll tc] 105))):=by
        refine⟨_,1,1,Yz,fun _=>⟨Yz,Ze,?_⟩,U.out.alloc U.out.size _⟩
        have cf:TT.height (n:=7) (mkT 3 r l)<=5:=by omega
        have:=Qdo w8 O (fun k S=>Zl (b6.out k S) I.size) (t:=TT.at (n:=7) 5 (mkT 3 r l)) (a:=ta) (c:=tc) (d:=1) ((ap.out.below I).at 5 cf) (TT.at_ok 5 ⟨bt.out,ck.out⟩)
        rw[<-ci.out]
        rw[TT.at_kind,TT.at_r,TT.at_len 5 _ cf] at this
        exact this
       clear E3 av DC I e0 e1 e2;generalize ((min (TT.height (n:=7) (mkT 3 r l)) 5:Nat):Int)=hv at ae |-;go_wp2
       go_ret2;rw[E4.out]
       exact Z.out
   ·have cv:(s.want xa 2 true==0)=false:=beq_eq_false_iff_ne.2 hw
    have E2:Hid (s.makes ⟨5,xa,xb,xc,xk,xn,xr,f⟩=(s.want xa 2 true,[])):=by
     show _=_;rw[E.out];simp only[m,if_neg hw]
    have HW:=Qg hw;clear E m hw;generalize s.want xa 2 true=c at E2 cv HW |-;go_wp2
    go_ret2;rw[E2.out]
    exact QV.nil A.out.bel
theorem Qfb {op:Int}{a fb fc b fn fr fs:Bool}(c:QJ op=some (a,fb,fc,b,fn,fr,fs)) (w:World):Rd prog 128 #[Iv op] w (.tuple #[.agg #[.bool a,.bool fb,.bool fc,.bool b,.bool fn,.bool fr,.bool fs],.bool true]):=by
 have:=QcG op w
 rwa [show QbV op=.tuple #[.agg #[.bool a,.bool fb,.bool fc,.bool b,.bool fn,.bool fr,.bool fs],.bool true] from by unfold QbV;rw[c]] at this
theorem QhO {op:Int}(a:QJ op=none) (w:World):Rd prog 128 #[Iv op] w (.tuple #[.agg #[.bool false,.bool false,.bool false,.bool false,.bool false,.bool false,.bool false],.bool false]):=by
 have:=QcG op w
 rwa [show QbV op=.tuple #[.agg #[.bool false,.bool false,.bool false,.bool false,.bool false,.bool false,.bool false],.bool false] from by unfold QbV;rw[a]] at this
theorem QY {op a b c k n:Int}{f fb fc j fn fr fs d g i h o m l:Bool}(e:QJ op=some (f,fb,fc,j,fn,fr,fs))
 (w:d=(!f&&a != 0)) (u:g=(d||(!fb&&b != 0))) (t:i=(g||(!fc&&c != 0))) (x:h=(i||(!j&&k != 0))) (v:o=(h||(!fn&&n != 0))) (q:m=(o||(!fr&&decide ((0:Int)<(rl:Int))))) (s:l=(m||(!fs&&decide ((0:Int)<(al:Int))))) :
 QL lm op a b c k n rl al=if l then 4
 else if op=2/\(k<1\/9<k) then 1
 else if op=5/\8<al then 2
 else if (op=6\/op=7)/\(k<0\/7<k) then 1
 else if op=14/\(k<0\/(lm:Int)<=k) then 1
 else if op=14/\(6<rl\/8<al) then 2
 else 0:=by
 subst w u t x v q s;simp only[QL,e]
 have r:decide ((0:Int)<(rl:Int))=decide (0<rl):=by simp
 have p:decide ((0:Int)<(al:Int))=decide (0<al):=by simp
 rw[r,p]
theorem Xw:type_of% @of_decide_eq_false:=@of_decide_eq_false
theorem XA:type_of% @wp_ret:=@wp_ret
theorem XB:type_of% @wp_skip:=@wp_skip
theorem XD:type_of% @eq_of_beq:=@eq_of_beq
theorem XE:type_of% @ne_of_beq_false:=@ne_of_beq_false
theorem XJ:type_of% @wp_block:=@wp_block
theorem XW:type_of% @wp_seq_k:=@wp_seq_k
theorem kp8 {t:Nat}{a:Act}{L:List (Tmp × Value)}{e i f g c d b:Value}(h:Fr n a L) (j:L.lookup t=some v) (o:L.lookup 1=some i) (m:L.lookup 0=some e) (q:L.lookup 2=some f) (p:L.lookup 3=some g) (r:L.lookup 4=some c) (l:L.lookup 5=some d) (k:L.lookup 6=some b):Fr n a [(t,v),(1,i),(0,e),(2,f),(3,g),(4,c),(5,d),(6,b)] :=
 h.keep (h.keep (h.keep (h.keep (h.keep (h.keep (h.keep (h.keep h.nil k) l) r) p) q) m) o) j
theorem Qk1 {fa fb fc fk fn fr fs:Bool}(u:QJ xop=some (fa,fb,fc,fk,fn,fr,fs)) (xa xb xc xk xn:Int) (am ra aa:Option Addr) (lm cm rl rc al ac:Nat) (w:World) :
 Rd prog 80 #[.agg #[.slice am lm cm],.agg #[Iv xop,Iv xa,Iv xb,Iv xc,Iv xk,Iv xn,.slice ra rl rc,.slice aa al ac]] w (Iv (QL lm xop xa xb xc xk xn rl al)):=by
 refine Qhr (n:=137) func80 Z Z Z <| fun a hF=>?_
 have hW:=Ye w;replace hF:Fr 137 a [(0,.agg #[.slice am lm cm]),(1,.agg #[Iv xop,Iv xa,Iv xb,Iv xc,Iv xk,Iv xn,.slice ra rl rc,.slice aa al ac])]:=hF;refine XW fun K1 es=>rg hF fun d=>sB hW Y Z Z <| fun w2 B2 ew hN=>sB ew Y Z Z <| fun w3 B3 dy hN=>sa Y Z Z <| Yb fun a4 h4=>es _ _ <| XW fun K5 e4=>rg h4 fun d=>sfIns0 Y Z Z <| QbW 0 dy Y Z Z Z Z <| Qoa cf128 dy (Qfb u w3) Y Z Z <| fun w6 et=>sm Y Z Z <| fun a7 h7=>QeM (t:=11) (v:=.agg #[.bool fa,.bool fb,.bool fc,.bool fk,.bool fn,.bool fr,.bool fs]) (w':=w6) h7 Z Z Z (fun K hK=>?_) ?_
 ·have k0:a7.tmps.getD 7 undef=.tuple #[.agg #[.bool fa,.bool fb,.bool fc,.bool fk,.bool fn,.bool fr,.bool fs],.bool true]:=h7.sl 7 _ Z
  go_simp;exact hK
 clear h7;intro a8 b9;refine QeM (t:=12) (v:=.bool true) (w':=w6) b9 Z Z Z (fun K hK=>?_) ?_
 ·have k0:a8.tmps.getD 7 undef=.tuple #[.agg #[.bool fa,.bool fb,.bool fc,.bool fk,.bool fn,.bool fr,.bool fs],.bool true]:=b9.sl 7 _ Z
  go_simp;exact hK
 clear b9;intro a9 e6;refine St.go e6 <| Qhb et Y Z <| fun iy ab em hN=>sT 0 em Z Z infFields Z Z Z <| fun ad c=>sa Y Z Z <| Yb fun hw fm=>e4 _ _ <| XW fun ik c5=>XW fun ig dh=>rg fm fun d=>sm Y Z Z <| sn Y Z Z <| Yb fun hi b6=>dh _ _ <| QkY (t:=14) b6 Z <| XB <| c5 _ _ <| XW fun h0 eh=>XW fun hg dx=>Qap <| fun d e=>?_
 have f:(d[3]?).bind (fun o:Oper=>o.dst)=some 18:=e 3;have O:(d[8]?).bind (fun o:Oper=>o.dst)=some 23:=e 8;have J:(d[12]?).bind (fun o:Oper=>o.dst)=some 27:=e 12;have D:(d[18]?).bind (fun o:Oper=>o.dst)=some 33:=e 18;have L:(d[22]?).bind (fun o:Oper=>o.dst)=some 37:=e 22;have A:(d[28]?).bind (fun o:Oper=>o.dst)=some 43:=e 28;have H:(d[32]?).bind (fun o:Oper=>o.dst)=some 47:=e 32;have C:(d[38]?).bind (fun o:Oper=>o.dst)=some 53:=e 38;have I:(d[42]?).bind (fun o:Oper=>o.dst)=some 57:=e 42;have B:(d[48]?).bind (fun o:Oper=>o.dst)=some 63:=e 48;have z:(d[52]?).bind (fun o:Oper=>o.dst)=some 67:=e 52;have E:(d[59]?).bind (fun o:Oper=>o.dst)=some 74:=e 59;have y:(d[63]?).bind (fun o:Oper=>o.dst)=some 78:=e 63;clear e;refine Qf7 9 (fun a' w'=>(∃ d1:Bool,d1=(!fa&&xa != 0)/\Fr 137 a' [(23,.bool d1),(1,.agg #[Iv xop,Iv xa,Iv xb,Iv xc,Iv xk,Iv xn,.slice ra rl rc,.slice aa al ac]),(0,.agg #[.slice am lm cm]),(2,Pv B2 0),(3,Pv B3 0),(4,Iv 0),(5,Pv ab 0),(6,.bool true)])/\ad=w') (fun KC r=>?_) ?_
 ·refine St.go b6 <| sfFields0 Y Z Z <| Qdk 0 c Y Z Z Z Z <| sn Y Z Z <| sm Y Z Z <| fun iu be=>?_
  rcases Xa (!fa) with b | b
  ·rw[b] at be
   have db:fa=false:=by simpa using b
   clear b;exact St.go be <| sfIns1 ⟨_,f,Z,Z⟩ Z Z <| QbW 1 c ⟨_,f,Z,Z⟩ Z Z Z Z <| sne ⟨_,f,Z,Z⟩ Z Z Z <| sp Y Z Z Z <| sm Y Z Z <| Yb fun ib fe=>r _ _ ⟨⟨xa != 0,by simp[db],(kp8 fe Z Z Z Z Z Z Z Z)⟩,Z⟩
  rw[b] at be
  have eb:fa=true:=by simpa using b
  clear b;exact St.go be <| so f Z Z Z Z <| so f Z Z Z Z <| so f Z Z Z Z <| spf Y Z Z Z <| sm Y Z Z <| Yb fun h2 e3=>r _ _ ⟨⟨false,by simp[eb],(kp8 e3 Z Z Z Z Z Z Z Z)⟩,Z⟩
 ·clear b6;rintro hv _ ⟨⟨d1,i,ar⟩,rfl⟩;replace i:Hid _:=i
  refine Qf7 10 (fun a' w'=>(∃ d2:Bool,d2=(d1||(!fb&&xb != 0))/\Fr 137 a' [(33,.bool d2),(1,.agg #[Iv xop,Iv xa,Iv xb,Iv xc,Iv xk,Iv xn,.slice ra rl rc,.slice aa al ac]),(0,.agg #[.slice am lm cm]),(2,Pv B2 0),(3,Pv B3 0),(4,Iv 0),(5,Pv ab 0),(6,.bool true)])/\ad=w') (fun KC r=>?_) ?_
  ·rcases Xa d1 with b | b
   ·rw[b] at ar
    have de:=b;clear b;exact St.go ar <| so O Z Z Z Z <| so O Z Z Z Z <| so O Z Z Z Z <| so O Z Z Z Z <| so J Z Z Z Z <| so J Z Z Z Z <| so J Z Z Z Z <| so O Z Z Z Z <| sp Y Z Z Z <| sm Y Z Z <| Yb fun i0 fg=>r _ _ ⟨⟨true,by simp[de],(kp8 fg Z Z Z Z Z Z Z Z)⟩,Z⟩
   rw[b] at ar
   have bv:=b;clear b;refine St.go ar <| sfFields1 ⟨_,O,Z,Z⟩ Z Z <| Qdk 0 c ⟨_,O,Z,Z⟩ Z Z Z Z <| sn ⟨_,O,Z,Z⟩ Z Z <| sm ⟨_,O,Z,Z⟩ Z Z <| fun ii bi=>?_
   rcases Xa (!fb) with b | b
   ·rw[b] at bi
    have ec:fb=false:=by simpa using b
    clear b;exact St.go bi <| sfIns2 ⟨_,J,Z,Z⟩ Z Z <| QbW 1 c ⟨_,J,Z,Z⟩ Z Z Z Z <| sne ⟨_,J,Z,Z⟩ Z Z Z <| sp ⟨_,O,Z,Z⟩ Z Z Z <| spf Y Z Z Z <| sm Y Z Z <| Yb fun im fi=>r _ _ ⟨⟨xb != 0,by simp[bv,ec],(kp8 fi Z Z Z Z Z Z Z Z)⟩,Z⟩
   rw[b] at bi
   have di:fb=true:=by simpa using b
   clear b;exact St.go bi <| so J Z Z Z Z <| so J Z Z Z Z <| so J Z Z Z Z <| spf ⟨_,O,Z,Z⟩ Z Z Z <| spf Y Z Z Z <| sm Y Z Z <| Yb fun iv ep=>r _ _ ⟨⟨false,by simp[bv,di],(kp8 ep Z Z Z Z Z Z Z Z)⟩,Z⟩
  ·clear ar;rintro iq _ ⟨⟨d2,m,an⟩,rfl⟩;replace m:Hid _:=m
   refine Qf7 10 (fun a' w'=>(∃ d3:Bool,d3=(d2||(!fc&&xc != 0))/\Fr 137 a' [(43,.bool d3),(1,.agg #[Iv xop,Iv xa,Iv xb,Iv xc,Iv xk,Iv xn,.slice ra rl rc,.slice aa al ac]),(0,.agg #[.slice am lm cm]),(2,Pv B2 0),(3,Pv B3 0),(4,Iv 0),(5,Pv ab 0),(6,.bool true)])/\ad=w') (fun KC r=>?_) ?_
   ·rcases Xa d2 with b | b
    ·rw[b] at an
     have eo:=b;clear b;exact St.go an <| so D Z Z Z Z <| so D Z Z Z Z <| so D Z Z Z Z <| so D Z Z Z Z <| so L Z Z Z Z <| so L Z Z Z Z <| so L Z Z Z Z <| so D Z Z Z Z <| sp Y Z Z Z <| sm Y Z Z <| Yb fun i1 e8=>r _ _ ⟨⟨true,by simp[eo],(kp8 e8 Z Z Z Z Z Z Z Z)⟩,Z⟩
    rw[b] at an
    have bw:=b;clear b;refine St.go an <| sfFields2 ⟨_,D,Z,Z⟩ Z Z <| Qdk 0 c ⟨_,D,Z,Z⟩ Z Z Z Z <| sn ⟨_,D,Z,Z⟩ Z Z <| sm ⟨_,D,Z,Z⟩ Z Z <| fun hq bg=>?_
    rcases Xa (!fc) with b | b
    ·rw[b] at bg
     have eg:fc=false:=by simpa using b
     clear b;exact St.go bg <| sfIns3 ⟨_,L,Z,Z⟩ Z Z <| QbW 1 c ⟨_,L,Z,Z⟩ Z Z Z Z <| sne ⟨_,L,Z,Z⟩ Z Z Z <| sp ⟨_,D,Z,Z⟩ Z Z Z <| spf Y Z Z Z <| sm Y Z Z <| Yb fun hr fj=>r _ _ ⟨⟨xc != 0,by simp[bw,eg],(kp8 fj Z Z Z Z Z Z Z Z)⟩,Z⟩
    rw[b] at bg
    have dp:fc=true:=by simpa using b
    clear b;exact St.go bg <| so L Z Z Z Z <| so L Z Z Z Z <| so L Z Z Z Z <| spf ⟨_,D,Z,Z⟩ Z Z Z <| spf Y Z Z Z <| sm Y Z Z <| Yb fun i4 fo=>r _ _ ⟨⟨false,by simp[bw,dp],(kp8 fo Z Z Z Z Z Z Z Z)⟩,Z⟩
   ·clear an;rintro ia _ ⟨⟨d3,l,ao⟩,rfl⟩;replace l:Hid _:=l
    refine Qf7 10 (fun a' w'=>(∃ d4:Bool,d4=(d3||(!fk&&xk != 0))/\Fr 137 a' [(53,.bool d4),(1,.agg #[Iv xop,Iv xa,Iv xb,Iv xc,Iv xk,Iv xn,.slice ra rl rc,.slice aa al ac]),(0,.agg #[.slice am lm cm]),(2,Pv B2 0),(3,Pv B3 0),(4,Iv 0),(5,Pv ab 0),(6,.bool true)])/\ad=w') (fun KC r=>?_) ?_
    ·rcases Xa d3 with b | b
     ·rw[b] at ao
      have dl:=b;clear b;exact St.go ao <| so A Z Z Z Z <| so A Z Z Z Z <| so A Z Z Z Z <| so A Z Z Z Z <| so H Z Z Z Z <| so H Z Z Z Z <| so H Z Z Z Z <| so A Z Z Z Z <| sp Y Z Z Z <| sm Y Z Z <| Yb fun il ff=>r _ _ ⟨⟨true,by simp[dl],(kp8 ff Z Z Z Z Z Z Z Z)⟩,Z⟩
     rw[b] at ao
     have bq:=b;clear b;refine St.go ao <| sfFields3 ⟨_,A,Z,Z⟩ Z Z <| Qdk 0 c ⟨_,A,Z,Z⟩ Z Z Z Z <| sn ⟨_,A,Z,Z⟩ Z Z <| sm ⟨_,A,Z,Z⟩ Z Z <| fun hl bk=>?_
     rcases Xa (!fk) with b | b
     ·rw[b] at bk
      have c9:fk=false:=by simpa using b
      clear b;exact St.go bk <| sfIns4 ⟨_,H,Z,Z⟩ Z Z <| QbW 1 c ⟨_,H,Z,Z⟩ Z Z Z Z <| sne ⟨_,H,Z,Z⟩ Z Z Z <| sp ⟨_,A,Z,Z⟩ Z Z Z <| spf Y Z Z Z <| sm Y Z Z <| Yb fun i2 fp=>r _ _ ⟨⟨xk != 0,by simp[bq,c9],(kp8 fp Z Z Z Z Z Z Z Z)⟩,Z⟩
     rw[b] at bk
     have dm:fk=true:=by simpa using b
     clear b;exact St.go bk <| so H Z Z Z Z <| so H Z Z Z Z <| so H Z Z Z Z <| spf ⟨_,A,Z,Z⟩ Z Z Z <| spf Y Z Z Z <| sm Y Z Z <| Yb fun hp ev=>r _ _ ⟨⟨false,by simp[bq,dm],(kp8 ev Z Z Z Z Z Z Z Z)⟩,Z⟩
    ·clear ao;rintro iw _ ⟨⟨d4,h,au⟩,rfl⟩;replace h:Hid _:=h
     refine Qf7 10 (fun a' w'=>(∃ d5:Bool,d5=(d4||(!fn&&xn != 0))/\Fr 137 a' [(63,.bool d5),(1,.agg #[Iv xop,Iv xa,Iv xb,Iv xc,Iv xk,Iv xn,.slice ra rl rc,.slice aa al ac]),(0,.agg #[.slice am lm cm]),(2,Pv B2 0),(3,Pv B3 0),(4,Iv 0),(5,Pv ab 0),(6,.bool true)])/\ad=w') (fun KC r=>?_) ?_
     ·rcases Xa d4 with b | b
      ·rw[b] at au
       have dr:=b;clear b;exact St.go au <| so C Z Z Z Z <| so C Z Z Z Z <| so C Z Z Z Z <| so C Z Z Z Z <| so I Z Z Z Z <| so I Z Z Z Z <| so I Z Z Z Z <| so C Z Z Z Z <| sp Y Z Z Z <| sm Y Z Z <| Yb fun h5 e1=>r _ _ ⟨⟨true,by simp[dr],(kp8 e1 Z Z Z Z Z Z Z Z)⟩,Z⟩
      rw[b] at au
      have bu:=b;clear b;refine St.go au <| sfFields4 ⟨_,C,Z,Z⟩ Z Z <| Qdk 0 c ⟨_,C,Z,Z⟩ Z Z Z Z <| sn ⟨_,C,Z,Z⟩ Z Z <| sm ⟨_,C,Z,Z⟩ Z Z <| fun ih bh=>?_
      rcases Xa (!fn) with b | b
      ·rw[b] at bh
       have c2:fn=false:=by simpa using b
       clear b;exact St.go bh <| sfIns5 ⟨_,I,Z,Z⟩ Z Z <| QmR 1 c ⟨_,I,Z,Z⟩ Z Z Z Z <| QoK ⟨_,I,Z,Z⟩ Z Z Z <| sp ⟨_,C,Z,Z⟩ Z Z Z <| spf Y Z Z Z <| sm Y Z Z <| Yb fun ij ey=>r _ _ ⟨⟨xn != 0,by simp[bu,c2],(kp8 ey Z Z Z Z Z Z Z Z)⟩,Z⟩
      rw[b] at bh
      have c6:fn=true:=by simpa using b
      clear b;exact St.go bh <| so I Z Z Z Z <| so I Z Z Z Z <| so I Z Z Z Z <| spf ⟨_,C,Z,Z⟩ Z Z Z <| spf Y Z Z Z <| sm Y Z Z <| Yb fun h6 er=>r _ _ ⟨⟨false,by simp[bu,c6],(kp8 er Z Z Z Z Z Z Z Z)⟩,Z⟩
     ·clear au;rintro ht _ ⟨⟨d5,j,ap⟩,rfl⟩;replace j:Hid _:=j
      refine Qf7 11 (fun a' w'=>(∃ d6:Bool,d6=(d5||(!fr&&decide ((0:Int)<(rl:Int))))/\Fr 137 a' [(74,.bool d6),(1,.agg #[Iv xop,Iv xa,Iv xb,Iv xc,Iv xk,Iv xn,.slice ra rl rc,.slice aa al ac]),(0,.agg #[.slice am lm cm]),(2,Pv B2 0),(3,Pv B3 0),(4,Iv 0),(5,Pv ab 0),(6,.bool true)])/\ad=w') (fun KC r=>?_) ?_
      ·rcases Xa d5 with b | b
       ·rw[b] at ap
        have c8:=b;clear b;exact St.go ap <| so B Z Z Z Z <| so B Z Z Z Z <| so B Z Z Z Z <| so B Z Z Z Z <| so z Z Z Z Z <| so z Z Z Z Z <| so z Z Z Z Z <| so z Z Z Z Z <| so B Z Z Z Z <| sp Y Z Z Z <| sm Y Z Z <| Yb fun ho fd=>r _ _ ⟨⟨true,by simp[c8],(kp8 fd Z Z Z Z Z Z Z Z)⟩,Z⟩
       rw[b] at ap
       have bt:=b;clear b;refine St.go ap <| sfFields5 ⟨_,B,Z,Z⟩ Z Z <| Qdk 0 c ⟨_,B,Z,Z⟩ Z Z Z Z <| sn ⟨_,B,Z,Z⟩ Z Z <| sm ⟨_,B,Z,Z⟩ Z Z <| fun hf bd=>?_
       rcases Xa (!fr) with b | b
       ·rw[b] at bd
        have dg:fr=false:=by simpa using b
        clear b;exact St.go bd <| sfIns6 ⟨_,z,Z,Z⟩ Z Z <| QfK 1 c ⟨_,z,Z,Z⟩ Z Z Z Z <| Qfv ⟨_,z,Z,Z⟩ Z Z <| sgt ⟨_,z,Z,Z⟩ Z Z Z <| sp ⟨_,B,Z,Z⟩ Z Z Z <| spf Y Z Z Z <| sm Y Z Z <| Yb fun ix ex=>r _ _ ⟨⟨decide (0<(rl:Int)),by simp[bt,dg],(kp8 ex Z Z Z Z Z Z Z Z)⟩,Z⟩
       rw[b] at bd
       have ds:fr=true:=by simpa using b
       clear b;exact St.go bd <| so z Z Z Z Z <| so z Z Z Z Z <| so z Z Z Z Z <| so z Z Z Z Z <| spf ⟨_,B,Z,Z⟩ Z Z Z <| spf Y Z Z Z <| sm Y Z Z <| Yb fun ie fh=>r _ _ ⟨⟨false,by simp[bt,ds],(kp8 fh Z Z Z Z Z Z Z Z)⟩,Z⟩
      ·clear ap;rintro iz _ ⟨⟨d6,g,ak⟩,rfl⟩;replace g:Hid _:=g
       refine Qf7 10 (fun a' w'=>(∃ d7:Bool,d7=(d6||(!fs&&decide ((0:Int)<(al:Int))))/\Fr 137 a' [(84,.bool d7),(1,.agg #[Iv xop,Iv xa,Iv xb,Iv xc,Iv xk,Iv xn,.slice ra rl rc,.slice aa al ac]),(0,.agg #[.slice am lm cm]),(2,Pv B2 0),(3,Pv B3 0),(4,Iv 0),(5,Pv ab 0),(6,.bool true)])/\ad=w') (fun KC r=>?_) ?_
       ·rcases Xa d6 with b | b
        ·rw[b] at ak
         have el:=b;clear b;exact St.go ak <| so E Z Z Z Z <| so E Z Z Z Z <| so E Z Z Z Z <| so E Z Z Z Z <| so y Z Z Z Z <| so y Z Z Z Z <| so y Z Z Z Z <| so y Z Z Z Z <| so E Z Z Z Z <| sp Y Z Z Z <| Yb fun hm e5=>r _ _ ⟨⟨true,by simp[el],(kp8 e5 Z Z Z Z Z Z Z Z)⟩,Z⟩
        rw[b] at ak
        have bn:=b;clear b;refine St.go ak <| sfFields6 ⟨_,E,Z,Z⟩ Z Z <| Qdk 0 c ⟨_,E,Z,Z⟩ Z Z Z Z <| sn ⟨_,E,Z,Z⟩ Z Z <| sm ⟨_,E,Z,Z⟩ Z Z <| fun it bf=>?_
        rcases Xa (!fs) with b | b
        ·rw[b] at bf
         have du:fs=false:=by simpa using b
         clear b;exact St.go bf <| sfIns7 ⟨_,y,Z,Z⟩ Z Z <| QfK 1 c ⟨_,y,Z,Z⟩ Z Z Z Z <| Qfv ⟨_,y,Z,Z⟩ Z Z <| sgt ⟨_,y,Z,Z⟩ Z Z Z <| sp ⟨_,E,Z,Z⟩ Z Z Z <| spf Y Z Z Z <| Yb fun i3 e9=>r _ _ ⟨⟨decide (0<(al:Int)),by simp[bn,du],(kp8 e9 Z Z Z Z Z Z Z Z)⟩,Z⟩
        rw[b] at bf
        have df:fs=true:=by simpa using b
        clear b;exact St.go bf <| so y Z Z Z Z <| so y Z Z Z Z <| so y Z Z Z Z <| so y Z Z Z Z <| spf ⟨_,E,Z,Z⟩ Z Z Z <| spf Y Z Z Z <| Yb fun h1 e2=>r _ _ ⟨⟨false,by simp[bn,df],(kp8 e2 Z Z Z Z Z Z Z Z)⟩,Z⟩
       ·clear ak;rintro io _ ⟨⟨d7,k,ch⟩,rfl⟩;replace k:Hid _:=k
        refine wpList_nil <| dx _ _ <| Qaf (t:=84) ch Z (fun b=>?_) (fun b=>?_)
        ·have dq:=b
         clear b;refine XW fun hh ef=>rg ch fun d=>sa Y Z Z <| Yb fun hn fl=>ef _ _ ?_
         refine XA ?_;with_reducible repeat first | refine Qz ?_ | refine Qw ?_
         have F:=QY u i.out m.out l.out h.out j.out g.out k.out (lm:=lm);have R:QL lm xop xa xb xc xk xn rl al=4:=by rw[F];simp[dq]
         exact Zw (t:=4) fl Z Z ⟨by rw[R],c.bel⟩
        have q:=b;clear b;refine XB <| eh _ _ <| XW fun hy P=>XW fun hj dk=>rg ch fun d=>sfIns0 Y Z Z <| QbW 1 c Y Z Z Z Z <| Yb fun ip ez=>dk _ _ <| XJ <| XW fun h3 c3=>rg ez fun d=>seq Y Z Z Z <| sa Y Z Z <| Yb fun ir cr=>c3 _ _ <| Qaf (t:=87) cr Z (fun b=>?_) (fun b=>?_)
        ·have G:xop=2:=XD b
         have a3:Hid (xop=2):=G;clear G;clear b;refine XW fun hu bm=>Qap <| fun d e=>?_
         have f:(d[3]?).bind (fun o:Oper=>o.dst)=some 92:=e 3;clear e;refine St.go cr <| sfIns4 Y Z Z <| QbW 1 c Y Z Z Z Z <| slt Y Z Z Z <| sm Y Z Z <| fun h8 bj=>?_
         rcases Xa (decide (xk<1)) with b | b
         ·rw[b] at bj
          have da:xk<1:=Xv b;clear b;refine St.go bj <| so f Z Z Z Z <| so f Z Z Z Z <| so f Z Z Z Z <| sp Y Z Z Z <| Yb fun hx dd=>bm _ _ <| QbS (t:=96) dd Z <| XW fun hk dw=>rg dd fun d=>sa Y Z Z <| Yb fun i5 eu=>dw _ _ ?_
          refine XA ?_;with_reducible repeat first | refine Qz ?_ | refine Qw ?_
          have F:=QY u i.out m.out l.out h.out j.out g.out k.out (lm:=lm);have R:QL lm xop xa xb xc xk xn rl al=1:=by rw[F];simp[q,a3.out,da]
          exact Zw (t:=4) eu Z Z ⟨by rw[R],c.bel⟩
         rw[b] at bj
         have bl:¬ (xk<1):=Xw b;clear b;refine St.go bj <| sfIns4 ⟨_,f,Z,Z⟩ Z Z <| QbW 1 c ⟨_,f,Z,Z⟩ Z Z Z Z <| sgt ⟨_,f,Z,Z⟩ Z Z Z <| spf Y Z Z Z <| Yb fun hz ce=>bm _ _ <| Qaf (t:=96) ce Z (fun b=>?_) (fun b=>?_)
         ·have en:9<xk:=Xv b
          clear b;refine XW fun ic dj=>rg ce fun d=>sa Y Z Z <| Yb fun hs e0=>dj _ _ ?_
          refine XA ?_;with_reducible repeat first | refine Qz ?_ | refine Qw ?_
          have F:=QY u i.out m.out l.out h.out j.out g.out k.out (lm:=lm);have R:QL lm xop xa xb xc xk xn rl al=1:=by rw[F];simp[q,a3.out,bl,en]
          exact Zw (t:=4) e0 Z Z ⟨by rw[R],c.bel⟩
         have dn:¬ (9<xk):=Xw b;clear b;refine XB <| P _ _ <| XW fun gh cf=>rg ce fun d=>sa Y Z Z <| Yb fun gz d8=>cf _ _ ?_
         refine XA ?_;with_reducible repeat first | refine Qz ?_ | refine Qw ?_
         have F:=QY u i.out m.out l.out h.out j.out g.out k.out (lm:=lm);have R:QL lm xop xa xb xc xk xn rl al=0:=by rw[F];simp[q,a3.out,bl,dn]
         exact Zw (t:=4) d8 Z Z ⟨by rw[R],c.bel⟩
        have G:¬ xop=2:=XE b;have p:¬ xop=2:=G;clear G;clear b;refine XW fun gr cl=>rg cr fun d=>seq Y Z Z Z <| sa Y Z Z <| Yb fun f2 a6=>cl _ _ <| Qaf (t:=97) a6 Z (fun b=>?_) (fun b=>?_)
        ·have G:xop=5:=XD b
         have av:Hid (xop=5):=G;clear G;clear b;refine XW fun gt bx=>rg a6 fun d=>sfIns7 Y Z Z <| QfK 1 c Y Z Z Z Z <| Qfv Y Z Z <| sgt Y Z Z Z <| Yb fun gj bb=>bx _ _ <| Qaf (t:=102) bb Z (fun b=>?_) (fun b=>?_)
         ·have cu:8<al:=by have:=Xv b;omega
          clear b;refine XW fun g3 ci=>rg bb fun d=>sa Y Z Z <| Yb fun f4 d9=>ci _ _ ?_
          refine XA ?_;with_reducible repeat first | refine Qz ?_ | refine Qw ?_
          have F:=QY u i.out m.out l.out h.out j.out g.out k.out (lm:=lm);have R:QL lm xop xa xb xc xk xn rl al=2:=by rw[F];simp[q,p,av.out,cu]
          exact Zw (t:=4) d9 Z Z ⟨by rw[R],c.bel⟩
         have b8:¬ (8<al):=by have:=Xw b;omega
         clear b;refine XB <| P _ _ <| XW fun fy cp=>rg bb fun d=>sa Y Z Z <| Yb fun f1 c7=>cp _ _ ?_
         refine XA ?_;with_reducible repeat first | refine Qz ?_ | refine Qw ?_
         have F:=QY u i.out m.out l.out h.out j.out g.out k.out (lm:=lm);have R:QL lm xop xa xb xc xk xn rl al=0:=by rw[F];simp[q,p,av.out,b8]
         exact Zw (t:=4) c7 Z Z ⟨by rw[R],c.bel⟩
        have G:¬ xop=5:=XE b;have s:¬ xop=5:=G;clear G;clear b;refine XW fun gv aq=>XW fun ge cs=>rg a6 fun d=>seq Y Z Z Z <| sa Y Z Z <| Yb fun f8 Q=>cs _ _ <| Qaf (t:=103) Q Z (fun b=>?_) (fun b=>?_)
        ·rw[b] at Q
         have G:xop=6:=XD b;have W:Hid (xop=6):=G;clear G;clear b;refine XB <| aq _ _ <| QbS (t:=103) Q Z <| XW fun g2 a2=>Qap <| fun d e=>?_
         have f:(d[3]?).bind (fun o:Oper=>o.dst)=some 109:=e 3;clear e;refine St.go Q <| sfIns4 Y Z Z <| QbW 1 c Y Z Z Z Z <| slt Y Z Z Z <| sm Y Z Z <| fun fq ag=>?_
         rcases Xa (decide (xk<0)) with b | b
         ·rw[b] at ag
          have cn:xk<0:=Xv b;clear b;refine St.go ag <| so f Z Z Z Z <| so f Z Z Z Z <| so f Z Z Z Z <| sp Y Z Z Z <| Yb fun gk br=>a2 _ _ <| QbS (t:=113) br Z <| XW fun gp cd=>rg br fun d=>sa Y Z Z <| Yb fun hc dz=>cd _ _ ?_
          refine XA ?_;with_reducible repeat first | refine Qz ?_ | refine Qw ?_
          have F:=QY u i.out m.out l.out h.out j.out g.out k.out (lm:=lm);have R:QL lm xop xa xb xc xk xn rl al=1:=by rw[F];simp[q,p,s,W.out,cn]
          exact Zw (t:=4) dz Z Z ⟨by rw[R],c.bel⟩
         rw[b] at ag
         have ay:¬ (xk<0):=Xw b;clear b;refine St.go ag <| sfIns4 ⟨_,f,Z,Z⟩ Z Z <| QbW 1 c ⟨_,f,Z,Z⟩ Z Z Z Z <| sgt ⟨_,f,Z,Z⟩ Z Z Z <| spf Y Z Z Z <| Yb fun gq az=>a2 _ _ <| Qaf (t:=113) az Z (fun b=>?_) (fun b=>?_)
         ·have c1:7<xk:=Xv b
          clear b;refine XW fun g8 b0=>rg az fun d=>sa Y Z Z <| Yb fun gc c4=>b0 _ _ ?_
          refine XA ?_;with_reducible repeat first | refine Qz ?_ | refine Qw ?_
          have F:=QY u i.out m.out l.out h.out j.out g.out k.out (lm:=lm);have R:QL lm xop xa xb xc xk xn rl al=1:=by rw[F];simp[q,p,s,W.out,ay,c1]
          exact Zw (t:=4) c4 Z Z ⟨by rw[R],c.bel⟩
         have ck:¬ (7<xk):=Xw b;clear b;refine XB <| P _ _ <| XW fun hd co=>rg az fun d=>sa Y Z Z <| Yb fun gn ei=>co _ _ ?_
         refine XA ?_;with_reducible repeat first | refine Qz ?_ | refine Qw ?_
         have F:=QY u i.out m.out l.out h.out j.out g.out k.out (lm:=lm);have R:QL lm xop xa xb xc xk xn rl al=0:=by rw[F];simp[q,p,s,W.out,ay,ck]
         exact Zw (t:=4) ei Z Z ⟨by rw[R],c.bel⟩
        rw[b] at Q
        have G:¬ xop=6:=XE b;have x:¬ xop=6:=G;clear G;clear b;refine rg Q fun d=>seq Y Z Z Z <| sa Y Z Z <| Yb fun gf U=>aq _ _ <| Qaf (t:=103) U Z (fun b=>?_) (fun b=>?_)
        ·rw[b] at U
         have G:xop=7:=XD b;have V:Hid (xop=7):=G;clear G;clear b;refine XW fun ft a5=>Qap <| fun d e=>?_
         have f:(d[3]?).bind (fun o:Oper=>o.dst)=some 109:=e 3;clear e;refine St.go U <| sfIns4 Y Z Z <| QbW 1 c Y Z Z Z Z <| slt Y Z Z Z <| sm Y Z Z <| fun g1 ah=>?_
         rcases Xa (decide (xk<0)) with b | b
         ·rw[b] at ah
          have bz:xk<0:=Xv b;clear b;refine St.go ah <| so f Z Z Z Z <| so f Z Z Z Z <| so f Z Z Z Z <| sp Y Z Z Z <| Yb fun gy bs=>a5 _ _ <| QbS (t:=113) bs Z <| XW fun ga b2=>rg bs fun d=>sa Y Z Z <| Yb fun he dc=>b2 _ _ ?_
          refine XA ?_;with_reducible repeat first | refine Qz ?_ | refine Qw ?_
          have F:=QY u i.out m.out l.out h.out j.out g.out k.out (lm:=lm);have R:QL lm xop xa xb xc xk xn rl al=1:=by rw[F];simp[q,p,s,x,V.out,bz]
          exact Zw (t:=4) dc Z Z ⟨by rw[R],c.bel⟩
         rw[b] at ah
         have ai:¬ (xk<0):=Xw b;clear b;refine St.go ah <| sfIns4 ⟨_,f,Z,Z⟩ Z Z <| QbW 1 c ⟨_,f,Z,Z⟩ Z Z Z Z <| sgt ⟨_,f,Z,Z⟩ Z Z Z <| spf Y Z Z Z <| Yb fun gx ba=>a5 _ _ <| Qaf (t:=113) ba Z (fun b=>?_) (fun b=>?_)
         ·have cg:7<xk:=Xv b
          clear b;refine XW fun f3 b1=>rg ba fun d=>sa Y Z Z <| Yb fun gw dt=>b1 _ _ ?_
          refine XA ?_;with_reducible repeat first | refine Qz ?_ | refine Qw ?_
          have F:=QY u i.out m.out l.out h.out j.out g.out k.out (lm:=lm);have R:QL lm xop xa xb xc xk xn rl al=1:=by rw[F];simp[q,p,s,x,V.out,ai,cg]
          exact Zw (t:=4) dt Z Z ⟨by rw[R],c.bel⟩
         have cj:¬ (7<xk):=Xw b;clear b;refine XB <| P _ _ <| XW fun fz cw=>rg ba fun d=>sa Y Z Z <| Yb fun g6 ed=>cw _ _ ?_
         refine XA ?_;with_reducible repeat first | refine Qz ?_ | refine Qw ?_
         have F:=QY u i.out m.out l.out h.out j.out g.out k.out (lm:=lm);have R:QL lm xop xa xb xc xk xn rl al=0:=by rw[F];simp[q,p,s,x,V.out,ai,cj]
         exact Zw (t:=4) ed Z Z ⟨by rw[R],c.bel⟩
        rw[b] at U
        have G:¬ xop=7:=XE b;have M:¬ xop=7:=G;clear G;clear b;refine XW fun f5 b3=>rg U fun d=>seq Y Z Z Z <| sa Y Z Z <| Yb fun f7 bc=>b3 _ _ <| Qaf (t:=114) bc Z (fun b=>?_) (fun b=>?_)
        ·have G:xop=14:=XD b
         have N:Hid (xop=14):=G;clear G;clear b;refine XW fun fw b4=>XW fun g0 ax=>Qap <| fun d e=>?_
         have f:(d[3]?).bind (fun o:Oper=>o.dst)=some 119:=e 3;clear e;refine St.go bc <| sfIns4 Y Z Z <| QbW 1 c Y Z Z Z Z <| slt Y Z Z Z <| sm Y Z Z <| fun gd af=>?_
         rcases Xa (decide (xk<0)) with b | b
         ·rw[b] at af
          have cz:xk<0:=Xv b;clear b;refine St.go af <| so f Z Z Z Z <| so f Z Z Z Z <| so f Z Z Z Z <| so f Z Z Z Z <| so f Z Z Z Z <| so f Z Z Z Z <| sp Y Z Z Z <| Yb fun ha bo=>ax _ _ <| QbS (t:=126) bo Z <| XW fun fu c0=>rg bo fun d=>sa Y Z Z <| Yb fun gu d0=>c0 _ _ ?_
          refine XA ?_;with_reducible repeat first | refine Qz ?_ | refine Qw ?_
          have F:=QY u i.out m.out l.out h.out j.out g.out k.out (lm:=lm);have R:QL lm xop xa xb xc xk xn rl al=1:=by rw[F];simp[q,p,s,x,M,N.out,cz]
          exact Zw (t:=4) d0 Z Z ⟨by rw[R],c.bel⟩
         rw[b] at af
         have S:¬ (xk<0):=Xw b;clear b;refine St.go af <| sfIns4 ⟨_,f,Z,Z⟩ Z Z <| QbW 1 c ⟨_,f,Z,Z⟩ Z Z Z Z <| sfModule0 ⟨_,f,Z,Z⟩ Z Z <| QlV 2 c ⟨_,f,Z,Z⟩ Z Z Z Z <| QlW ⟨_,f,Z,Z⟩ Z Z <| sge ⟨_,f,Z,Z⟩ Z Z Z <| spf Y Z Z Z <| Yb fun f9 aw=>ax _ _ <| Qaf (t:=126) aw Z (fun b=>?_) (fun b=>?_)
         ·have b7:(lm:Int)<=xk:=Xv b
          clear b;refine XW fun gm cy=>rg aw fun d=>sa Y Z Z <| Yb fun gg ea=>cy _ _ ?_
          refine XA ?_;with_reducible repeat first | refine Qz ?_ | refine Qw ?_
          have F:=QY u i.out m.out l.out h.out j.out g.out k.out (lm:=lm);have R:QL lm xop xa xb xc xk xn rl al=1:=by rw[F];simp[q,p,s,x,M,N.out,S,b7]
          exact Zw (t:=4) ea Z Z ⟨by rw[R],c.bel⟩
         have X:¬ ((lm:Int)<=xk):=Xw b;clear b;refine XB <| b4 _ _ <| XW fun f6 a0=>Qap <| fun d e=>?_
         have T:(d[4]?).bind (fun o:Oper=>o.dst)=some 131:=e 4;clear e;refine St.go aw <| sfIns6 Y Z Z <| QfK 1 c Y Z Z Z Z <| Qfv Y Z Z <| sgt Y Z Z Z <| sm Y Z Z <| fun g9 ae=>?_
         rcases Xa (decide (6<(rl:Int))) with b | b
         ·rw[b] at ae
          have cq:6<rl:=by have:=Xv b;omega
          clear b;refine St.go ae <| so T Z Z Z Z <| so T Z Z Z Z <| so T Z Z Z Z <| so T Z Z Z Z <| sp Y Z Z Z <| Yb fun fv bp=>a0 _ _ <| QbS (t:=136) bp Z <| XW fun g4 cb=>rg bp fun d=>sa Y Z Z <| Yb fun gb ee=>cb _ _ ?_
          refine XA ?_;with_reducible repeat first | refine Qz ?_ | refine Qw ?_
          have F:=QY u i.out m.out l.out h.out j.out g.out k.out (lm:=lm);have R:QL lm xop xa xb xc xk xn rl al=2:=by rw[F];simp[q,p,s,x,M,N.out,S,X,cq]
          exact Zw (t:=4) ee Z Z ⟨by rw[R],c.bel⟩
         rw[b] at ae
         have aj:¬ (6<rl):=by have:=Xw b;omega
         clear b;refine St.go ae <| sfIns7 ⟨_,T,Z,Z⟩ Z Z <| QfK 1 c ⟨_,T,Z,Z⟩ Z Z Z Z <| Qfv ⟨_,T,Z,Z⟩ Z Z <| sgt ⟨_,T,Z,Z⟩ Z Z Z <| spf Y Z Z Z <| Yb fun g7 a1=>a0 _ _ <| Qaf (t:=136) a1 Z (fun b=>?_) (fun b=>?_)
         ·have cv:8<al:=by have:=Xv b;omega
          clear b;refine XW fun fx b5=>rg a1 fun d=>sa Y Z Z <| Yb fun g5 ek=>b5 _ _ ?_
          refine XA ?_;with_reducible repeat first | refine Qz ?_ | refine Qw ?_
          have F:=QY u i.out m.out l.out h.out j.out g.out k.out (lm:=lm);have R:QL lm xop xa xb xc xk xn rl al=2:=by rw[F];simp[q,p,s,x,M,N.out,S,X,aj,cv]
          exact Zw (t:=4) ek Z Z ⟨by rw[R],c.bel⟩
         have ct:¬ (8<al):=by have:=Xw b;omega
         clear b;refine XB <| P _ _ <| XW fun f0 ca=>rg a1 fun d=>sa Y Z Z <| Yb fun gi ej=>ca _ _ ?_
         refine XA ?_;with_reducible repeat first | refine Qz ?_ | refine Qw ?_
         have F:=QY u i.out m.out l.out h.out j.out g.out k.out (lm:=lm);have R:QL lm xop xa xb xc xk xn rl al=0:=by rw[F];simp[q,p,s,x,M,N.out,S,X,aj,ct]
         exact Zw (t:=4) ej Z Z ⟨by rw[R],c.bel⟩
        have G:¬ xop=14:=XE b;have cc:¬ xop=14:=G;clear G;clear b;refine XB <| P _ _ <| XW fun gl cx=>rg bc fun d=>sa Y Z Z <| Yb fun gs dv=>cx _ _ ?_
        refine XA ?_;with_reducible repeat first | refine Qz ?_ | refine Qw ?_
        have F:=QY u i.out m.out l.out h.out j.out g.out k.out (lm:=lm);have R:QL lm xop xa xb xc xk xn rl al=0:=by rw[F];simp[q,p,s,x,M,cc]
        exact Zw (t:=4) dv Z Z ⟨by rw[R],c.bel⟩
theorem QmC (j:QJ xop=none) (xa xb xc xk xn:Int) (A ra aa:Option Addr) (lm y rl rc al ac:Nat) (w:World) :
 Rd prog 80 #[.agg #[.slice A lm y],.agg #[Iv xop,Iv xa,Iv xb,Iv xc,Iv xk,Iv xn,.slice ra rl rc,.slice aa al ac]] w (Iv (QL lm xop xa xb xc xk xn rl al)):=by
 refine Qhr (n:=137) func80 Z Z Z <| fun a k=>?_
 have P:=Ye w;replace k:Fr 137 a [(0,.agg #[.slice A lm y]),(1,.agg #[Iv xop,Iv xa,Iv xb,Iv xc,Iv xk,Iv xn,.slice ra rl rc,.slice aa al ac])]:=k;refine XW fun V l=>rg k fun c=>sB P Y Z Z <| fun w2 W r C=>sB r Y Z Z <| fun O B3 h C=>sa Y Z Z <| Yb fun a4 T=>l _ _ <| XW fun X m=>rg T fun c=>sfIns0 Y Z Z <| QbW 0 h Y Z Z Z Z <| Qoa cf128 h (QhO j O) Y Z Z <| fun B o=>sm Y Z Z <| fun D u=>QeM (t:=11) (v:=.agg #[.bool false,.bool false,.bool false,.bool false,.bool false,.bool false,.bool false]) (w':=B) u Z Z Z (fun K q=>?_) ?_
 ·have F:D.tmps.getD 7 undef=.tuple #[.agg #[.bool false,.bool false,.bool false,.bool false,.bool false,.bool false,.bool false],.bool false]:=u.sl 7 _ Z
  go_simp;exact q
 clear u;intro S b;refine QeM (t:=12) (v:=.bool false) (w':=B) b Z Z Z (fun K q=>?_) ?_
 ·have F:S.tmps.getD 7 undef=.tuple #[.agg #[.bool false,.bool false,.bool false,.bool false,.bool false,.bool false,.bool false],.bool false]:=b.sl 7 _ Z
  go_simp;exact q
 clear b;intro U p;refine St.go p <| Qhb o Y Z <| fun N E e C=>sT 0 e Z Z infFields Z Z Z <| fun G g=>sa Y Z Z <| Yb fun M s=>m _ _ <| XW fun J z=>XW fun Q d=>rg s fun c=>sm Y Z Z <| sn Y Z Z <| Yb fun H f=>d _ _ <| QbS (t:=14) f Z <| XW fun I i=>rg f fun c=>sa Y Z Z <| Yb fun L x=>i _ _ ?_
 refine XA ?_;with_reducible repeat first | refine Qz ?_ | refine Qw ?_
 have R:QL lm xop xa xb xc xk xn rl al=3:=by simp[QL,j]
 exact Zw (t:=4) x Z Z ⟨by rw[R],g.bel⟩
theorem Qdx (d:Nat) (x:Qx) (i:IP) (f:Option Addr) (e:Nat) (w:World) :
 Rd prog 80 #[.agg #[.slice f d e],.agg #[Iv x.op,Iv x.a,Iv x.b,Iv x.c,Iv x.k,Iv x.n,.slice i.pR x.regs.length i.cR,.slice i.pA x.args.length i.cA]] w (Iv (x.form d)):=by
 rw[Qx.form_eq]
 cases h:QJ x.op with
 | none=>exact QmC h _ _ _ _ _ _ _ _ _ _ _ _ _ _ _
 | some p=>obtain⟨a,b,c,k,n,r,s⟩:=p;exact Qk1 h _ _ _ _ _ _ _ _ _ _ _ _ _ _ _
end Go.Proofs.YtiebmclhgebhpafGreat
