import Derived.Test.YtiebmclhgebhpafGreatP3
import Derived.Defers
import Derived.Recover
set_option maxHeartbeats 16000000
set_option maxRecDepth 100000
namespace Go.Proofs.YtiebmclhgebhpafGreat
open Go.ChangeShapes Go.WideShapes Go.ChangeAt Go.RowKit _root_.Go.Proofs.Tryz
set_option linter.unusedSimpArgs false
set_option linter.unusedVariables false
variable {w w' w6 w2 wc wr w1:World}{n b c X k m i B rc ac g cm N j fi bi bh R f q id cap most na ca fm d x fl cR rl al fc fd cA bl pages o ci lm cL fe:Nat}{O O' Q2 OO:Nat→Prop}{a p ag pm pa pR pA ra pi aa fp fq:Option Addr}{v u:Value}{Q:Exit→Act→World→Prop}{l inp:List Int}{t bt e:TypeId}{xa xc xb xk fr words xop xn:Int}{P:Program}{cs xs ds:List Value}{bs:List Bool}{ops:Array Oper}
def k9E (b X N lc gL nl cL lg lo k j uc vc:Nat) (u y:TT 6) (ua va:Option Addr) (q:Bool) (t:Tmp) (v:Value) (w:World):Prop :=
 v=(([(0,Pv b 0),(1,.slice (some ⟨lg,lo,none⟩) N lc),(9,Iv (k:Int)),(10,Pv X 0),(11,.bool true),(49,.bool true),(50,.bool false),(51,.bool false),(52,.agg #[Iv u.kind,Iv u.r,.slice ua u.len uc]),(53,Pv b 0),(54,Pv b 0),(55,Pv b 6),(56,.slice (some ⟨gL,0,none⟩) nl cL),(57,.slice (some ⟨lg,lo,none⟩) N lc),(58,Iv (k:Int)),(59,Pv lg (lo+k)),(60,Iv (j:Int)),(61,Pv gL (j*3)),(62,.agg #[Iv y.kind,Iv y.r,.slice va y.len vc]),(63,.bool q),(64,.bool (!q)),(65,.bool (!q))]:List (Tmp × Value)).lookup t).getD undef
theorem k9 {F f C z lo o vc:Nat}{u y:TT 6}{i va:Option Addr}{q:Bool}{Q R:Nat->Prop}
 (x0:w6.cell? ⟨X,0,none⟩=some (Iv u.kind)) (P:w6.cell? ⟨X,1,none⟩=some (Iv u.r)) (V:w6.cell? ⟨X,2,none⟩=some (.slice i u.len o))
 (G:w6.cell? ⟨b,6,none⟩=some (.slice (some ⟨f,0,none⟩) C cL)) (U:w6.cell? ⟨z,lo+k,none⟩=some (Iv (j:Int)))
 (I:w6.cell? ⟨f,j*3,none⟩=some (Iv y.kind)) (J:w6.cell? ⟨f,j*3+1,none⟩=some (Iv y.r)) (W:w6.cell? ⟨f,j*3+2,none⟩=some (.slice va y.len vc))
 (aa:(k:Int)<N) (H:(j:Int)<C) (T:Hid (TIn w6 Q u i)) (HV:Hid (TIn w6 R y va)) (L:Hid (u.count<=100000)) (HQ:Hid (q=true↔u=y))
 (a:Act) (m:Nat) (hn:a.tmps.size=m) (l:66<=m) (O:a.tmps.getD 0 undef=Pv b 0) (S:a.tmps.getD 1 undef=.slice (some ⟨z,lo,none⟩) N F) (h9:a.tmps.getD 9 undef=Iv (k:Int)) (A:a.tmps.getD 10 undef=Pv X 0) (p:a.tmps.getD 11 undef=.bool true) :
 Code.wp prog ((Tryz.f105.body.bind (Qf 9)).getD .skip) (fun e a' w'=>e=.normal/\∃ vs,a'=QC a vs [49,50,51,52,53,54,55,56,57,58,59,60,61,62,63,64,65]/\vs 65=.bool (!q)/\Below w6.heap.size w6 w') a w6:=by
 conv=>arg 2;whnf
 refine Qu (k9E b X N F f C cL z lo k j o vc u y i va q) (fun w=>Below w6.heap.size w6 w) (fun w w'=>Below w.heap.size w w') (outs:=[0,1,9,10,11]) (gs:=[(2,some false)]) (bs:=[true,true,true,true,true,true,true,true,true,true,true,true,true,true,true,true,true]) (by kernel_rfl) (n:=66) hn l (by kernel_rfl) ?hR ?hG (Qh Zr 1) ⟨O,S,h9,A,p,Y⟩ ?hA ?hend
 case hR=>exact fun t v w w' _ h=>h
 case hG=>exact⟨fun t ht v w _ h=>by cases ht;exact h,Y⟩
 case hend=>exact fun vs w' c g=>⟨Z,vs,Z,g 65 (by kernel_rfl),c⟩
 case hA =>
  repeat
   refine⟨fun a w c g K B=>?_,?_⟩
   focus first
    | obtain⟨d,-⟩:=g
      conv at d=>whnf;rhs;whnf
      have c0:=Qn x0 c;have c1:=Qn P c;have c2:=Qn V c;have c3:=Qn G c;have c4:=Qn U c;have c5:=Qn I c;have c6:=Qn J c;have c7:=Qn W c;go_simp;exact B _ _ Zr c Z
    | obtain⟨d,x,-⟩:=g
      conv at d=>whnf;rhs;whnf
      conv at x=>whnf;rhs;whnf
      go_simp;exact B _ _ Zr c Z
    | obtain⟨d,x,-⟩:=g
      conv at d=>whnf;rhs;whnf
      conv at x=>whnf;rhs;whnf
      go_simp;refine(samet_any 6 u y i va o vc w (T.out.below c).all (HV.out.below c).all L.out).mono ?_;rintro r7 w7 ⟨⟨M,rfl,D⟩,E⟩
      have s:M=q:=Bool.eq_iff_iff.2 (D.trans HQ.out.symm);subst s;go_simp;exact B _ _ E (c.trans (E.mono c.size)) Z
  trivial
theorem Qin {s:JSt}{ts:List (TT 6)}{regs:List Int}{x:Int}{t:TT 6}(a:l[k]?=some x) (b:ts[k]?=some t) :
 QD (fun p:Int × TT 6=>s.arg regs p.1 p.2) ((l.zip ts).drop k)=if s.arg regs x t=0 then QD (fun p:Int × TT 6=>s.arg regs p.1 p.2) ((l.zip ts).drop (k+1)) else s.arg regs x t:=by
 have c:k<(l.zip ts).length:=by
  rw[List.length_zip]
  have:=(Zi a).1
  have:=(Zi b).1
  omega
 have e:(l.zip ts)[k]=(x,t):=by
  rw[List.getElem_zip]
  exact Prod.ext (Zi a).2 (Zi b).2
 rw[List.drop_eq_getElem_cons c,e,QD]
 by_cases h:s.arg regs x t=0
 ·rw[Xs h,Xr (by simpa using h)]
 ·rw[Xr h,Xs h]
theorem Qdn {Q1 Q3:Nat->Prop}{s:JSt}{regs:List Int}{ts:List (TT 6)}{la ta:Option Addr}{lc M tc K:Nat}(hN:l.length=N) (hM:ts.length=M) (hK:regs.length=K) (a9:N<=100000) (a8:M<=100000) (hL:s.L.length<=80)
 (hl:intsL.In w Q1 l [.slice la N lc]) (ht:(Qt 6).In w Q2 ts [.slice ta M tc]) (hr:intsL.In w Q3 regs [.slice ra K rc]) (hc:∀ t∈ts,t.count<=2000) (h:KAt w b O s) :
 Calls prog 105 #[Pv b 0,.slice la N lc,.slice ta M tc,.slice ra K rc] w fun e w'=>e=.returned (Iv (s.args l ts regs))/\Below w.heap.size w w':=by
 have S:Hid (l.length=N):=hN;have HM:Hid (ts.length=M):=hM;have HK:Hid (regs.length=K):=hK;have HL:Hid (intsL.In w Q1 l [.slice la N lc]):=hl;have HT:Hid ((Qt 6).In w Q2 ts [.slice ta M tc]):=ht;have HR:Hid (intsL.In w Q3 regs [.slice ra K rc]):=hr;have HC:Hid (∀ t∈ts,t.count<=2000):=hc;obtain⟨pm,cm,a1,c1,a2,c2,a3,c3,hh,aL,cL,R⟩:=h.read
 have HD:Hid (TRd w (fun g=>¬ O g) aL s.L):=R.row;obtain⟨-,-,-,-,-,-,q6⟩:=R.cells
 clear hN hM hK hl ht hr hc h R;by_cases ad:N=M
 ·subst ad;have ah:((N:Int)==(N:Int))=true:=beq_iff_eq.2 Z
  have EA:Hid (s.args l ts regs=QD (fun p:Int × TT 6=>s.arg regs p.1 p.2) ((l.zip ts).drop 0)):=by
   show _=_;unfold JSt.args;rw[Xs (by rw[S.out,HM.out])];rfl
  go_enter func105,ntmps105
  go_wp2_with fail
  go_loopw [9] (fun i wr=>∃ k:Nat,k<=N/\i=Iv k/\s.args l ts regs=QD (fun p:Int × TT 6=>s.arg regs p.1 p.2) ((l.zip ts).drop k)/\Below w.heap.size w wr) (fun i _=>N - (intOf i).toNat)
  case atStart=>exact⟨0,Xb _,Z,EA.out,Zr⟩
  case round =>
   obtain⟨k,hk,rfl,hE,hB⟩:=hrel
   have T:Hid (s.args l ts regs=QD (fun p:Int × TT 6=>s.arg regs p.1 p.2) ((l.zip ts).drop k)):=hE;have D:Hid (Below w.heap.size w wr):=hB;have F:wr.cell? ⟨b,6,none⟩=some (.slice aL s.L.length cL):=Qn q6 hB;clear hE hB EA;by_cases B:k<N
   ·have y:l[k]?=some (l[k]'(by rw[S.out];exact B)):=Zg _;generalize l[k]'(by rw[S.out];exact B)=x at y;have f:ts[k]?=some (ts[k]'(by rw[HM.out];exact B)):=Zg _;generalize ts[k]'(by rw[HM.out];exact B)=t at f;obtain⟨lg,lo,rfl,-,-,Q⟩:=ZW HL.out (i:=k) (by rw[S.out];exact B)
    have ex:l.getD k 0=x:=by simp[List.getD,y]
    rw[ex] at Q
    have z0:wr.cell? ⟨lg,lo+k,none⟩=some (Iv x):=Qn Q D.out;have ay:(k:Int)<N:=by omega
    have a7:(0:Int)<=k:=by omega
    have q:=Qin (s:=s) (regs:=regs) y f;clear Q ex;by_cases o:x<0
    ·have E:Hid (s.args l ts regs=1):=by
      show _=_
      have:s.arg regs x t=1:=by unfold JSt.arg JSt.at;rw[Xs o]
      rw[T.out,q,this];rfl
     have V:decide (x<0)=true:=by simpa using o
     clear q y f;generalize s.L.length=nl at F hL;go_wp2_with fail
     go_quiet (fail)
     go_wp2
     go_ret;exact⟨by rw[E.out];rfl,Qh D.out _⟩
    obtain⟨j,rfl⟩:=Xc (show 0<=x by omega)
    have V:decide ((j:Int)<0)=false:=Xu (by omega);by_cases J:j<s.L.length
    ·have G:s.L[j]?=some s.L[j]:=Zg J;generalize s.L[j]=v at G;have ab:s.at (j:Int)=some v:=by unfold JSt.at;rw[Xr o];exact G
     obtain⟨gL,va,vc,rfl,v0,v1,v2,v3,-⟩:=(HD.out.below D.out) j v G
     obtain⟨tl,af⟩:=Q8 (Ya HT.out D.out)
     obtain⟨tg,a6,am,av,rfl,-,t0,t1,t2,t3⟩:=LIn.at tl f
     have aj:(j:Int)<s.L.length:=by omega
     have C:decide ((s.L.length:Int)<=j)=false:=Xu (by omega);have ai:Hid (TIn wr All t am):=t3.all;have HV:Hid (TIn wr (fun g=>¬ O g) v va):=v3;have U:Hid (t.count<=2000):=HC.out t (Zm f);have ax:Hid (QkC wr ra K (fun i=>regs.getD i 0)):=(Qm4 HK.out HR.out).below D.out
     have a:Hid (s.arg regs (j:Int) t=if bdec (t.ren K (fun i=>regs.getD i 0)=some v) then 0 else 9):=by
      show _=_;unfold JSt.arg;rw[ab,HK.out]
     have z:=Qg q;clear q y f tl af t3 v3 ab G o;generalize s.L.length=nl at F hL J aj C;go_wp2_with fail
     go_quiet (fail)
     go_wp2_with fail
     refine(renamedT_any 6 t am av ra K rc (fun i=>regs.getD i 0) (wr.drewN nq) (ai.out.drewN nq) U.out (ax.out.below (Qh Zr nq))).mono ?_
     intro e2 H hO
     cases hren:t.ren K (fun i=>regs.getD i 0) with
     | none =>
       rw[hren] at hO
       obtain⟨rfl,b2⟩:=hO
       have E:Hid (s.args l ts regs=9):=by
        show _=_
        have:s.arg regs (j:Int) t=9:=by rw[a.out,hren,Qy (by simp)];rfl
        rw[T.out,z.out,this];rfl
       have W:Hid (Below w.heap.size w H):=(Qh D.out nq).trans (b2.mono (by simpa using D.out.size));clear a z hren b2;go_wp2_with fail
       go_quiet (fail)
       go_wp2
       go_ret;exact⟨by rw[E.out];rfl,Qh (W.out.alloc W.out.size _) _⟩
     | some u =>
       rw[hren] at hO
       obtain⟨ua,uc,rfl,u1,b2⟩:=hO
       have d:Below wr.heap.size wr H:=(Qh Zr nq).trans b2;have W:Hid (Below w.heap.size w H):=D.out.trans (d.mono D.out.size);have ac:Hid (TIn H (QdN wr.heap.size) u ua):=u1;have al:Hid (TIn H (fun g=>¬ O g) v va):=HV.out.below d;have a4:Hid (u.count<=100000):=by show _<=_;rw[TT.ren_count hren];have:=U.out;omega
       have an:=Qn F d;have ag:=Qn z0 d;have ao:=Qn v0 d;have ae:=Qn v1 d;have ak:=Qn v2 d;have n:Hid (t.ren K (fun i=>regs.getD i 0)=some u):=hren;clear hren u1 b2 d F z0 v0 v1 v2 t0 t1 t2 HV ai;go_upto_region 9 with fail
       obtain⟨P,I⟩:∃ P,H.alloc (.cells #[Iv u.kind,Iv u.r,.slice ua u.len uc] 105)=P:=⟨_,Z⟩
       obtain⟨X,hX⟩:∃ X,H.heap.size=X:=⟨_,Z⟩
       have m:P.heap[X]?=some (.cells #[Iv u.kind,Iv u.r,.slice ua u.len uc] 105 (0,0)):=by rw[<-I,<-hX];exact Qe _ _ _
       have c:Below H.heap.size H P:=by rw[<-I];exact ZR _ _
       have x0:=Qa m 0 _ Z;have x1:=Qa m 1 _ Z;have x2:=Qa m 2 _ Z;have aq:Hid (TIn P (QdN wr.heap.size) u ua):=ac.out.below c;have ap:Hid (TIn P (fun g=>¬ O g) v va):=al.out.below c;have B6:Hid (Below w.heap.size w P):=W.out.trans (c.mono W.out.size);have aw:=Qn an c;have au:=Qn ag c;have az:=Qn ao c;have ar:=Qn ae c;have a0:=Qn ak c;rw[I,hX]
       clear I hX m c an ag ao ae ak ac al;have HQ:Hid (bdec (u=v)=true↔u=v):=QcU;refine Code.wp_mono ?_ (k9 x0 x1 x2 aw au az ar a0 ay aj aq ap a4 HQ _ _ Z (Xg (by kernel_rfl)) Z Z Z Z Z);rintro ee aa w7 ⟨rfl,vs,rfl,hv,hb⟩;simp only[QC,Act.put,List.setIfInBounds_toArray,List.set_cons_zero,List.set_cons_succ,hv]
       have B7:Hid (Below w.heap.size w w7):=B6.out.trans (hb.mono B6.out.size);clear hb hv;by_cases A:u=v
       ·have E:Hid (s.args l ts regs=QD (fun p:Int × TT 6=>s.arg regs p.1 p.2) ((l.zip ts).drop (k+1))):=by
         show _=_
         have:s.arg regs (j:Int) t=0:=by rw[a.out,n.out,QG (by rw[A])];rfl
         rw[T.out,z.out,Xs this]
        rw[QG A]
        clear A a z n HQ;go_wp2
        go_roundw
        case rel=>exact⟨k+1,by omega,by go_num,E.out,B7.out⟩
        case measure=>simp[intOf];omega
       ·have E:Hid (s.args l ts regs=9):=by
         show _=_
         have:s.arg regs (j:Int) t=9:=by rw[a.out,n.out,Qy (fun e=>A (Xn e))];rfl
         rw[T.out,z.out,this];rfl
        rw[Qy A]
        clear A a z n HQ;go_wp2
        go_ret;exact⟨by rw[E.out];rfl,B7.out⟩
    ·have E:Hid (s.args l ts regs=1):=by
      show _=_
      have:s.arg regs (j:Int) t=1:=by
       unfold JSt.arg JSt.at;rw[Xr o,XT,Xk (by omega)]
      rw[T.out,q,this];rfl
     have C:decide ((s.L.length:Int)<=j)=true:=Xt (by omega);clear q y f o;generalize s.L.length=nl at F hL J C;go_wp2_with fail
     go_quiet (fail)
     go_wp2
     go_ret;exact⟨by rw[E.out];rfl,Qh D.out _⟩
   ·have E:Hid (s.args l ts regs=0):=by
     show _=_;rw[T.out,List.drop_of_length_le (by rw[List.length_zip,S.out];omega)]
     rfl
    have a5:¬ (k:Int)<N:=by omega
    go_wp2
    go_ret;exact⟨by rw[E.out];rfl,D.out⟩
 ·have E:Hid (s.args l ts regs=2):=by
   show _=_;unfold JSt.args;rw[Xr (by rw[S.out,HM.out];exact ad)]
  have ah:((N:Int)==(M:Int))=false:=beq_eq_false_iff_ne.2 (by omega);go_enter func105,ntmps105
  go_wp2
  go_ret;exact⟨by rw[E.out];rfl,Zr⟩
theorem XG:type_of% @Nat.not_lt_zero:=@Nat.not_lt_zero
abbrev toV (x:MTo) (rg ag:Option Addr) (rc ac:Nat):Value:=.agg #[Iv x.block,.slice rg x.regs.length rc,.slice ag x.args.length ac]
theorem underBk:∃ fs,prog.underlying 86=some (.struct fs):=⟨_,underlying86⟩
theorem sizeBk:(prog.info? 86).map (·.size)=some 12:=by kernel_rfl
theorem Qdq {Q:Nat->Prop}{m:List (MBlock 6)}(h:(ZV 6).list.In w Q m [.slice p n c]){g:MBlock 6}(q:m[k]?=some g) :
 ∃ mg mo a1 c1 es,p=some ⟨mg,mo,none⟩/\w.rangeAt mg (mo+k*12) (Iv g.regs::.slice a1 g.params.length c1::es)/\es.length=10/\(Qt 6).In w Q g.params [.slice a1 g.params.length c1]/\∀ v∈es,v.oneCell'=true:=by
 obtain⟨mg,mo,F,u,J,X,d,l⟩:=Yf h q
 obtain⟨a1,c1,S,U,es,rfl,A,N,B,h4⟩:=Qcs l
 obtain⟨R,T,P,H,rfl,D,C,h5,G⟩:=Qhe B
 obtain⟨K,u2,M,W,rfl,-,-,-⟩:=Qgv D
 obtain⟨I,V,O,L,rfl,-,-,-⟩:=Qgv C
 have f:∀ a,a.length=12->(∀ v∈a,v.oneCell'=true)->(∀ j,j<12->w.cell? ⟨mg,mo+k*12+j,none⟩=a[j]?)->∀ x y es,a=x::y::es->w.rangeAt mg (mo+k*12) (x::y::es)/\es.length=10/\∀ v∈es,v.oneCell'=true:=by
  intro a o z d x y es e;subst e;refine⟨fun j v i=>?_,by simpa using o,fun v b=>z v (by simp[b])⟩
  have E:=(Zi i).1;rw[d j (by omega),i]
 obtain⟨r,s,t⟩:=f _ Z (fun v b=>by
  simp only[List.mem_cons,List.cons_append,List.nil_append,List.not_mem_nil,or_false] at b
  rcases b with rfl | rfl | rfl | rfl | rfl | rfl | rfl | rfl | rfl | rfl | rfl | rfl<;>rfl) d _ _ _ Z
 exact⟨mg,mo,a1,c1,_,u,r,s,A,t⟩
theorem Qa2 (h:w.rangeAt b o cs) (k:Below w.heap.size w w'):w'.rangeAt b o cs:=fun j v a=>Qn (h j v a) k
def Qn0 (w6:World) (b X mg mo nb cb k:Nat) (ds:List Value) (t:Tmp) (v:Value) (w:World):Prop :=
 match ([(5,fun v w=>∃ B,v=.pointer (some ⟨B,0,none⟩)/\w6.heap.size<=B/\∃ c,c.size=12/\Blk w B c 86)]:List (Tmp × (Value->World->Prop))).lookup t with
 | some p=>p v w
 | none=>v=(([(0,.pointer (some ⟨b,0,none⟩)),(3,.pointer (some ⟨X,0,none⟩)),(8,.pointer (some ⟨b,0,none⟩)),(9,.pointer (some ⟨b,0,none⟩)),(10,.pointer (some ⟨b,1,none⟩)),(11,.pointer (some ⟨b,4,none⟩)),(12,.slice (some ⟨mg,mo,none⟩) nb cb),(13,.pointer (some ⟨X,0,none⟩)),(14,.int .i64 (k:Int)),(15,.pointer (some ⟨mg,mo+k*12,none⟩)),(16,.agg ds.toArray)]:List (Tmp × Value)).lookup t).getD undef
theorem kt1 {o l s y:Nat}(C:w6.cell? ⟨b,4,none⟩=some (.slice (some ⟨o,l,none⟩) s y)) (G:w6.cell? ⟨X,0,none⟩=some (Iv (k:Int))) (A:Hid (w6.rangeAt o (l+k*12) ds)) (r:ds.length=12) (I:(k:Int)<s)
 (a:Act) (m:Nat) (hn:a.tmps.size=m) (q:57<=m) (D:a.tmps.getD 0 undef=Pv b 0) (u:a.tmps.getD 3 undef=Pv X 0)
 (hend:∀ ops vs w',vs 16=.agg ds.toArray->(fun v w=>∃ B,v=Pv B 0/\w6.heap.size<=B/\∃ c,c.size=12/\Blk w B c 86) (vs 5) w'->Below w6.heap.size w6 w'->wpList prog ops Q (QaI 10 ((Tryz.f103.body.bind (Qf 1)).getD .skip)) (QC a vs [8,9,10,11,12,13,14,15,16,5]) w') :
 Code.wp prog ((Tryz.f103.body.bind (Qf 1)).getD .skip) Q a w6:=by
 conv=>arg 2;whnf
 refine Qj 10 (Qn0 w6 b X o l s y k ds) (fun w=>Below w6.heap.size w6 w) (fun w w'=>Below w.heap.size w w') (outs:=[0,3]) (gs:=[]) (bs:=[true,true,true,true,true,true,true,true,true,true]) (by kernel_rfl) (n:=57) hn q (by kernel_rfl) (by kernel_rfl) ?hR ?hG (Qh Zr 1) ⟨D,u,Y⟩ ?hA ?hend
 case hR =>
  intro t v w w' H h;unfold Qn0 at h |-;split at h
  ·rename_i p j
   simp only[List.lookup_cons,List.lookup_nil] at j
   split at j
   ·cases j;exact(by obtain⟨B,e,E,c,u,z⟩:=h;exact⟨B,e,E,c,u,(H.block B (XC z)).trans z⟩)
   ·cases j
  ·exact h
 case hG=>exact Y
 case hend=>exact fun ops vs w' d f=>hend ops vs w' (f 16 (by kernel_rfl)) (f 5 (by kernel_rfl)) d
 case hA =>
  iterate 7
   refine⟨fun a w d f K g=>?_,?_⟩
   ·obtain⟨i,-⟩:=f
    conv at i=>whnf;rhs;whnf
    have M:=Qn C d;have L:=Qn G d;go_simp;exact g _ _ Zr d Z
  refine⟨fun a w d f K g=>?_,?_⟩
  ·obtain⟨i,F,-⟩:=f
   conv at i=>whnf;rhs;whnf
   conv at F=>whnf;rhs;whnf
   go_simp;exact g _ _ Zr d Z
  refine⟨fun a w d f K g=>?_,?_⟩
  ·obtain⟨i,-⟩:=f
   conv at i=>whnf;rhs;whnf
   obtain⟨J,x⟩:=underBk
   refine wp_load_mid 86 (.tmp 15) Z o (l+k*12) i ds _ (Qa2 A.out d) x Z (by rw[r];exact sizeBk) ?_;exact g _ _ Zr d Z
  refine⟨fun a w d f K g=>?_,?_⟩
  ·clear f;go_simp;exact g _ _ (ZR _ _) (d.alloc d.size _) ⟨_,Z,d.size,_,Z,Qe _ _ _⟩
  trivial
def Qoy (b X hh kn rc:Nat) (rg:Option Addr) (p:Int) (t:Tmp) (v:Value) (w:World):Prop :=
 v=(([(0,Pv b 0),(3,Pv X 0),(39,Pv b 0),(40,Pv b 0),(41,Pv b 5),(42,Pv hh 0),(43,Pv X 1),(44,.slice rg kn rc),(45,Iv p),(7,Iv p)]:List (Tmp × Value)).lookup t).getD undef
theorem kt9 {q f:Nat}{o:Option Addr}{p:Int}{Q:Nat->Prop}{H:List Bool}(B:w6.cell? ⟨b,5,none⟩=some (Pv q 0)) (x:w6.cell? ⟨X,1,none⟩=some (.slice o f rc)) (D:f<=16) (k:f<=rc) (F:H.length<=100000) (C:Hid (l.length=f)) (s:Hid (intsL.In w6 Q l [.slice o f rc])) (A:Hid (Qr w6 q O H)) (E:Hid (Qaa H [] l=p))
 (a:Act) (m:Nat) (hn:a.tmps.size=m) (j:57<=m) (u:a.tmps.getD 0 undef=Pv b 0) (z:a.tmps.getD 3 undef=Pv X 0) :
 Code.wp prog ((Tryz.f103.body.bind (Qf 9)).getD .skip) (fun e a' w'=>e=.normal/\∃ vs,a'=QC a vs [39,40,41,42,43,44,45,7]/\vs 7=Iv p/\Below w6.heap.size w6 w') a w6:=by
 conv=>arg 2;whnf
 refine Qu (Qoy b X q f rc o p) (fun w=>Below w6.heap.size w6 w) (fun w w'=>Below w.heap.size w w') (outs:=[0,3]) (gs:=[]) (bs:=[true,true,true,true,true,true,true,true]) (by kernel_rfl) (n:=57) hn j (by kernel_rfl) ?hR ?hG (Qh Zr 1) ⟨u,z,Y⟩ ?hA ?hend
 case hR=>exact fun t v w w' _ h=>h
 case hG=>exact Y
 case hend=>exact fun vs w' c d=>⟨Z,vs,Z,d 7 (by kernel_rfl),c⟩
 case hA =>
  iterate 6
   refine⟨fun a w c d K i=>?_,?_⟩
   ·obtain⟨g,-⟩:=d
    conv at g=>whnf;rhs;whnf
    have J:=Qn B c;have I:=Qn x c;go_simp;exact i _ _ Zr c Z
  refine⟨fun a w c d K i=>?_,?_⟩
  ·obtain⟨g,y,-⟩:=d
   conv at g=>whnf;rhs;whnf
   conv at y=>whnf;rhs;whnf
   go_simp;refine(Qhu C.out (by omega) k F (Ya s.out c) (A.out.below c)).mono ?_;rw[E.out];rintro G L ⟨rfl,r⟩
   go_simp;exact i _ _ r (c.trans (r.mono c.size)) Z
  refine⟨fun a w c d K i=>?_,?_⟩
  ·obtain⟨g,-⟩:=d
   conv at g=>whnf;rhs;whnf
   go_simp;exact i _ _ Zr c Z
  trivial
theorem QjS {regs:List Int}(h:∀ i,i<n->regs.getD i 0=(i:Int)):Qey n regs=0:=by
 unfold Qey;rw[Xs (Xe.2 fun i a=>Xt (h i (by simpa using a)))]
theorem QiK {regs:List Int}(hi:i<n) (h:regs.getD i 0≠(i:Int)):Qey n regs=11:=by
 unfold Qey;rw[Xr]
 intro a
 have:=Xe.1 a i (by simpa using hi)
 exact h (Xv this)
theorem Qgp {QR QA:Nat->Prop}{s:JSt}{x:MTo}{I:Option Addr}(hJ:JOk s) (h:KAt w b O s) (p:intsL.In w QR x.regs [.slice I x.regs.length rc]) (o:intsL.In w QA x.args [.slice ag x.args.length ac]) (L:x.regs.length<=rc) (J:x.regs.length<=16) (b7:x.args.length<=8) (ax:0<=x.block/\x.block<s.f.blocks.length) :
 Calls prog 103 #[Pv b 0,toV x I ag rc ac] w fun e w'=>e=.returned (Iv (s.to x))/\Below w.heap.size w w':=by
 have HJ:=Qg hJ;obtain⟨xb,a,d⟩:=x
 simp only at p o L J b7 ax
 obtain⟨k,rfl⟩:=Xc ax.1
 have bj:k<s.f.blocks.length:=by omega
 have G:s.f.blocks[k]?=some s.f.blocks[k]:=Zg bj;generalize s.f.blocks[k]=g at G;have b1:=ZR w (.cells #[Iv (k:Int),.slice I a.length rc,.slice ag d.length ac] 82);have ae:=Qe w #[Iv (k:Int),.slice I a.length rc,.slice ag d.length ac] 82;have K1:=Qg (h.below b1);have aw:Hid (intsL.In (w.alloc (.cells #[Iv (k:Int),.slice I a.length rc,.slice ag d.length ac] 82)) QR a [.slice I a.length rc]):=Ya p b1;have a0:Hid (intsL.In (w.alloc (.cells #[Iv (k:Int),.slice I a.length rc,.slice ag d.length ac] 82)) QA d [.slice ag d.length ac]):=Ya o b1;have M:=Qg b1;have D:=Qg ae;clear h p o b1 ae hJ;go_enter func103,ntmps103
 go_upto_region 1 with fail
 obtain⟨X,hX⟩:∃ X,w.heap.size=X:=⟨_,Z⟩
 generalize b0:w.alloc (.cells #[Iv (k:Int),.slice I a.length rc,.slice ag d.length ac] 82)=w1 at K1 aw a0 M D |-;rw[hX] at D
 rw[hX]
 clear b0 hX;have x0:=Qa D.out 0 _ Z;have x1:=Qa D.out 1 _ Z;have x2:=Qa D.out 2 _ Z;obtain⟨pm,cm,a1,c1,a2,c2,a3,c3,hh,aL,cL,R⟩:=K1.out.read
 obtain⟨-,q1,-,-,q4,q5,-⟩:=R.cells
 obtain⟨fa,fc,fb,fd,fe,ff,be,-,-,bm,-⟩:=QaO R.fn
 simp only[List.cons.injEq,Value.slice.injEq,and_true,true_and] at be
 obtain⟨-,-,rfl,rfl⟩:=be
 obtain⟨mg,mo,m,l,A,rfl,y,bc,ak,ad⟩:=Qdq bm G
 have bb:=Qg y;have am:Hid ((Qt 6).In w1 (fun g=>¬ O g) g.params [.slice m g.params.length l]):=ak;have bg:Hid (Qr w1 hh O s.H):=R.holds;have an:Hid (A.length=10):=bc;have ah:=Qg ad;have bo:(k:Int)<s.f.blocks.length:=by omega
 have T:=Qg (HJ.out.mod.2 s.f HJ.out.fn);have a6:Hid (g∈s.f.blocks):=Zm G;have a5:=Qg (T.out.blocks g a6.out);have bd:Hid (¬ MBlock.great g):=fun V=>HJ.out.tiny (.inr ⟨s.f,HJ.out.fn,.inr (.inr (.inr ⟨g,a6.out,V⟩))⟩);have b4:Hid (∀ t∈g.params,t.count<=2000):=fun t ht=>Xo fun K=>bd.out (.inr (.inl (.inr ⟨t,ht,K⟩)))
 have E:Hid (s.to ⟨(k:Int),a,d⟩=if (a.length:Int)=g.regs then code2 (Qey s.f.regs.toNat a) (code2 (Qaa s.H [] a) (s.args d g.params a)) else 2):=by
  show _=_;unfold JSt.to;simp only[Int.toNat_natCast,G]
 clear R bm y ak ad bc G ax;generalize cf:s.f.blocks.length=nb at q4 bj bo;refine kt1 q4 x0 bb (by simp[an.out]) bo _ _ Z (Xg (by kernel_rfl)) Z Z ?_;rintro bq vs u ab ⟨B,bp,hB,cB,a7,Q⟩ b5;show wpList _ bq _ [_] (QC _ vs [8,9,10,11,12,13,14,15,16,5]) u;simp only[QC,Act.put,List.setIfInBounds_toArray,List.set_cons_zero,List.set_cons_succ,ab,bp]
 have c:(Value.int .i64 g.regs::Value.slice m g.params.length l::A).length=12:=by simp[an.out]
 have TH:Hid (u.there B 0 (Value.int .i64 g.regs::Value.slice m g.params.length l::A).toArray.size):=by
  intro j hj;rw[List.size_toArray,c] at hj
  rw[XK]
  refine⟨?_,Qd Q j⟩
  rw[Qa Q j cB[j] (by simp)];rfl
 have TS:Hid ((prog.info? 86).map (·.size)=some (Value.int .i64 g.regs::Value.slice m g.params.length l::A).toArray.size):=by show _=_;rw[List.size_toArray,c];exact sizeBk
 have TO:Hid ((Value.int .i64 g.regs::Value.slice m g.params.length l::A).toArray.all (·.oneCell')=true):=by
  refine all_oneCell_toArray fun v W=>?_;simp only[List.mem_cons] at W
  rcases W with rfl | rfl | W
  ·rfl
  ·rfl
  ·exact ah.out v W
 have B6:Hid (Blk (u.setCells B 0 (Value.int .i64 g.regs::Value.slice m g.params.length l::A).toArray.toList) B (Value.int .i64 g.regs::Value.slice m g.params.length l::A).toArray 86):=by
  have h0:Blk u B ([]++cB.toList).toArray 86:=by rw[List.nil_append,Array.toArray_toList];exact Q
  have:=Blk.sets (Value.int .i64 g.regs::Value.slice m g.params.length l::A) [] cB.toList u (by rw[c];simp[a7]) h0
  exact this
 have z:Hid (Below w1.heap.size w1 (u.setCells B 0 (Value.int .i64 g.regs::Value.slice m g.params.length l::A).toArray.toList)):=by
  have:=QZ.setCells (O:=fun k=>k=B) (O':=fun k=>k=B) (b:=B) Z (Value.int .i64 g.regs::Value.slice m g.params.length l::A).toArray.toList 0 _ (QZ.refl _ u)
  exact b5.trans (this.below b5.size (fun k hk=>by omega))
 clear Q hB a7 b5 ab bp c;generalize bf:g.regs=P at E a5 B6 z TH TS TO |-;have bx:Hid (g.regs=P):=bf;generalize bn:g.params.length=n1 at am B6 z TH TS TO |-;have a9:Hid (g.params.length=n1):=bn;have y0:(u.setCells B 0 (Value.int .i64 P::Value.slice m n1 l::A).toArray.toList).cell? ⟨B,0,none⟩=some (Iv P):=Qa B6.out 0 _ Z;have y1:(u.setCells B 0 (Value.int .i64 P::Value.slice m n1 l::A).toArray.toList).cell? ⟨B,1,none⟩=some (.slice m n1 l):=Qa B6.out 1 _ Z;generalize bt:(Value.int .i64 P::Value.slice m n1 l::A).toArray=r at B6 z TH TS TO y0 y1 |-;have K6:=Qg (K1.out.below z.out);have n:Hid (intsL.In (u.setCells B 0 r.toList) QR a [.slice I a.length rc]):=Ya aw.out z.out;have ao:Hid (intsL.In (u.setCells B 0 r.toList) QA d [.slice ag d.length ac]):=Ya a0.out z.out;have ar:Hid ((Qt 6).In (u.setCells B 0 r.toList) (fun g=>¬ O g) g.params [.slice m n1 l]):=Ya am.out z.out;have au:Hid (Qr (u.setCells B 0 r.toList) hh O s.H):=bg.out.below z.out;have BW:Hid (Below w.heap.size w (u.setCells B 0 r.toList)):=M.out.trans (z.out.mono M.out.size);obtain⟨N,az⟩:=Xc T.out.regs.1
 have cc:N<=6:=by have:=T.out.regs.2;omega
 have bv:Hid ((N:Int)<=P):=by have:=a5.out.regs.1;rw[az,bx.out] at this;exact this
 rw[az] at q1 E
 rw[XT] at E
 have bk:=Qn q1 z.out;have al:=Qn q5 z.out;have C:=Qn x1 z.out;have aq:=Qn x2 z.out;clear bf bn az bt K1 aw a0 am bg M z B6 q1 q4 q5 x0 x1 x2 an ah T bd D bb;go_upto_region 2 with (refine wpList_store_mid Z 86 (.tmp 5) (.tmp 16) Z B 0 r Z Z TH.out TS.out TO.out ?_)
 clear TH TS TO;generalize u.setCells B 0 r.toList=w6 at K6 n ao ar au BW bk al C aq y0 y1 |-;have bh:Hid (a.length=a.length):=rfl;by_cases V:(a.length:Int)=P
 rotate_left
 ·have E2:Hid (s.to ⟨(k:Int),a,d⟩=2):=by show _=_;rw[E.out,Xr V]
  have ap:((a.length:Int) != P)=true:=by simpa using V
  clear E V bh;generalize a.length=kn at C n L J ap;go_wp2_with fail
  go_ret;exact⟨by rw[E2.out];rfl,BW.out⟩
 have E2:Hid (s.to ⟨(k:Int),a,d⟩=code2 (Qey N a) (code2 (Qaa s.H [] a) (s.args d g.params a))):=by show _=_;rw[E.out,Xs V]
 have ca:N<=a.length:=by have:=bv.out;omega
 have ap:((a.length:Int) != P)=false:=by simpa using V
 have HX:Hid (∀ i,i<a.length->∃ ay ro,I=some ⟨ay,ro,none⟩/\w6.cell? ⟨ay,ro+i,none⟩=some (Iv (a.getD i 0))):=fun i hi=>by
  obtain⟨a1,a2,e1,-,-,e2⟩:=ZW n.out hi
  exact⟨a1,a2,e1,e2⟩
 have ba:Hid (∃ kn,a.length=kn):=⟨_,Z⟩;clear E V bh;obtain⟨kn,F⟩:=ba.out
 have aj:Hid (a.length=kn):=F;rw[F] at C n L J ap HX ca
 clear F ba;go_wp2_with fail
 go_loopw [6] (fun i wr=>∃ q:Nat,q<=N/\i=Iv q/\wr=w6/\∀ j,j<q->a.getD j 0=(j:Int)) (fun i _=>N - (intOf i).toNat)
 case atStart=>exact⟨0,Xb _,Z,Z,fun j hj=>absurd hj (XG _)⟩
 case round =>
  obtain⟨q,hq,rfl,hw,af⟩:=hrel
  subst hw;have ai:Hid (∀ j,j<q->a.getD j 0=(j:Int)):=af;clear af;by_cases K:q<N
  ·obtain⟨ay,ro,rfl,b2⟩:=HX.out q (by omega)
   have bi:(q:Int)<N:=by omega
   have cb:(q:Int)<kn:=by omega
   have HV:Hid (a.getD q 0=a.getD q 0):=rfl;obtain⟨v,W⟩:∃ v,a.getD q 0=v:=⟨_,Z⟩
   have HV:Hid (a.getD q 0=v):=W;rw[W] at b2
   clear W;by_cases S:v=(q:Int)
   ·have bl:(v != (q:Int))=false:=by simpa using S
    go_wp2_with fail
    go_roundw
    case rel =>
     refine⟨q+1,by omega,by go_num,by first | rfl | trivial,fun j hj=>?_⟩
     by_cases br:j<q
     ·exact ai.out j br
     ·have:j=q:=by omega
      subst this;rw[HV.out,S]
    case measure=>simp[intOf];omega
   ·have bl:(v != (q:Int))=true:=by simpa using S
    have E3:Hid (s.to ⟨(k:Int),a,d⟩=11):=by
     show _=_;rw[E2.out,QiK K (by rw[HV.out];exact S)];rfl
    clear E2;go_wp2_with fail
    go_ret;exact⟨by rw[E3.out];rfl,BW.out⟩
  ·have bz:q=N:=by omega
   subst bz
   have E3:Hid (s.to ⟨(k:Int),a,d⟩=code2 (Qaa s.H [] a) (s.args d g.params a)):=by
    show _=_;rw[E2.out,QjS ai.out];rfl
   have bi:decide ((q:Int)<q)=false:=Xu (by omega);clear E2 HX K;go_upto_region 9 with fail
   obtain⟨pc,a4⟩:∃ pc,Qaa s.H [] a=pc:=⟨_,Z⟩
   have bu:=Qg a4;rw[a4] at E3
   clear a4;refine Code.wp_mono ?_ (kt9 al C (by omega) L (by have:=HJ.out.regs;omega) aj n au bu _ _ Z (Xg (by kernel_rfl)) Z Z);rintro ee aa w7 ⟨rfl,vs,rfl,a8,U⟩;simp only[QC,Act.put,List.setIfInBounds_toArray,List.set_cons_zero,List.set_cons_succ,a8]
   have av:Hid (Below w.heap.size w w7):=BW.out.trans (U.mono BW.out.size);have K7:=Qg (K6.out.below U);have b3:Hid (intsL.In w7 QR a [.slice I kn rc]):=Ya n.out U;have bw:Hid (intsL.In w7 QA d [.slice ag d.length ac]):=Ya ao.out U;have bs:Hid ((Qt 6).In w7 (fun g=>¬ O g) g.params [.slice m n1 l]):=Ya ar.out U;have ce:=Qn C U;have ch:=Qn aq U;have cg:=Qn y1 U;clear U a8 K6 n ao ar au BW C aq y1 y0 bk al;by_cases hp:pc=0
   rotate_left
   ·have cd:(pc != 0)=true:=by simpa using hp
    have E4:Hid (s.to ⟨(k:Int),a,d⟩=pc):=by show _=_;rw[E3.out];unfold code2;rw[Xr hp]
    clear E3;go_wp2_with fail
    go_ret;exact⟨by rw[E4.out];rfl,av.out⟩
   subst hp;have E4:Hid (s.to ⟨(k:Int),a,d⟩=s.args d g.params a):=by show _=_;rw[E3.out];rfl
   clear E3;go_wp2_with fail
   refine(Qdn Z a9.out aj.out (by omega) (by have:=a5.out.params.1;rw[a9.out] at this;omega) HJ.out.vals bw.out bs.out b3.out b4.out K7.out).mono ?_
   rintro e w8 ⟨rfl,b8⟩;have b9:Hid (Below w.heap.size w w8):=av.out.trans (b8.mono av.out.size);go_wp2_with fail
   go_ret;exact⟨by rw[E4.out];rfl,b9.out⟩
theorem Qi {p:Prop}(h:p):Hid p:=h
theorem Qlh {a w:World}(h:Below B a w) (n:Nat):Below B a (w.drewN n):=⟨h.os,h.tape,h.output,h.size,h.block⟩
structure FbS (w wx:World) (R:Nat) (l:List (Nat × Array Value × TypeId)):Prop where
 bel:Below w.heap.size w wx
 ge:w.heap.size<=R
 r:Blk wx R #[Iv 0,Iv 0] 32
 box:∀ (i:Nat) b,l[i]?=some b->Blk wx b.1 b.2.1 b.2.2
section
variable {w wx w':World}{R:Nat}{l:List (Nat × Array Value × TypeId)}
theorem FbS.below (h:FbS w wx R l) (k:Below wx.heap.size wx w'):FbS w w' R l :=
 ⟨h.bel.trans (k.mono h.bel.size),h.ge,h.r.below k,fun i b a=>(h.box i b a).below k⟩
theorem FbS.add (h:FbS w wx R l){c:Array Value}(hb:Blk wx B c t):FbS w wx R ((B,c,t)::l) :=
 ⟨h.bel,h.ge,h.r,fun i b a=>by
  cases i with
  | zero=>cases a;exact hb
  | succ i=>exact h.box i b a⟩
theorem FbS.new (h:FbS w wx R l) (c:Array Value) (t:TypeId):FbS w (wx.alloc (.cells c t)) R ((wx.heap.size,c,t)::l):=(h.below (ZR _ _)).add (Blk.new _ _ _)
theorem FbS.start (w:World) (c:Array Value) (t:TypeId):FbS w ((w.alloc (.cells c t)).alloc (.cells #[Iv 0,Iv 0] 32)) (w.heap.size+1) [(w.heap.size,c,t)] :=
 FbS.add ⟨(ZR w _).trans ((ZR _ _).mono (ZR w _).size),by omega,Blk.new2 ..,fun i b a=>by simp at a⟩ (Blk.new1 ..)
theorem FbS.cells (h:FbS w wx R l):wx.cell? ⟨R,0,none⟩=some (Iv 0)/\wx.cell? ⟨R,1,none⟩=some (Iv 0)/\wx.frozen? ⟨R,0,none⟩=false/\wx.frozen? ⟨R,1,none⟩=false :=
 ⟨Qa h.r 0 _ Z,Qa h.r 1 _ Z,Qd h.r 0,Qd h.r 1⟩
theorem FbS.fin (h:FbS w wx R l) (c a:Int):Blk ((wx.setCell ⟨R,0,none⟩ (Iv c)).setCell ⟨R,1,none⟩ (Iv a)) R #[Iv c,Iv a] 32/\Below w.heap.size w ((wx.setCell ⟨R,0,none⟩ (Iv c)).setCell ⟨R,1,none⟩ (Iv a)) :=
 ⟨by have:=Qm (Qm h.r 0 (Iv c)) 1 (Iv a);simpa using this,(h.bel.setCell (p:=⟨R,0,none⟩) h.ge _).setCell (p:=⟨R,1,none⟩) h.ge _⟩
structure Qmy (wx:World) (cs:List Value):Prop where
 size:(prog.info? 86).map (·.size)=some cs.length
 size2:(prog.info? 86).map (·.size)=some cs.toArray.size
 there:(wx.alloc (.cells #[Iv 0,Nv,Nv,Iv 0,Iv 0,Iv 0,Nv,Nv,Iv 0,Nv,Nv,Nv] 86)).there wx.heap.size 0 cs.toArray.size
 blk:Blk ((wx.alloc (.cells #[Iv 0,Nv,Nv,Iv 0,Iv 0,Iv 0,Nv,Nv,Iv 0,Nv,Nv,Nv] 86)).setCells wx.heap.size 0 cs) wx.heap.size cs.toArray 86
 bel:Below wx.heap.size wx ((wx.alloc (.cells #[Iv 0,Nv,Nv,Iv 0,Iv 0,Iv 0,Nv,Nv,Iv 0,Nv,Nv,Nv] 86)).setCells wx.heap.size 0 cs)
theorem Qmy.of (a:World)(c:cs.length=12):Qmy a cs:=by
 have d:=Qe a #[Iv 0,Nv,Nv,Iv 0,Iv 0,Iv 0,Nv,Nv,Iv 0,Nv,Nv,Nv] 86;refine⟨by rw[c];exact pSizeB,by rw[List.size_toArray,c];exact pSizeB,fun j hj=>?_,?_,?_⟩
 ·rw[List.size_toArray,c] at hj
  rw[XK]
  refine⟨?_,Qd d j⟩
  rw[Qa d j ((#[Iv 0,Nv,Nv,Iv 0,Iv 0,Iv 0,Nv,Nv,Iv 0,Nv,Nv,Nv]:Array Value)[j]'hj) (by simp)];rfl
 ·have e:Blk (a.alloc (.cells #[Iv 0,Nv,Nv,Iv 0,Iv 0,Iv 0,Nv,Nv,Iv 0,Nv,Nv,Nv] 86)) a.heap.size ([]++(#[Iv 0,Nv,Nv,Iv 0,Iv 0,Iv 0,Nv,Nv,Iv 0,Nv,Nv,Nv]:Array Value).toList).toArray 86:=d;exact Blk.sets cs [] (#[Iv 0,Nv,Nv,Iv 0,Iv 0,Iv 0,Nv,Nv,Iv 0,Nv,Nv,Nv]:Array Value).toList _ (by rw[c];rfl) e
 ·have:=QZ.setCells (O:=fun k=>k=a.heap.size) (O':=fun k=>k=a.heap.size) (b:=a.heap.size) Z cs 0 _ (QZ.refl _ (a.alloc (.cells #[Iv 0,Nv,Nv,Iv 0,Iv 0,Iv 0,Nv,Nv,Iv 0,Nv,Nv,Nv] 86)))
  exact(ZR a _).trans (this.below (by simp) (fun k f=>by omega))
end
theorem Xa:type_of% @Bool.eq_false_or_eq_true:=@Bool.eq_false_or_eq_true
theorem QaE (h:f<1000000):Rd prog 50 #[Iv (f:Int)] w (Iv (10000*(f:Int)+9999)):=by
 unfold Rd;go_enter func50,ntmps50
 go_wp2
 go_ret;refine⟨?_,Zr⟩
 first | rfl | (simp only[wrap64];congr 2;omega)
theorem QaU (h:f<1000000/\b<1000000):Rd prog 79 #[Iv (f:Int),Iv (b:Int)] w (Iv (10000*(f:Int)+100*(b:Int)+90)):=by
 unfold Rd;go_enter func79,ntmps79
 go_wp2
 go_ret;refine⟨?_,Zr⟩
 first | rfl | (simp only[wrap64];congr 2;omega)
theorem QfB (h:f<1000000/\b<1000000):Rd prog 57 #[Iv (f:Int),Iv (b:Int)] w (Iv (10000*(f:Int)+100*(b:Int)+91)):=by
 unfold Rd;go_enter func57,ntmps57
 go_wp2
 go_ret;refine⟨?_,Zr⟩
 first | rfl | (simp only[wrap64];congr 2;omega)
theorem Qe8 (h:f<1000000/\b<1000000/\i<1000000):Rd prog 58 #[Iv (f:Int),Iv (b:Int),Iv (i:Int)] w (Iv (10000*(f:Int)+100*(b:Int)+(i:Int))):=by
 unfold Rd;go_enter func58,ntmps58
 go_wp2
 go_ret;refine⟨?_,Zr⟩
 first | rfl | (simp only[wrap64];congr 2;omega)
theorem Qd8 {x:MTo}{fb:Option Addr}(b:Bool) (t:x.regs.length<2305843009213693952) (r:x.args.length<2305843009213693952) (q:bl<2305843009213693952) :
 Rd prog 129 #[.agg #[Iv fr,.slice fp fl fc,.slice fq fm fd,.slice fb bl fe],.agg #[Iv x.block,.slice pR x.regs.length cR,.slice pA x.args.length cA],.bool b] w (Iv (x.form bl b)):=by
 have d:=ZR w (.cells #[Iv fr,.slice fp fl fc,.slice fq fm fd,.slice fb bl fe] 89);have B:Hid (Below w.heap.size w ((w.alloc (.cells #[Iv fr,.slice fp fl fc,.slice fq fm fd,.slice fb bl fe] 89)).alloc (.cells #[Iv x.block,.slice pR x.regs.length cR,.slice pA x.args.length cA] 82))):=d.trans ((ZR _ _).mono d.size);have n:=Qa (Blk.new1 w #[Iv fr,.slice fp fl fc,.slice fq fm fd,.slice fb bl fe] #[Iv x.block,.slice pR x.regs.length cR,.slice pA x.args.length cA] 89 82) 3 _ Z;have i:=Qa (Blk.new2 w (.cells #[Iv fr,.slice fp fl fc,.slice fq fm fd,.slice fb bl fe] 89) #[Iv x.block,.slice pR x.regs.length cR,.slice pA x.args.length cA] 82) 0 _ Z;have l:=Qa (Blk.new2 w (.cells #[Iv fr,.slice fp fl fc,.slice fq fm fd,.slice fb bl fe] 89) #[Iv x.block,.slice pR x.regs.length cR,.slice pA x.args.length cA] 82) 1 _ Z;have k:=Qa (Blk.new2 w (.cells #[Iv fr,.slice fp fl fc,.slice fq fm fd,.slice fb bl fe] 89) #[Iv x.block,.slice pR x.regs.length cR,.slice pA x.args.length cA] 82) 2 _ Z;clear d;unfold Rd;go_enter func129,ntmps129
 go_upto_region 1 with fail
 generalize (w.alloc (.cells #[Iv fr,.slice fp fl fc,.slice fq fm fd,.slice fb bl fe] 89)).alloc (.cells #[Iv x.block,.slice pR x.regs.length cR,.slice pA x.args.length cA] 82)=s at B n i l k |-;generalize w.heap.size+1=Y at i l k |-;generalize w.heap.size=X at n |-
 cases b with
 | false =>
   by_cases a:x.block=0
   ·have e:(x.block != 0)=false:=by simpa using a
    by_cases c:0<x.regs.length+x.args.length
    ·have f:(0:Int)<(x.regs.length:Int)+(x.args.length:Int):=by omega
     have E:x.form bl false=4:=by unfold MTo.form;rw[Xs Z,Xs (.inr c)]
     clear a;go_wp2_with fail
     go_ret;exact⟨by first | rfl | (rw[E];done) | (rw[E];rfl),B.out⟩
    ·have f:¬ (0:Int)<(x.regs.length:Int)+(x.args.length:Int):=by omega
     have E:x.form bl false=0:=by unfold MTo.form;rw[Xs Z,Xr (by rintro (h | h);exact h a;exact c h)]
     clear a;go_wp2_with fail
     go_ret;exact⟨by first | rfl | (rw[E];done) | (rw[E];rfl),B.out⟩
   ·have e:(x.block != 0)=true:=by simpa using a
    have E:x.form bl false=4:=by unfold MTo.form;rw[Xs Z,Xs (.inl a)]
    go_wp2_with fail
    go_ret;exact⟨by first | rfl | (rw[E];done) | (rw[E];rfl),B.out⟩
 | true =>
   by_cases a:x.block<0
   ·have e:decide (x.block<0)=true:=Xt a;have E:x.form bl true=1:=by unfold MTo.form;rw[Xr (by simp),Xs (.inl a)]
    go_wp2_with fail
    go_ret;exact⟨by first | rfl | (rw[E];done) | (rw[E];rfl),B.out⟩
   have e:decide (x.block<0)=false:=Xu a;by_cases c:(bl:Int)<=x.block
   ·have f:decide (x.block>=(bl:Int))=true:=Xt c;have E:x.form bl true=1:=by unfold MTo.form;rw[Xr (by simp),Xs (.inr c)]
    go_wp2_with fail
    go_ret;exact⟨by first | rfl | (rw[E];done) | (rw[E];rfl),B.out⟩
   have f:decide (x.block>=(bl:Int))=false:=Xu c;have g:¬ (x.block<0\/(bl:Int)<=x.block):=by rintro (h | h);exact a h;exact c h
   by_cases j:16<x.regs.length
   ·have o:decide ((x.regs.length:Int)>16)=true:=Xt (by omega);have E:x.form bl true=2:=by unfold MTo.form;rw[Xr (by simp),Xr g,Xs (.inl j)]
    go_wp2_with fail
    go_ret;exact⟨by first | rfl | (rw[E];done) | (rw[E];rfl),B.out⟩
   have o:decide ((x.regs.length:Int)>16)=false:=Xu (by omega);by_cases m:8<x.args.length
   ·have p:decide ((x.args.length:Int)>8)=true:=Xt (by omega);have E:x.form bl true=2:=by unfold MTo.form;rw[Xr (by simp),Xr g,Xs (.inr m)]
    go_wp2_with fail
    go_ret;exact⟨by first | rfl | (rw[E];done) | (rw[E];rfl),B.out⟩
   ·have p:decide ((x.args.length:Int)>8)=false:=Xu (by omega);have E:x.form bl true=0:=by unfold MTo.form;rw[Xr (by simp),Xr g,Xr (by rintro (h | h);exact j h;exact m h)]
    go_wp2_with fail
    go_ret;exact⟨by first | rfl | (rw[E];done) | (rw[E];rfl),B.out⟩
theorem Qdy {x:MEnd}{e:EP}{fb:Option Addr}(L:x.yes.regs.length<2305843009213693952/\x.yes.args.length<2305843009213693952/\x.no.regs.length<2305843009213693952/\x.no.args.length<2305843009213693952) (p:bl<2305843009213693952) :
 Rd prog 81 #[.agg #[Iv fr,.slice fp fl fc,.slice fq fm fd,.slice fb bl fe],.agg #[Iv x.op,Iv x.a,Iv x.yes.block,.slice e.pYR x.yes.regs.length e.cYR,.slice e.pYA x.yes.args.length e.cYA,Iv x.no.block,.slice e.pNR x.no.regs.length e.cNR,.slice e.pNA x.no.args.length e.cNA,.slice e.pA x.args.length e.cA]] w (Iv (x.form bl)):=by
 have s:=Qi L;have C:=ZR w (.cells #[Iv fr,.slice fp fl fc,.slice fq fm fd,.slice fb bl fe] 89);have B:Hid (Below w.heap.size w ((w.alloc (.cells #[Iv fr,.slice fp fl fc,.slice fq fm fd,.slice fb bl fe] 89)).alloc (.cells #[Iv x.op,Iv x.a,Iv x.yes.block,.slice e.pYR x.yes.regs.length e.cYR,.slice e.pYA x.yes.args.length e.cYA,Iv x.no.block,.slice e.pNR x.no.regs.length e.cNR,.slice e.pNA x.no.args.length e.cNA,.slice e.pA x.args.length e.cA] 84))):=C.trans ((ZR _ _).mono C.size);have g:Hid (Blk ((w.alloc (.cells #[Iv fr,.slice fp fl fc,.slice fq fm fd,.slice fb bl fe] 89)).alloc (.cells #[Iv x.op,Iv x.a,Iv x.yes.block,.slice e.pYR x.yes.regs.length e.cYR,.slice e.pYA x.yes.args.length e.cYA,Iv x.no.block,.slice e.pNR x.no.regs.length e.cNR,.slice e.pNA x.no.args.length e.cNA,.slice e.pA x.args.length e.cA] 84)) w.heap.size #[Iv fr,.slice fp fl fc,.slice fq fm fd,.slice fb bl fe] 89):=Blk.new1 ..;have b:Hid (Blk ((w.alloc (.cells #[Iv fr,.slice fp fl fc,.slice fq fm fd,.slice fb bl fe] 89)).alloc (.cells #[Iv x.op,Iv x.a,Iv x.yes.block,.slice e.pYR x.yes.regs.length e.cYR,.slice e.pYA x.yes.args.length e.cYA,Iv x.no.block,.slice e.pNR x.no.regs.length e.cNR,.slice e.pNA x.no.args.length e.cNA,.slice e.pA x.args.length e.cA] 84)) (w.heap.size+1) #[Iv x.op,Iv x.a,Iv x.yes.block,.slice e.pYR x.yes.regs.length e.cYR,.slice e.pYA x.yes.args.length e.cYA,Iv x.no.block,.slice e.pNR x.no.regs.length e.cNR,.slice e.pNA x.no.args.length e.cNA,.slice e.pA x.args.length e.cA] 84):=Blk.new2 ..;clear C L;unfold Rd;go_enter func81,ntmps81
 go_upto_region 1 with fail
 generalize (w.alloc (.cells #[Iv fr,.slice fp fl fc,.slice fq fm fd,.slice fb bl fe] 89)).alloc (.cells #[Iv x.op,Iv x.a,Iv x.yes.block,.slice e.pYR x.yes.regs.length e.cYR,.slice e.pYA x.yes.args.length e.cYA,Iv x.no.block,.slice e.pNR x.no.regs.length e.cNR,.slice e.pNA x.no.args.length e.cNA,.slice e.pA x.args.length e.cA] 84)=z at B g b |-;generalize w.heap.size+1=Y at b |-;generalize w.heap.size=X at g |-;have u:=Qa b.out 0 _ Z;have Q:=Qa b.out 1 _ Z;have S:=Qa b.out 8 _ Z;go_cut [13] (fun v wx=>v=.bool (decide (x.op<1)||decide (x.op>3))/\wx=z)
 case first =>
  rcases Xa (decide (x.op<1)) with m | m
  all_goals rcases Xa (decide (x.op>3)) with n | n
  all_goals
   go_wp2
   go_meet;exact⟨by rw[m,n];rfl,Z⟩
 case rest =>
  obtain⟨rfl,j⟩:=hcut
  replace j:=j.symm;subst j;by_cases i:x.op<1\/3<x.op
  ·have d:(decide (x.op<1)||decide (x.op>3))=true:=by rw[<-Bool.decide_or];exact Xt i
   rw[d]
   have E:x.form bl=3:=Xs i;go_wp2_with fail
   go_ret;exact⟨by first | rfl | (rw[E];done) | (rw[E];rfl),B.out⟩
  have d:(decide (x.op<1)||decide (x.op>3))=false:=by rw[<-Bool.decide_or];exact Xu i
  rw[d]
  go_upto_region 3 with fail
  go_cut [32] (fun v wx=>v=.bool ((x.a != 0&&x.op != 2)||(decide (0<x.args.length)&&x.op != 3))/\wx=z)
  case first =>
   rcases Xa (x.a != 0) with m | m
   all_goals rcases Xa (x.op != 2) with n | n
   all_goals rcases Xa (decide (0<x.args.length)) with N | N
   all_goals rcases Xa (x.op != 3) with q | q
   all_goals
    go_wp2
    go_meet;exact⟨by rw[m,n,N,q];rfl,Z⟩
  case rest =>
   obtain⟨rfl,j⟩:=hcut
   replace j:=j.symm;subst j;by_cases o:(x.a≠0/\x.op≠2)\/(0<x.args.length/\x.op≠3)
   ·have d:((x.a != 0&&x.op != 2)||(decide (0<x.args.length)&&x.op != 3))=true:=by simp only[Bool.or_eq_true,Bool.and_eq_true,bne_iff_ne,decide_eq_true_eq];omega
    rw[d]
    have E:x.form bl=4:=by unfold MEnd.form;rw[Xr i,Xs o]
    clear o;go_wp2_with fail
    go_ret;exact⟨by first | rfl | (rw[E];done) | (rw[E];rfl),B.out⟩
   have d:((x.a != 0&&x.op != 2)||(decide (0<x.args.length)&&x.op != 3))=false:=by rw[Bool.eq_false_iff];simp only[ne_eq,Bool.or_eq_true,Bool.and_eq_true,bne_iff_ne,decide_eq_true_eq];omega
   rw[d]
   by_cases G:8<x.args.length
   ·have q:(8:Int)<x.args.length:=by omega
    have E:x.form bl=2:=by unfold MEnd.form;rw[Xr i,Xr o,Xs G]
    go_wp2_with fail
    go_ret;exact⟨by first | rfl | (rw[E];done) | (rw[E];rfl),B.out⟩
   have q:¬ (8:Int)<x.args.length:=by omega
   have k:Hid (x.form bl=if x.yes.form bl (decide (x.op≠3))≠0 then x.yes.form bl (decide (x.op≠3)) else x.no.form bl (decide (x.op=2))):=by show _=_;unfold MEnd.form;rw[Xr i,Xr o,Xr G]
   have K:(x.op != 3)=decide (x.op≠3):=by rw[Bool.eq_iff_iff];simp
   have J:(x.op==2)=decide (x.op=2):=by rw[Bool.eq_iff_iff];simp
   have I:=Qa g.out 0 _ Z;have D:=Qa g.out 1 _ Z;have F:=Qa g.out 2 _ Z;have H:=Qa g.out 3 _ Z;have P:=Qa b.out 2 _ Z;have e3:=Qa b.out 3 _ Z;have T:=Qa b.out 4 _ Z;have r:=Qi (Qd8 (x:=x.yes) (pR:=e.pYR) (cR:=e.cYR) (pA:=e.pYA) (cA:=e.cYA) (fr:=fr) (fp:=fp) (fl:=fl) (fc:=fc) (fq:=fq) (fm:=fm) (fd:=fd) (fb:=fb) (fe:=fe) (w:=z) (decide (x.op≠3)) s.out.1 s.out.2.1 p);unfold Rd at r;rw[<-K] at r k
   rw[<-J] at k
   clear i o G J K;go_wp2_with fail
   refine r.out.mono ?_;rintro _ V ⟨rfl,t⟩;have A:=Qi (B.out.trans (t.mono B.out.size));have c:=Qi (g.out.below t);have f:=Qi (b.out.below t);clear t r I D F H u Q P e3 T S B g b;by_cases l:x.yes.form bl (x.op != 3)=0
   rotate_left
   ·have R:(x.yes.form bl (x.op != 3) != 0)=true:=by simpa using l
    have E:x.form bl=x.yes.form bl (x.op != 3):=by rw[k.out,Xs l]
    generalize x.yes.form bl (x.op != 3)=yf at R E |-;clear l k;go_wp2_with fail
    go_ret;exact⟨by first | rfl | (rw[E];done) | (rw[E];rfl),A.out⟩
   have E:x.form bl=x.no.form bl (x.op==2):=by rw[k.out,Xr (fun h=>h l)]
   rw[l]
   clear l k;have I:=Qa c.out 0 _ Z;have D:=Qa c.out 1 _ Z;have F:=Qa c.out 2 _ Z;have H:=Qa c.out 3 _ Z;have u:=Qa f.out 0 _ Z;have e5:=Qa f.out 5 _ Z;have U:=Qa f.out 6 _ Z;have O:=Qa f.out 7 _ Z;have y:=Qi (Qd8 (x:=x.no) (pR:=e.pNR) (cR:=e.cNR) (pA:=e.pNA) (cA:=e.cNA) (fr:=fr) (fp:=fp) (fl:=fl) (fc:=fc) (fq:=fq) (fm:=fm) (fd:=fd) (fb:=fb) (fe:=fe) (w:=V) (x.op==2) s.out.2.2.1 s.out.2.2.2 p);unfold Rd at y;go_wp2_with fail
   refine y.out.mono ?_;rintro _ w3 ⟨rfl,M⟩;have W:=Qi (A.out.trans (M.mono A.out.size));clear M y I D F H u e5 U O;go_wp2_with fail
   go_ret;exact⟨by first | rfl | (rw[E];done) | (rw[E];rfl),W.out⟩
theorem underEnd:∃ fs,prog.underlying 84=some (.struct fs):=⟨_,underlying84⟩
theorem sizeEnd:(prog.info? 84).map (·.size)=some 9:=by kernel_rfl
abbrev Qcq (x:MEnd) (e:EP):Array Value:=#[Iv x.op,Iv x.a,Iv x.yes.block,.slice e.pYR x.yes.regs.length e.cYR,.slice e.pYA x.yes.args.length e.cYA,Iv x.no.block,.slice e.pNR x.no.regs.length e.cNR,.slice e.pNA x.no.args.length e.cNA,.slice e.pA x.args.length e.cA]
structure Qgr (w:World) (Q:Nat->Prop) (x:MEnd) (e:EP):Prop where
 yr:intsL.In w Q x.yes.regs [.slice e.pYR x.yes.regs.length e.cYR]
 ya:intsL.In w Q x.yes.args [.slice e.pYA x.yes.args.length e.cYA]
 nr:intsL.In w Q x.no.regs [.slice e.pNR x.no.regs.length e.cNR]
 na:intsL.In w Q x.no.args [.slice e.pNA x.no.args.length e.cNA]
 ar:intsL.In w Q x.args [.slice e.pA x.args.length e.cA]
theorem Qgr.below {Q:Nat->Prop}{x:MEnd}{e:EP}(h:Qgr w Q x e) (k:Below w.heap.size w w'):Qgr w' Q x e :=
 ⟨Ya h.yr k,Ya h.ya k,Ya h.nr k,Ya h.na k,Ya h.ar k⟩
structure EnS (w wc:World) (b X:Nat) (O Q:Nat->Prop) (s:JSt) (x:MEnd) (e:EP):Prop where
 known:KAt wc b O s
 box:Blk wc X (Qcq x e) 84
 lists:Qgr wc Q x e
 bel:Below w.heap.size w wc
theorem EnS.below {Q:Nat->Prop}{s:JSt}{x:MEnd}{e:EP}(h:EnS w wc b X O Q s x e) (k:Below wc.heap.size wc w'):EnS w w' b X O Q s x e :=
 ⟨h.known.below k,(k.block X (XC h.box)).trans h.box,h.lists.below k,h.bel.trans (k.mono h.bel.size)⟩
theorem EnS.range {Q:Nat->Prop}{s:JSt}{x:MEnd}{e:EP}(h:EnS w wc b X O Q s x e):wc.rangeAt X 0 (Qcq x e).toList:=fun j v a=>by
 rw[XK]
 rw[Array.getElem?_toList] at a
 exact Qa h.box j v a
theorem EnS.cells {Q:Nat->Prop}{s:JSt}{x:MEnd}{e:EP}(h:EnS w wc b X O Q s x e):wc.cell? ⟨X,0,none⟩=some (Iv x.op)/\wc.cell? ⟨X,1,none⟩=some (Iv x.a)/\wc.cell? ⟨X,2,none⟩=some (Iv x.yes.block)/\wc.cell? ⟨X,3,none⟩=some (.slice e.pYR x.yes.regs.length e.cYR)/\wc.cell? ⟨X,4,none⟩=some (.slice e.pYA x.yes.args.length e.cYA)/\wc.cell? ⟨X,5,none⟩=some (Iv x.no.block)/\wc.cell? ⟨X,6,none⟩=some (.slice e.pNR x.no.regs.length e.cNR)/\wc.cell? ⟨X,7,none⟩=some (.slice e.pNA x.no.args.length e.cNA)/\wc.cell? ⟨X,8,none⟩=some (.slice e.pA x.args.length e.cA) :=
 ⟨Qa h.box 0 _ Z,Qa h.box 1 _ Z,Qa h.box 2 _ Z,Qa h.box 3 _ Z,Qa h.box 4 _ Z,Qa h.box 5 _ Z,Qa h.box 6 _ Z,Qa h.box 7 _ Z,Qa h.box 8 _ Z⟩
theorem Qli (n:Nat):(Qa9 n).length=n:=by unfold Qa9;simp
theorem Qkd (n:Nat):Qa9 (n+1)=Qa9 n++[(n:Int)]:=by unfold Qa9;rw[List.range_succ,List.map_append];rfl
theorem Qa1 {a:Nat}{t:MTo}(h:t.form a true=0):(0<=t.block/\t.block<a)/\t.regs.length<=16/\t.args.length<=8:=by
 unfold MTo.form at h;rw[Xr (by simp)] at h
 split at h
 ·cases h
 split at h
 ·cases h
 omega
def Qot (b X fl c1 fm c2 bl c3:Nat) (fr cf:Int) (a1 a2 a3:Option Addr) (x:MEnd) (e:EP) (t:Tmp) (v:Value) (w:World):Prop :=
 v=(([(0,Pv b 0),(3,Pv X 0),(13,Pv b 0),(14,Pv b 0),(15,Pv b 1),(16,.agg #[Iv fr,.slice a1 fl c1,.slice a2 fm c2,.slice a3 bl c3]),(17,.agg (Qcq x e)),(18,Iv cf),(5,Iv cf)]:List (Tmp × Value)).lookup t).getD undef
theorem ke1 {i l k:Nat}{j:Int}{s u y:Option Addr}{x:MEnd}{e:EP}(B:w6.cell? ⟨b,1,none⟩=some (Iv fr)) (C:w6.cell? ⟨b,2,none⟩=some (.slice s fl i)) (E:w6.cell? ⟨b,3,none⟩=some (.slice u fm l)) (z:w6.cell? ⟨b,4,none⟩=some (.slice y bl k)) (A:Hid (w6.rangeAt X 0 (Qcq x e).toList)) (I:Hid (x.yes.regs.length<2305843009213693952/\x.yes.args.length<2305843009213693952/\x.no.regs.length<2305843009213693952/\x.no.args.length<2305843009213693952)) (q:bl<2305843009213693952) (D:Hid (x.form bl=j))
 (a:Act) (m:Nat) (hn:a.tmps.size=m) (g:97<=m) (F:a.tmps.getD 0 undef=Pv b 0) (G:a.tmps.getD 3 undef=Pv X 0) :
 Code.wp prog ((Tryz.f65.body.bind (Qf 1)).getD .skip) (fun e a' w'=>e=.normal/\∃ vs,a'=QC a vs [13,14,15,16,17,18,5]/\vs 5=Iv j/\Below w6.heap.size w6 w') a w6:=by
 conv=>arg 2;whnf
 refine Qu (Qot b X fl i fm l bl k fr j s u y x e) (fun w=>Below w6.heap.size w6 w) (fun w w'=>Below w.heap.size w w') (outs:=[0,3]) (gs:=[]) (bs:=[true,true,true,true,true,true,true]) (by kernel_rfl) (n:=97) hn g (by kernel_rfl) ?hR ?hG (Qh Zr 1) ⟨F,G,Y⟩ ?hA ?hend
 case hR=>exact fun t v w w' _ h=>h
 case hG=>exact Y
 case hend=>exact fun vs w' c f=>⟨Z,vs,Z,f 5 (by kernel_rfl),c⟩
 case hA =>
  repeat
   refine⟨fun a w c f K p=>?_,?_⟩
   focus first
    | obtain⟨d,-⟩:=f
      conv at d=>whnf;rhs;whnf
      have M:=Qn B c;have i:=Qn C c;have l:=Qn E c;have k:=Qn z c;go_simp;exact p _ _ Zr c Z
    | obtain⟨d,-⟩:=f
      conv at d=>whnf;rhs;whnf
      obtain⟨L,o⟩:=underEnd
      refine wp_load_mid 84 (.tmp 3) Z X 0 d (Qcq x e).toList _ (Qa2 A.out c) o Z sizeEnd ?_;exact p _ _ Zr c Z
    | obtain⟨d,H,-⟩:=f
      conv at d=>whnf;rhs;whnf
      conv at H=>whnf;rhs;whnf
      go_simp;refine Xm (Qdy (x:=x) (e:=e) I.out q) ?_;rw[D.out];rintro J N ⟨rfl,r⟩;go_simp;exact p _ _ r (c.trans (r.mono c.size)) Z
  trivial
def QnG (b X na ca fm c2 on oc:Nat) (p:Int) (pa a2 oa:Option Addr) (t:Tmp) (v:Value) (w:World):Prop :=
 v=(([(0,Pv b 0),(3,Pv X 0),(8,.slice oa on oc),(63,Pv b 0),(64,Pv X 8),(65,.slice pa na ca),(66,Pv b 0),(67,Pv b 0),(68,Pv b 1),(69,Pv b 3),(70,.slice a2 fm c2),(71,.slice oa on oc),(72,Iv p),(10,Iv p)]:List (Tmp × Value)).lookup t).getD undef
theorem Qod {q on oc:Nat}{p:Int}{o oa:Option Addr}{A H:Nat->Prop}{s:JSt}{regs:List Int}{ts:List (TT 6)}(z:w6.cell? ⟨X,8,none⟩=some (.slice pa na ca)) (D:w6.cell? ⟨b,3,none⟩=some (.slice o fm q)) (N:Hid (l.length=na)) (P:Hid (ts.length=fm)) (I:Hid (regs.length=on)) (f:na<=100000) (k:fm<=100000) (J:s.L.length<=80) (R:Hid (intsL.In w6 A l [.slice pa na ca])) (C:Hid ((Qt 6).In w6 Q2 ts [.slice o fm q])) (B:Hid (intsL.In w6 H regs [.slice oa on oc])) (j:Hid (∀ t∈ts,t.count<=2000)) (M:Hid (KAt w6 b O s)) (S:Hid (s.args l ts regs=p))
 (a:Act) (m:Nat) (hn:a.tmps.size=m) (g:97<=m) (E:a.tmps.getD 0 undef=Pv b 0) (F:a.tmps.getD 3 undef=Pv X 0) (x:a.tmps.getD 8 undef=.slice oa on oc) :
 Code.wp prog ((Tryz.f65.body.bind (Qf 20)).getD .skip) (fun e a' w'=>e=.normal/\∃ vs,a'=QC a vs [63,64,65,66,67,68,69,70,71,72,10]/\vs 10=Iv p/\Below w6.heap.size w6 w') a w6:=by
 conv=>arg 2;whnf
 refine Qu (QnG b X na ca fm q on oc p pa o oa) (fun w=>Below w6.heap.size w6 w) (fun w w'=>Below w.heap.size w w') (outs:=[0,3,8]) (gs:=[]) (bs:=[true,true,true,true,true,true,true,true,true,true,true]) (by kernel_rfl) (n:=97) hn g (by kernel_rfl) ?hR ?hG (Qh Zr 1) ⟨E,F,x,Y⟩ ?hA ?hend
 case hR=>exact fun t v w w' _ h=>h
 case hG=>exact Y
 case hend=>exact fun vs w' c d=>⟨Z,vs,Z,d 10 (by kernel_rfl),c⟩
 case hA =>
  repeat
   refine⟨fun a w c d K u=>?_,?_⟩
   focus first
    | obtain⟨i,-⟩:=d
      conv at i=>whnf;rhs;whnf
      have V:=Qn z c;have T:=Qn D c;go_simp;exact u _ _ Zr c Z
    | obtain⟨i,G,y,Q,-⟩:=d
      conv at i=>whnf;rhs;whnf
      conv at G=>whnf;rhs;whnf
      conv at y=>whnf;rhs;whnf
      conv at Q=>whnf;rhs;whnf
      go_simp;refine(Qdn N.out P.out I.out f k J (Ya R.out c) (Ya C.out c) (Ya B.out c) j.out (M.out.below c)).mono ?_;rw[S.out];rintro U W ⟨rfl,r⟩
      go_simp;exact u _ _ r (c.trans (r.mono c.size)) Z
  trivial
theorem Qkx {Q:Nat->Prop}{s:JSt}{x:MEnd}{e:EP}(hJ:JOk s) (h:KAt w b O s) (hx:Qgr w Q x e) (C:x.yes.regs.length<=e.cYR/\x.no.regs.length<=e.cNR) (hs:x.yes.regs.length<=100000/\x.yes.args.length<=100000/\x.no.regs.length<=100000/\x.no.args.length<=100000) :
 Calls prog 65 #[Pv b 0,.agg (Qcq x e)] w fun r w'=>r=.returned (Iv (s.fin x))/\Below w.heap.size w w':=by
 have B:=Qg hJ;obtain⟨i0,hi,bp,bo,bk⟩:=pInfoI
 have b1:=ZR w (.cells (Qcq x e) 84);have S0:Hid (EnS w (w.alloc (.cells (Qcq x e) 84)) b w.heap.size O Q s x e):=⟨h.below b1,Qe w _ _,hx.below b1,b1⟩;clear h hx b1 hJ;go_enter func65,ntmps65
 go_upto_region 1 with fail
 obtain⟨X,hX⟩:∃ X,w.heap.size=X:=⟨_,Z⟩
 unfold Qcq at S0;generalize bm:w.alloc (.cells #[Iv x.op,Iv x.a,Iv x.yes.block,.slice e.pYR x.yes.regs.length e.cYR,.slice e.pYA x.yes.args.length e.cYA,Iv x.no.block,.slice e.pNR x.no.regs.length e.cNR,.slice e.pNA x.no.args.length e.cNA,.slice e.pA x.args.length e.cA] 84)=w1 at S0 |-;have S1:Hid (EnS w w1 b X O Q s x e):=by rw[<-hX];exact S0.out
 rw[hX]
 clear bm hX S0;obtain⟨pm,cm,a1,c1,a2,c2,a3,c3,hh,aL,cL,R⟩:=S1.out.known.read
 obtain⟨-,P,q2,q3,q4,-,-⟩:=R.cells
 have G:=Qg (B.out.mod.2 s.f B.out.fn);have HS:Hid (x.yes.regs.length<2305843009213693952/\x.yes.args.length<2305843009213693952/\x.no.regs.length<2305843009213693952/\x.no.args.length<2305843009213693952):=by show _/\_;omega
 have E:Hid (s.fin x=if x.form s.f.blocks.length≠0 then x.form s.f.blocks.length else if x.op=1 then s.to x.yes else if x.op=2 then code2 (s.want x.a 1 false) (code2 (s.to x.yes) (s.to x.no)) else code2 (s.args x.args s.f.results (Qa9 s.f.regs.toNat)) (if (hList s.H).all (fun r=>decide (r<s.f.regs)) then 0 else 12)):=by
  show _=_;rw[JSt.fin]
 have L:Hid (x.form s.f.blocks.length=x.form s.f.blocks.length):=rfl;refine Code.wp_mono ?_ (ke1 P q2 q3 q4 (show Hid _ from S1.out.range) HS (by have:=G.out.many.2;omega) L _ _ Z (Xg (by kernel_rfl)) Z Z);rintro ee aa l ⟨rfl,vs,rfl,bd,hb⟩;simp only[QC,Act.put,List.setIfInBounds_toArray,List.set_cons_zero,List.set_cons_succ,bd]
 have S:Hid (EnS w l b X O Q s x e):=S1.out.below hb;clear S1 hb bd P q2 q3 q4 R L HS;obtain⟨cf,ag⟩:∃ cf,x.form s.f.blocks.length=cf:=⟨_,Z⟩
 have L:Hid (x.form s.f.blocks.length=cf):=ag;rw[ag] at E |-
 clear ag;by_cases ac:cf=0
 rotate_left
 ·have bu:(cf != 0)=true:=by simpa using ac
  have m:Hid (s.fin x=cf):=by show _=_;rw[E.out,Xs ac]
  clear E;go_wp2_with fail
  go_ret;exact⟨by rw[m.out];rfl,S.out.bel⟩
 subst ac;have E1:=E.out;rw[Xr (by simp)] at E1
 clear E;have HZ:=Qg (Qkv G.out.many.2 L.out);obtain⟨I,x1,x2,x3,x4,x5,x6,x7,x8⟩:=S.out.cells
 rcases HZ.out.1 with d | d | d
 ·have m:Hid (s.fin x=s.to x.yes):=by show _=_;rw[E1,Xs d]
  have A:Hid (x.yes.form s.f.blocks.length true=0):=by have:=HZ.out.2.2.2.2.1;rw[d] at this;exact this
  rw[d] at I
  clear E1;go_wp2_with fail
  refine(Qgp (x:=x.yes) B.out S.out.known S.out.lists.yr S.out.lists.ya C.1 (Qa1 A.out).2.1 (Qa1 A.out).2.2 (Qa1 A.out).1).mono ?_
  rintro e9 z ⟨rfl,b9⟩;have J:Hid (EnS w z b X O Q s x e):=S.out.below b9;clear b9;go_wp2_with fail
  go_ret;exact⟨by rw[m.out];rfl,J.out.bel⟩
 ·have m:Hid (s.fin x=code2 (s.want x.a 1 false) (code2 (s.to x.yes) (s.to x.no))):=by show _=_;rw[E1,Xr (by omega),Xs d]
  have A:Hid (x.yes.form s.f.blocks.length true=0):=by have:=HZ.out.2.2.2.2.1;rw[d] at this;exact this
  have h2:Hid (x.no.form s.f.blocks.length true=0):=by have:=HZ.out.2.2.2.2.2;rw[d] at this;exact this
  rw[d] at I
  clear E1;go_wp2_with fail
  refine(Q7 x.a 1 false B.out.regs B.out.vals S.out.known).mono ?_
  rintro e8 w8 ⟨rfl,n8,a5⟩;have S8:Hid (EnS w w8 b X O Q s x e):=S.out.below (by rw[a5];exact Qh Zr n8);clear a5 S;have S:=S8;clear S8 I x1 x2 x3 x4 x5 x6 x7 x8;obtain⟨I,x1,x2,x3,x4,x5,x6,x7,x8⟩:=S.out.cells
  rw[d] at I
  generalize s.want x.a 1 false=cw at m |-;by_cases af:cw=0
  rotate_left
  ·have bt:(cw != 0)=true:=by simpa using af
   have y:Hid (s.fin x=cw):=by show _=_;rw[m.out];unfold code2;rw[Xr af]
   clear m;go_wp2_with fail
   go_ret;exact⟨by rw[y.out];rfl,S.out.bel⟩
  subst af;have y:Hid (s.fin x=code2 (s.to x.yes) (s.to x.no)):=by show _=_;rw[m.out];rfl
  clear m;go_wp2_with fail
  refine(Qgp (x:=x.yes) B.out S.out.known S.out.lists.yr S.out.lists.ya C.1 (Qa1 A.out).2.1 (Qa1 A.out).2.2 (Qa1 A.out).1).mono ?_
  rintro e9 z ⟨rfl,b9⟩;have J:Hid (EnS w z b X O Q s x e):=S.out.below b9;clear b9;clear S;have S:=J;clear J I x1 x2 x3 x4 x5 x6 x7 x8;obtain⟨I,x1,x2,x3,x4,x5,x6,x7,x8⟩:=S.out.cells
  rw[d] at I
  generalize s.to x.yes=cy at y |-;by_cases ae:cy=0
  rotate_left
  ·have bs:(cy != 0)=true:=by simpa using ae
   have E4:Hid (s.fin x=cy):=by show _=_;rw[y.out];unfold code2;rw[Xr ae]
   clear y;go_wp2_with fail
   go_ret;exact⟨by rw[E4.out];rfl,S.out.bel⟩
  subst ae;have E4:Hid (s.fin x=s.to x.no):=by show _=_;rw[y.out];rfl
  clear y;go_wp2_with fail
  refine(Qgp (x:=x.no) B.out S.out.known S.out.lists.nr S.out.lists.na C.2 (Qa1 h2.out).2.1 (Qa1 h2.out).2.2 (Qa1 h2.out).1).mono ?_
  rintro e9 z ⟨rfl,b9⟩;have J:Hid (EnS w z b X O Q s x e):=S.out.below b9;clear b9;go_wp2_with fail
  go_ret;exact⟨by rw[E4.out];rfl,J.out.bel⟩
 ·have m:Hid (s.fin x=code2 (s.args x.args s.f.results (Qa9 s.f.regs.toNat)) (if (hList s.H).all (fun r=>decide (r<s.f.regs)) then 0 else 12)):=by show _=_;rw[E1,Xr (by omega),Xr (by omega)]
  have bw:x.args.length<=8:=HZ.out.2.2.2.1;obtain⟨pm,cm,a1,c1,a2,c2,a3,c3,hh,aL,cL,R⟩:=S.out.known.read
  obtain⟨-,P,q2,q3,q4,q5,-⟩:=R.cells
  have aq:Hid (Qr l hh O s.H):=R.holds;have bq:Hid (s.f.results.length<=8):=G.out.results.1;have bf:Hid (∀ t∈s.f.results,t.count<=2000):=fun t ht=>Xo fun p=>B.out.tiny (.inr ⟨s.f,B.out.fn,.inr (.inr (.inl (.inr ⟨t,ht,p⟩)))⟩);obtain⟨fa,fc,fb,fd,fe,ff,an,-,V,-,-⟩:=QaO R.fn
  simp only[List.cons.injEq,Value.slice.injEq,and_true,true_and] at an
  obtain⟨-,⟨rfl,rfl⟩,-⟩:=an
  have ao:Hid ((Qt 6).In l (fun g=>¬ O g) s.f.results [.slice a2 s.f.results.length c2]):=V;obtain⟨fr,a7⟩:=Xc G.out.regs.1
  have bv:fr<=6:=by have:=G.out.regs.2;omega
  rw[a7] at P m
  rw[XT] at m
  rw[d] at I
  clear E1 R V a7 q2 q4;go_wp2_with fail
  go_loopw [8,9] (fun v u wr=>∃ k cs,u=Iv (k:Nat)/\k<=fr/\Qag Lay.int 3 wr l.heap.size v (Qa9 k) cs/\Below l.heap.size l wr) (fun _ u _=>fr - (intOf u).toNat)
  case atStart=>exact⟨0,[],Z,Xb _,Qag.nil _ _ _ _,Zr⟩
  case round =>
   obtain⟨k,cs,rfl,hk,hA,hB⟩:=hrel
   obtain⟨a,c,rfl⟩:=hA.formP
   have HA:Hid (Qag Lay.int 3 wr l.heap.size (.slice a (Qa9 k).length c) (Qa9 k) cs):=hA;have K:Hid (Below l.heap.size l wr):=hB;have W:(Qa9 k).length<=6:=by rw[Qli];omega
   have az:l.heap.size<=wr.heap.size:=hB.size;have a6:=Qn P hB;clear hA hB;by_cases p:k<fr
   ·have ay:(k:Int)<fr:=by omega
    have E9:Hid (Qa9 (k+1)=Qa9 k++[(k:Int)]):=Qkd k;have D:Hid (wr.ownsRow l.heap.size 3 1 (.slice a (Qa9 k).length c) (Qa9 k).length cs):=HA.out.own
    have PU:Hid (∀ g ah z,z.ownsRow l.heap.size 3 1 (.slice (some ⟨g,0,none⟩) ((Qa9 k).length+1) ah) ((Qa9 k).length+1) (cs++[Iv (k:Int)])->(wr.alloc (.cells #[Iv (k:Int)] 3)).grownBy z (Value.slice a (Qa9 k).length c).ownBlock->((Value.slice a (Qa9 k).length c).ownBlock=some g\/g=wr.heap.size+1) ->
     Qag Lay.int 3 z l.heap.size (.slice (some ⟨g,0,none⟩) ((Qa9 k).length+1) ah) (Qa9 (k+1)) (cs++[Iv (k:Int)])/\Below l.heap.size l z):=by
     intro g ah z A h2 h3;obtain⟨P,q2⟩:=Qdi HA.out (by omega) az A h2 h3
     rw[E9.out]
     exact⟨P,q2 l K.out⟩
    clear HA K E9;generalize (Qa9 k).length=n at D PU W |-;go_wp2_with (at_builtin;refine wpList_append_lies _ Z (.tmp 59) (.tmp 61) 76 Z l.heap.size 3 i0 (Iv 0) 1 8 pUnderI hi bp bo bk Z (by decide) _ _ _ Z (D.out.alloc _) ⟨wr.heap.size,0,none⟩ 1 1 [Iv (k:Int)] Z Z (Qkm _ [_] _) (Qmw _) (by decide) (by unfold maxLen;omega) (by omega) (by simp;omega) (wr.heap.size+1) (by simp) ?_)
    intro g2 am z A F ak a4;obtain⟨z1,z2⟩:=PU.out g2 am z A F ak
    have A9:=Qg z1;have B9:=Qg z2;clear A F ak a4 D PU z1 z2;go_wp2
    go_roundw
    case rel=>exact⟨k+1,_,by go_num,by omega,A9.out,B9.out⟩
    case measure=>simp[intOf];omega
   ·have bh:k=fr:=by omega
    have ay:¬ (k:Int)<fr:=by omega
    have ap:Hid (intsL.In wr (fun g=>l.heap.size<=g) (Qa9 k) [.slice a (Qa9 k).length c]):=HA.out.lay;have J:Hid (EnS w wr b X O Q s x e):=S.out.below K.out;have a0:=Qn q3 K.out;have a8:Hid ((Qt 6).In wr (fun g=>¬ O g) s.f.results [.slice a2 s.f.results.length c2]):=Ya ao.out K.out;have ai:=Qn q5 K.out;have aw:=Qn x8 K.out;have M:Hid (Qr wr hh O s.H):=aq.out.below K.out;clear HA K S P q3 q5 I x1 x2 x3 x4 x5 x6 x7 x8 ao aq az;have S:=J;clear J;subst bh;clear p;go_upto_region 20 with fail
    have av:Hid (x.args.length=x.args.length):=rfl;have bb:Hid ((Qa9 k).length=(Qa9 k).length):=rfl;refine Code.wp_mono ?_ (Qod aw a0 av (show Hid (s.f.results.length=s.f.results.length) from Z) bb (by omega) (by have:=bq.out;omega) B.out.vals (show Hid _ from S.out.lists.ar) a8 ap bf (show Hid _ from S.out.known) (show Hid (s.args x.args s.f.results (Qa9 k)=s.args x.args s.f.results (Qa9 k)) from Z) _ _ Z (Xg (by kernel_rfl)) Z Z Z);rintro ee aa w7 ⟨rfl,vs,rfl,U,hb⟩;simp only[QC,Act.put,List.setIfInBounds_toArray,List.set_cons_zero,List.set_cons_succ,U]
    have S7:Hid (EnS w w7 b X O Q s x e):=S.out.below hb;have aj:=Qn a6 hb;have bi:=Qn ai hb;have N:Hid (Qr w7 hh O s.H):=M.out.below hb;clear hb U S ap a8 M av bb a6 a0 ai aw;have S:=S7;clear S7;generalize s.args x.args s.f.results (Qa9 k)=ca at m |-;generalize (Qa9 k).length=nk at W |-;by_cases ad:ca=0
    rotate_left
    ·have br:(ca != 0)=true:=by simpa using ad
     have y:Hid (s.fin x=ca):=by show _=_;rw[m.out];unfold code2;rw[Xr ad]
     clear m;go_wp2_with fail
     go_ret;exact⟨by rw[y.out];rfl,S.out.bel⟩
    subst ad;have y:Hid (s.fin x=if (hList s.H).all (fun r=>decide (r<(k:Int))) then 0 else 12):=by show _=_;rw[m.out];rfl
    clear m;go_wp2_with fail
    refine(Qeg (by have:=B.out.regs;omega) N.out).mono ?_
    rintro e8 w8 ⟨la,lc,rfl,bc,b8⟩;have S8:Hid (EnS w w8 b X O Q s x e):=S.out.below b8;have bl:=Qn aj b8;have ba:Hid (intsL.In w8 (fun g=>w7.heap.size<=g) (hList s.H) [.slice la (hList s.H).length lc]):=bc;have al:(hList s.H).length<=16:=by have:=Qe4 s.H;have:=B.out.regs;omega
    clear b8 S aj bi bc N;have S:=S8;clear S8;generalize hList s.H=H at y ba al |-
    have HX:Hid (∀ i,i<H.length->∃ g o,la=some ⟨g,o,none⟩/\w8.cell? ⟨g,o+i,none⟩=some (Iv (H.getD i 0))):=fun i hi=>by
     obtain⟨a1,a2,e1,-,-,e2⟩:=ZW ba.out hi
     exact⟨a1,a2,e1,e2⟩
    go_wp2_with fail
    go_loopw [12] (fun i wr=>∃ q n:Nat,q<=H.length/\i=Iv q/\wr=w8.drewN n/\∀ j,j<q->H.getD j 0<(k:Int)) (fun i _=>H.length - (intOf i).toNat)
    case atStart=>exact⟨0,0,Xb _,Z,Z,fun j hj=>absurd hj (XG _)⟩
    case round =>
     obtain⟨q,n,hq,rfl,hw,T⟩:=hrel
     have ab:Hid (∀ j,j<q->H.getD j 0<(k:Int)):=T;have HW:Hid (wr=w8.drewN n):=hw;have bx:wr.cell? ⟨b,1,none⟩=some (Iv (k:Int)):=by rw[hw];exact bl
     have SR:Hid (EnS w wr b X O Q s x e):=S.out.below (by rw[hw];exact Qh Zr n);clear T hw;by_cases p:q<H.length
     ·obtain⟨bn,ro,rfl,a9⟩:=HX.out q p
      have bj:wr.cell? ⟨bn,ro+q,none⟩=some (Iv (H.getD q 0)):=by rw[HW.out];exact a9
      have ax:(q:Int)<H.length:=by omega
      obtain⟨v,hv⟩:∃ v,H.getD q 0=v:=⟨_,Z⟩
      have HV:Hid (H.getD q 0=v):=hv;rw[hv] at bj
      clear hv a9;by_cases be:v<(k:Int)
      ·have au:decide ((k:Int)<=v)=false:=Xu (by omega);go_wp2_with fail
       go_quiet (fail)
       go_wp2
       go_roundw
       case rel =>
        refine⟨q+1,n+nq,by omega,by go_num,by rw[HW.out,World.drewN_drewN],fun j hj=>?_⟩
        by_cases bg:j<q
        ·exact ab.out j bg
        ·have:j=q:=by omega
         subst this;rw[HV.out];exact be
       case measure=>simp[intOf];omega
      ·have au:decide ((k:Int)<=v)=true:=Xt (by omega)
       have E4:Hid (s.fin x=12):=by
        show _=_;rw[y.out,Xr]
        intro hh
        have:=Xe.1 hh v (by rw[<-HV.out,List.getD_eq_getElem?_getD,Zg p];exact List.getElem_mem p)
        exact be (Xv this)
       clear y;go_wp2_with fail
       go_quiet (fail)
       go_wp2
       go_ret;exact⟨by rw[E4.out];rfl,Qh SR.out.bel _⟩
     ·have E4:Hid (s.fin x=0):=by
       show _=_;rw[y.out,Xs]
       refine Xe.2 fun v hv=>Xt ?_;obtain⟨j,hj,rfl⟩:=List.getElem_of_mem hv
       have:=ab.out j (by omega)
       rwa [List.getD_eq_getElem?_getD,Zg hj] at this
      have ax:¬ (q:Int)<H.length:=by omega
      clear y;go_wp2
      go_ret;exact⟨by rw[E4.out];rfl,SR.out.bel⟩
section
variable {w w' w2:World}{b most n:Nat}{m:List (MFunc 6)}{M M' N:IM}{sc sa:Int}{g g1:MG}{e:Ending}
theorem QbY {a:Nat}{t:MTo}(h:t.form a true=0):0<=t.block/\t.block<(a:Int)/\t.regs.length<=16/\t.args.length<=8:=by
 unfold MTo.form at h;rw[Xr (by simp)] at h
 split at h
 ·cases h
 ·split at h
  ·cases h
  ·omega
theorem QfD {a:Nat}{x:MEnd}(h:x.form a=0):(1<=x.op/\x.op<=3)/\x.args.length<=8/\(x.op≠3->x.yes.form a true=0)/\(x.op=2->x.no.form a true=0):=by
 unfold MEnd.form at h;split at h
 ·cases h
 rename_i d
 split at h
 ·cases h
 split at h
 ·cases h
 rename_i c
 split at h
 ·rename_i b;exact absurd h b
 rename_i b
 refine⟨by omega,by omega,fun e=>?_,fun e=>?_⟩
 ·have:decide (x.op≠3)=true:=Xt e
  rw[this] at b
  exact Xq.1 b
 ·have:decide (x.op=2)=true:=Xt e
  rw[this] at h
  exact h
theorem Qjl (S:MAt w b most m M sc sa g) (I:Qat n M) (hd:M.rest.length<=39) (aa:∀ d∈M.rest,d.v.length+8<=1000000){fn:MFunc 6}(hf:m[M.top.f]?=some fn) (hm:m.length<=8) (hr:fn.right m.length){x:MEnd}{j:EP}(EI:EIn w Q2 x j) (hx:x.form fn.blocks.length=0) :
 Calls prog 87 #[Pv b 0,Pv g.t.c 0,.agg (Qcq x j)] w fun e w'=>QdG g w b most m M sc sa (IM.endd fn M x) e w':=by
 obtain⟨ae,ad,K,W⟩:=QfD hx
 have D:=Qb (Zb w (.cells (Qcq x j) 84));have B:=Qb (Qe w (Qcq x j) 84);have HS:=Qb S;have S1:=Qb (S.below D.out);have HI:=Qb I;have TB:=Qb (S.stepB D.out)
 have A:Hid (∀ t:MTo,t.form fn.blocks.length true=0->∃ (Q:Nat) (bl:MBlock 6),t.block=(Q:Int)/\fn.blocks[Q]?=some bl/\bl.params.length<=1000):=fun t ht=>by
  obtain⟨h0,l,-,-⟩:=QbY ht
  obtain⟨Q,ab⟩:=Xc h0
  have hl:Q<fn.blocks.length:=by omega
  exact⟨Q,fn.blocks[Q],ab,Zg hl,by have:=(hr.blocks _ (List.getElem_mem hl)).params.1;omega⟩
 have P:Hid (∀ (t:MTo) (pr pa:Option Addr) (cr ca:Nat) u,t.form fn.blocks.length true=0->Qig w Q2 t pr cr pa ca->Below w.heap.size w u->Calls prog 132 #[Pv b 0,Pv g.t.c 0,.agg #[Iv t.block,.slice pr t.regs.length cr,.slice pa t.args.length ca]] u fun e w'=>Qo g w b most m M sc sa (IM.to fn M t) e w'):=fun t pr pa cr ca u ht hi G=>by
  obtain⟨Q,bl,l,s,J⟩:=A.out t ht
  obtain⟨-,-,h4,i⟩:=QbY ht
  refine(Qji (S.below G) I hf l s ⟨by omega,by have:=hr.many.2;omega,J⟩ (Ya hi.regs G) (Ya hi.args G) ⟨by omega,by omega⟩).mono (fun e w' h=>?_)
  have T:=S.stepB G
  cases hres:IM.to fn M t with
  | none=>rw[hres] at h;exact⟨h.1,XTo.then T Z Z h.2⟩
  | some M' =>
    rw[hres] at h
    rcases h with ⟨l,s⟩|⟨N,k,l,s,J⟩
    ·exact .inl ⟨l,XTo.then T Z Z s⟩
    ·exact .inr ⟨N,k,l,s,XTo.then T Z Z J⟩
 have CG:Hid (∀ u,Below w.heap.size w u->Calls prog 134 #[Pv b 0,Pv g.t.c 0,.slice j.pA x.args.length j.cA] u fun e w'=>QdG g w b most m M sc sa (IM.ret fn M x.args) e w'):=fun u G=>by
  refine(Qjv (S.below G) I hd aa hf ⟨by omega,by have:=hr.results.1;omega⟩ (Ya EI.args G) ad).mono (fun e w' h=>?_)
  have T:=S.stepB G
  cases hres:IM.ret fn M x.args with
  | none=>rw[hres] at h;exact⟨h.1,XTo.then T Z Z h.2⟩
  | some M' =>
    rw[hres] at h
    rcases h with ⟨l,s⟩|⟨N,k,l,s,J⟩
    ·exact .inl ⟨l,XGo.then T s⟩
    ·exact .inr ⟨N,k,l,s,XTo.then T Z Z J⟩
 have CN:Hid (∀ u,Below w.heap.size w u->Calls prog 133 #[Pv g.t.c 0,Iv x.a] u fun e w'=>Ask (QB M.top.v x.a) (.int .i64) e/\Below u.heap.size u w'):=fun u G=>ZN (S.top.below G) (by have:=I.len;omega) x.a;have p:=Qb EI;have L:=Qb (Xh K W);have E:=Qb (show IM.endd fn M x=if x.op=1 then M.to fn x.yes else if x.op=2 then (match QB M.top.v x.a with | none=>none | some n=>if n=0 then M.to fn x.no else M.to fn x.yes) else IM.ret fn M x.args from Z);generalize IM.endd fn M x=y at E |-;clear S I EI hx K W aa hf hr A;go_enter func87,ntmps87
 go_upto_region 1 with fail
 generalize w.alloc (.cells (Qcq x j) 84)=z at D B S1 TB |-;generalize w.heap.size=X at B |-;have V:z.cell? ⟨X,0,none⟩=some (Iv x.op):=Qa B.out 0 _ Z;have x1:z.cell? ⟨X,1,none⟩=some (Iv x.a):=Qa B.out 1 _ Z;have x2:z.cell? ⟨X,2,none⟩=some (Iv x.yes.block):=Qa B.out 2 _ Z;have x3:z.cell? ⟨X,3,none⟩=some (.slice j.pYR x.yes.regs.length j.cYR):=Qa B.out 3 _ Z;have x4:z.cell? ⟨X,4,none⟩=some (.slice j.pYA x.yes.args.length j.cYA):=Qa B.out 4 _ Z;have x5:z.cell? ⟨X,5,none⟩=some (Iv x.no.block):=Qa B.out 5 _ Z;have x6:z.cell? ⟨X,6,none⟩=some (.slice j.pNR x.no.regs.length j.cNR):=Qa B.out 6 _ Z;have x7:z.cell? ⟨X,7,none⟩=some (.slice j.pNA x.no.args.length j.cNA):=Qa B.out 7 _ Z;have x8:z.cell? ⟨X,8,none⟩=some (.slice j.pA x.args.length j.cA):=Qa B.out 8 _ Z;by_cases l:x.op=1
 ·have o:Hid (y=M.to fn x.yes):=by show _=_;rw[E.out,Xs l]
  have C:=Qb (P.out x.yes _ _ _ _ z (L.out.1 (by omega)) p.out.yes D.out);rw[l] at V
  clear P CG CN E x1 x5 x6 x7 x8 L p;generalize M.to fn x.yes=O at o C;go_wp2_with fail
  refine C.out.mono ?_;rintro R w5 i;have i:=Qo.toEnd i;have r:=Qb i
  cases O with
  | none=>rcases i with ⟨rfl,-⟩;exact⟨Z,by rw[o.out];exact r.out⟩
  | some M' =>
    rcases i with ⟨rfl,-⟩|⟨N,k,-,rfl,-⟩
    ·clear C V x2 x3 x4;go_wp2
     exact Xz (v:=.tuple #[]) (by simp[results,results87,go_sem]) Z (by rw[o.out];exact r.out)
    ·exact⟨Z,by rw[o.out];exact r.out⟩
 by_cases s:x.op=2
 ·have o:Hid (y=match QB M.top.v x.a with | none=>none | some n=>if n=0 then M.to fn x.no else M.to fn x.yes):=by show _=_;rw[E.out,Xr l,Xs s]
  have C:=Qb (CN.out z D.out);rw[s] at V
  clear CG CN E x8;go_upto_region 5 with fail
  cases hn:QB M.top.v x.a with
  | none =>
    rw[hn] at C o
    go_wp2_with fail
    refine C.out.mono ?_;rintro R w5 ⟨i,F⟩;have i:R=.panicked stuckP:=i;subst i;exact⟨Z,by rw[o.out];exact⟨Z,XTo.same HS.out (D.out.trans (F.mono D.out.size))⟩⟩
  | some q =>
    rw[hn] at C o
    have E3:Hid (y=if q=0 then M.to fn x.no else M.to fn x.yes):=o.out;go_wp2_with fail
    refine C.out.mono ?_;rintro R w5 ⟨i,F⟩;have i:R=.returned (Iv q):=i;subst i;have B5:=Qb (D.out.trans (F.mono D.out.size));have y2:=Qn x2 F;have y3:=Qn x3 F;have y4:=Qn x4 F;have y5:=Qn x5 F;have y6:=Qn x6 F;have y7:=Qn x7 F;clear V x1 x2 x3 x4 x5 x6 x7 F C o;by_cases U:q=0
    ·have ac:(q != 0)=false:=by simpa using U
     have H:Hid (y=M.to fn x.no):=by show _=_;rw[E3.out,Xs U]
     have C:=Qb (P.out x.no _ _ _ _ w5 (L.out.2 s) p.out.no B5.out);clear P E3 L p U y2 y3 y4;generalize M.to fn x.no=O at H C;go_wp2_with fail
     refine C.out.mono ?_;rintro R w6 i;have i:=Qo.toEnd i;have r:=Qb i
     cases O with
     | none=>rcases i with ⟨rfl,-⟩;exact⟨Z,by rw[H.out];exact r.out⟩
     | some M' =>
       rcases i with ⟨rfl,-⟩|⟨N,k,-,rfl,-⟩
       ·clear C y5 y6 y7;go_wp2
        exact Xz (v:=.tuple #[]) (by simp[results,results87,go_sem]) Z (by rw[H.out];exact r.out)
       ·exact⟨Z,by rw[H.out];exact r.out⟩
    ·have ac:(q != 0)=true:=by simpa using U
     have H:Hid (y=M.to fn x.yes):=by show _=_;rw[E3.out,Xr U]
     have C:=Qb (P.out x.yes _ _ _ _ w5 (L.out.1 (by omega)) p.out.yes B5.out);clear P E3 L p U y5 y6 y7;generalize M.to fn x.yes=O at H C;go_wp2_with fail
     refine C.out.mono ?_;rintro R w6 i;have i:=Qo.toEnd i;have r:=Qb i
     cases O with
     | none=>rcases i with ⟨rfl,-⟩;exact⟨Z,by rw[H.out];exact r.out⟩
     | some M' =>
       rcases i with ⟨rfl,-⟩|⟨N,k,-,rfl,-⟩
       ·clear C y2 y3 y4;go_wp2
        exact Xz (v:=.tuple #[]) (by simp[results,results87,go_sem]) Z (by rw[H.out];exact r.out)
       ·exact⟨Z,by rw[H.out];exact r.out⟩
 have J:x.op=3:=by omega
 have o:Hid (y=IM.ret fn M x.args):=by show _=_;rw[E.out,Xr l,Xr s]
 have C:=Qb (CG.out z D.out);rw[J] at V
 clear P CG CN E x1 x2 x3 x4 x5 x6 x7 L p l s J;generalize IM.ret fn M x.args=O at o C;go_wp2_with fail
 refine C.out.mono ?_;rintro R w5 i;have r:=Qb i
 cases O with
 | none=>rcases i with ⟨rfl,-⟩;exact⟨Z,by rw[o.out];exact r.out⟩
 | some M' =>
   rcases i with ⟨rfl,-⟩|⟨N,k,-,rfl,-⟩
   ·clear C V x8;go_wp2
    exact Xz (v:=.tuple #[]) (by simp[results,results87,go_sem]) Z (by rw[o.out];exact r.out)
   ·exact⟨Z,by rw[o.out];exact r.out⟩
end
def tru (p:Bool):Int:=if p then 1 else 0
theorem QoW (a b:Int) (w:World):Calls prog 136 #[Iv 1,Iv a,Iv b] w fun e w'=>e=.returned (.tuple #[Iv (wrap64 (a+b)),.bool true])/\w'=w:=by
 go_enter func136,ntmps136
 go_wp2
 go_ret2;exact⟨Z,Z⟩
theorem Qox (a b:Int) (w:World):Calls prog 136 #[Iv 2,Iv a,Iv b] w fun e w'=>e=.returned (.tuple #[Iv (wrap64 (a - b)),.bool true])/\w'=w:=by
 go_enter func136,ntmps136
 go_wp2
 go_ret2;exact⟨Z,Z⟩
theorem QoE (a b:Int) (w:World):Calls prog 136 #[Iv 3,Iv a,Iv b] w fun e w'=>e=.returned (.tuple #[Iv (wrap64 (a*b)),.bool true])/\w'=w:=by
 go_enter func136,ntmps136
 go_wp2
 go_ret2;exact⟨Z,Z⟩
theorem Qov (a b:Int) (w:World) (hb:(b==0)=false) (hn:¬ b=0):Calls prog 136 #[Iv 4,Iv a,Iv b] w fun e w'=>e=.returned (.tuple #[Iv (wrap64 (a.tdiv b)),.bool true])/\w'=w:=by
 go_enter func136,ntmps136
 go_wp2
 go_ret2;exact⟨Z,Z⟩
theorem QnD (a:Int) (w:World):Calls prog 136 #[Iv 4,Iv a,Iv 0] w fun e w'=>e=.returned (.tuple #[Iv 0,.bool false])/\w'=w:=by
 go_enter func136,ntmps136
 go_wp2
 go_ret2;exact⟨Z,Z⟩
theorem QoJ (a b:Int) (w:World) (hb:(b==0)=false) (hn:¬ b=0):Calls prog 136 #[Iv 5,Iv a,Iv b] w fun e w'=>e=.returned (.tuple #[Iv (a.tmod b),.bool true])/\w'=w:=by
 go_enter func136,ntmps136
 go_wp2
 go_ret2;exact⟨Z,Z⟩
theorem Qnx (a:Int) (w:World):Calls prog 136 #[Iv 5,Iv a,Iv 0] w fun e w'=>e=.returned (.tuple #[Iv 0,.bool false])/\w'=w:=by
 go_enter func136,ntmps136
 go_wp2
 go_ret2;exact⟨Z,Z⟩
theorem Qou (a b:Int) (w:World):Calls prog 136 #[Iv 6,Iv a,Iv b] w fun e w'=>e=.returned (.tuple #[Iv (tru (decide (a<b))),.bool true])/\w'=w:=by
 by_cases h:a<b
 ·have c:tru (decide (a<b))=1:=by simp[tru,h]
  rw[c]
  go_enter func136,ntmps136
  go_wp2
  go_ret2;exact⟨Z,Z⟩
 ·have c:tru (decide (a<b))=0:=by simp[tru,h]
  rw[c]
  go_enter func136,ntmps136
  go_wp2
  go_ret2;exact⟨Z,Z⟩
theorem Qoj (a b:Int) (w:World):Calls prog 136 #[Iv 7,Iv a,Iv b] w fun e w'=>e=.returned (.tuple #[Iv (tru (a==b)),.bool true])/\w'=w:=by
 cases h:(a==b)
 ·go_enter func136,ntmps136
  go_wp2
  go_ret2;exact⟨Z,Z⟩
 ·go_enter func136,ntmps136
  go_wp2
  go_ret2;exact⟨Z,Z⟩
theorem QoT (a b:Int) (w:World):Calls prog 136 #[Iv 8,Iv a,Iv b] w fun e w'=>e=.returned (.tuple #[Iv (bits .and .i64 a b),.bool true])/\w'=w:=by
 go_enter func136,ntmps136
 go_wp2
 go_ret2;exact⟨Z,Z⟩
theorem QoA (a b:Int) (w:World):Calls prog 136 #[Iv 9,Iv a,Iv b] w fun e w'=>e=.returned (.tuple #[Iv (bits .xor .i64 a b),.bool true])/\w'=w:=by
 go_enter func136,ntmps136
 go_wp2
 go_ret2;exact⟨Z,Z⟩
theorem Qoi (k a b:Int) (w:World) (c:k<1\/9<k):Calls prog 136 #[Iv k,Iv a,Iv b] w fun e w'=>e=.returned (.tuple #[Iv 0,.bool false])/\w'=w:=by
 rcases c with c | c
 ·go_enter func136,ntmps136
  go_wp2
  go_ret2;exact⟨Z,Z⟩
 ·go_enter func136,ntmps136
  go_wp2
  go_ret2;exact⟨Z,Z⟩
def aOp (k a b:Int):Option Int :=
 if k=1 then some (wrap64 (a+b)) else if k=2 then some (wrap64 (a - b)) else if k=3 then some (wrap64 (a*b))
 else if k=4 then (if b=0 then none else some (wrap64 (a.tdiv b))) else if k=5 then (if b=0 then none else some (a.tmod b))
 else if k=6 then some (tru (decide (a<b))) else if k=7 then some (tru (a==b)) else if k=8 then some (bits .and .i64 a b) else if k=9 then some (bits .xor .i64 a b) else none
theorem QlL (k a b:Int) (w:World):Calls prog 136 #[Iv k,Iv a,Iv b] w fun e w'=>e=.returned (.tuple #[Iv ((aOp k a b).getD 0),.bool (aOp k a b).isSome])/\w'=w:=by
 by_cases j:k=1
 ·subst j;exact QoW a b w
 by_cases h:k=2
 ·subst h;exact Qox a b w
 by_cases l:k=3
 ·subst l;exact QoE a b w
 by_cases n:k=4
 ·subst n;by_cases c:b=0
  ·subst c;exact QnD a w
  ·have:aOp 4 a b=some (wrap64 (a.tdiv b)):=by simp[aOp,c]
   rw[this];exact Qov a b w (by simpa using c) c
 by_cases m:k=5
 ·subst m;by_cases c:b=0
  ·subst c;exact Qnx a w
  ·have:aOp 5 a b=some (a.tmod b):=by simp[aOp,c]
   rw[this];exact QoJ a b w (by simpa using c) c
 by_cases d:k=6
 ·subst d;exact Qou a b w
 by_cases i:k=7
 ·subst i;exact Qoj a b w
 by_cases f:k=8
 ·subst f;exact QoT a b w
 by_cases g:k=9
 ·subst g;exact QoA a b w
 ·have:aOp k a b=none:=by simp[aOp,j,h,l,n,m,d,i,f,g]
  rw[this];exact Qoi k a b w (by omega)
theorem Qcw (x:Int):ZE (wrap64 x):=by unfold ZE wrap64;omega
theorem Qml (a b:Int):ZE (bits .and .i64 a b):=by
 have:bits .and .i64 a b=wrap64 ((BitVec.ofInt 64 a &&& BitVec.ofInt 64 b).toNat:Int):=by show IntKind.i64.wrap _=_;rw[IntKind.wrap_i64];unfold wrap64;rfl
 rw[this];exact Qcw _
theorem QmJ (a b:Int):ZE (bits .xor .i64 a b):=by
 have:bits .xor .i64 a b=wrap64 ((BitVec.ofInt 64 a ^^^ BitVec.ofInt 64 b).toNat:Int):=by show IntKind.i64.wrap _=_;rw[IntKind.wrap_i64];unfold wrap64;rfl
 rw[this];exact Qcw _
theorem Qk7 (p:Bool):ZE (tru p):=by cases p<;>exact⟨by decide,by decide⟩
theorem QmU {a b:Int}(hb:ZE b) (c:b≠0):ZE (a.tmod b):=by
 have d:=Int.natAbs_tmod a b;have e:(a.tmod b).natAbs<b.natAbs:=by rw[d];exact Nat.mod_lt _ (Int.natAbs_pos.2 c)
 generalize a.tmod b=x at *;unfold ZE at *;omega
theorem QiM {k a b n:Int}(p:ZE a) (hb:ZE b) (h:aOp k a b=some n):ZE n:=by
 unfold aOp at h;by_cases j:k=1
 ·rw[Xs j] at h;cases h;exact Qcw _
 rw[Xr j] at h
 by_cases g:k=2
 ·rw[Xs g] at h;cases h;exact Qcw _
 rw[Xr g] at h
 by_cases l:k=3
 ·rw[Xs l] at h;cases h;exact Qcw _
 rw[Xr l] at h
 by_cases o:k=4
 ·rw[Xs o] at h
  by_cases c:b=0
  ·rw[Xs c] at h;cases h
  ·rw[Xr c] at h;cases h;exact Qcw _
 rw[Xr o] at h
 by_cases m:k=5
 ·rw[Xs m] at h
  by_cases c:b=0
  ·rw[Xs c] at h;cases h
  ·rw[Xr c] at h;cases h;exact QmU hb c
 rw[Xr m] at h
 by_cases d:k=6
 ·rw[Xs d] at h;cases h;exact Qk7 _
 rw[Xr d] at h
 by_cases i:k=7
 ·rw[Xs i] at h;cases h;exact Qk7 _
 rw[Xr i] at h
 by_cases e:k=8
 ·rw[Xs e] at h;cases h;exact Qml _ _
 rw[Xr e] at h
 by_cases f:k=9
 ·rw[Xs f] at h;cases h;exact QmJ _ _
 rw[Xr f] at h
 cases h
def QeU (w w':World) (b:Nat) (O:Nat->Prop) (h':Qc) (Z:Nat):Prop:=∃ O' G',HIn w' b O' h' G'/\QZ O O' w w'/\(∀ x,O x->O' x)/\¬ O' Z
theorem QgX (g:World) (i:Nat) (O:Nat->Prop) (R:Qc->Prop) (n:∀ x,O x->x<g.heap.size):HPs g (fun w=>∃ h',R h'/\HTo g w i O h') (fun Z w=>∃ h',R h'/\QeU g w i O h' Z) where
 down:=fun ⟨h',r,c,d,a,s,k,_⟩=>⟨h',r,c,d,a,s,k⟩
 up:=fun {w} o ⟨h',r,c,d,a,s,k⟩=>⟨h',r,c,d,a.below (Zb w o),s.alloc o,k,fun e=>by have:=a.lt _ e;omega⟩
 below:=fun {w l} ⟨h',r,c,d,a,s,k⟩ b=>⟨h',r,c,d,a.below b,⟨b.os.trans s.os,b.tape.trans s.tape,b.output.trans s.output,Zt s.size b.size,fun x f h=>(b.block x (by have:=s.size;omega)).trans (s.block x f h),s.own⟩,k⟩
 belowZ:=fun {Z w l} ⟨h',r,c,d,a,s,k,z⟩ _ b=>⟨h',r,c,d,a.below b,⟨b.os.trans s.os,b.tape.trans s.tape,b.output.trans s.output,Zt s.size b.size,fun x f h=>(b.block x (by have:=s.size;omega)).trans (s.block x f h),s.own⟩,k,z⟩
 fill:=fun {Z w} r ⟨h',j,c,d,a,s,k,z⟩ m=>⟨h',j,c,d,a.keep (by simp) (fun x f _=>Qb6 (fun (e:x=Z)=>z (e ▸ f)) _ _ _ _),Qep s m _ _ _ _,k,z⟩
 low:=fun ⟨h',r,c,d,a,s,k⟩=>s.size
theorem HTo.from {w w':World}{b:Nat}{h':Qc}(c:Below w6.heap.size w6 w) (i:∀ x,O x->x<w6.heap.size) (T:HTo w w' b O h'):HTo w6 w' b O h'/\∀ Z,w6.heap.size<=Z->Z<w.heap.size->w'.heap[Z]?=w.heap[Z]?/\QeU w6 w' b O h' Z:=by
 obtain⟨d,h,a,s,k⟩:=T
 have g:QZ O d w6 w':=⟨s.os.trans c.os,s.tape.trans c.tape,s.output.trans c.output,Zt c.size s.size,fun x f l=>(s.block x (by have:=c.size;omega) l).trans (c.block x f),fun x f=>(s.own x f).imp id (fun e=>Zt c.size e)⟩;refine⟨⟨d,h,a,g,k⟩,fun Z m j=>⟨s.block Z j (fun e=>by have:=i Z e;omega),d,h,a,g,k,fun e=>?_⟩⟩
 rcases s.own Z e with e | e
 ·have:=i Z e;omega
 ·omega
theorem Qg7 {h:Qc}{v:Qk}{t:Qs}(a:(h.put v t words).2.1≠0):(h.put v t words).2.2=h:=by
 unfold Qc.put at a |-;split
 ·rfl
 ·rename_i p c
  rw[c] at a
  simp only at a
  split
  ·rfl
  ·rename_i b
   rw[Xr b] at a
   exact absurd Z a
theorem QhX {h:Qc}{v:Qk}{l:List Qk}(a:(h.tuple v l).2.1≠0):(h.tuple v l).2.2=h:=Qg7 a
theorem QhZ {h:Qc}{v:Qk}{n:Int}(a:(h.array v n).2.1≠0):(h.array v n).2.2=h:=by
 unfold Qc.array at a |-;split
 ·rfl
 ·rename_i b
  rw[Xr b] at a
  exact Qg7 a
section
variable {w w' w2:World}{b most n:Nat}{m:List (MFunc 6)}{M M' N:IM}{sc sa:Int}{g g1:MG}{e:Ending}
theorem Qkq {l:List Qk}(h:∀ v∈l,gdV v):l.map Qk.bare=l:=by
 induction l with
 | nil=>rfl
 | cons x l ih=>rw[List.map_cons,(h x (by simp)).2,ih (fun v a=>h v (by simp[a]))]
theorem Qat.tup (I:Qat n M) (H:HIn w g.bh g.O M.h g.G){y:Qk}(j:y.ok){l:List Qk}(f:l.length=k) (z:k<=1000000) (r:∀ v∈l,gdV v) (i:VIn w a l) (q:∀ g0 o,a=some ⟨g0,o,none⟩->¬ g.O g0) :
 Calls prog 141 #[Pv g.bh 0,QU y,.slice a k c] w fun e w'=>e=.returned (.tuple #[QU (M.h.tuple y l).1,Iv (M.h.tuple y l).2.1])/\HTo w w' g.bh g.O (M.h.tuple y l).2.2:=by
 have d:=Qkq r;have B:=I.hn
 cases hat:M.h.at y with
 | none =>
   have:=Qjk H y j (c:=c) f (by omega) i hat
   rw[d] at this
   exact this
 | some p =>
   obtain⟨A,u,t,x⟩:=I.hb.ok.of hat
   obtain⟨-,-,s,b,-,-⟩:=Qc.at_some hat
   by_cases m:p.tight (QeW k)=true/\M.h.left=0
   ·have:=Qij H y j (c:=c) f (by omega) i hat m.1 m.2 (by omega)
    rw[d] at this
    exact this
   ·have:=QlR H y j (c:=c) f (by omega) i hat b m (by omega) (by omega) (by omega) (by omega) q
    rw[d] at this
    exact this
theorem Qat.arr (I:Qat n M) (H:HIn w g.bh g.O M.h g.G){y:Qk}(b:y.ok)(c:k<=15) :
 Calls prog 200 #[Pv g.bh 0,QU y,Iv (k:Int)] w fun e w'=>e=.returned (.tuple #[QU (M.h.array y (k:Int)).1,Iv (M.h.array y (k:Int)).2.1])/\HTo w w' g.bh g.O (M.h.array y (k:Int)).2.2:=by
 have o:=I.hn
 cases hat:M.h.at y with
 | none=>exact QjU H y b c hat
 | some p =>
   obtain⟨m,j,i,l⟩:=I.hb.ok.of hat
   obtain⟨-,-,f,a,-,-⟩:=Qc.at_some hat
   by_cases d:p.tight ((k:Int)+1)=true/\M.h.left=0
   ·exact Qi9 H y b c hat d.1 d.2 (by omega)
   ·exact Qlu H y b c hat a d (by omega) (by omega) (by omega) (by omega)
end
def QnW (b c X:Nat) (xa xb xk:Int) (na nb:Option Int) (t:Tmp) (v:Value) (w:World):Prop :=
 match ([(30,fun v w=>∃ y,na=some y/\v=.int .i64 y),(34,fun v w=>∃ y,nb=some y/\v=.int .i64 y),(35,fun v w=>∃ y z,na=some y/\nb=some z/\v=.tuple #[.int .i64 ((aOp xk y z).getD 0),.bool (aOp xk y z).isSome]),(24,fun v w=>∃ y z,na=some y/\nb=some z/\v=.tuple #[.int .i64 ((aOp xk y z).getD 0),.bool (aOp xk y z).isSome]),(36,fun v w=>∃ y z,na=some y/\nb=some z/\v=.int .i64 ((aOp xk y z).getD 0)),(37,fun v w=>∃ y z,na=some y/\nb=some z/\v=.bool (aOp xk y z).isSome),(6,fun v w=>∃ y z,na=some y/\nb=some z/\v=.int .i64 ((aOp xk y z).getD 0)),(7,fun v w=>∃ y z,na=some y/\nb=some z/\v=.bool (aOp xk y z).isSome)]:List (Tmp × (Value->World->Prop))).lookup t with
 | some p=>p v w
 | none=>v=(([(0,.pointer (some ⟨b,0,none⟩)),(1,.pointer (some ⟨c,0,none⟩)),(5,.pointer (some ⟨X,0,none⟩)),(25,.pointer (some ⟨X,4,none⟩)),(26,.int .i64 xk),(27,.pointer (some ⟨c,0,none⟩)),(28,.pointer (some ⟨X,1,none⟩)),(29,.int .i64 xa),(31,.pointer (some ⟨c,0,none⟩)),(32,.pointer (some ⟨X,2,none⟩)),(33,.int .i64 xb)]:List (Tmp × Value)).lookup t).getD undef
theorem in6 {b:Nat}{j g:Option Int}(M:w6.cell? ⟨X,1,none⟩=some (Iv xa)) (O:w6.cell? ⟨X,2,none⟩=some (Iv xb)) (H:w6.cell? ⟨X,4,none⟩=some (Iv xk)) (U:Hid (QhM 133 #[Pv c 0,Iv xa] w6 j (.int .i64))) (R:Hid (QhM 133 #[Pv c 0,Iv xb] w6 g (.int .i64)))
 (a:Act) (m:Nat) (hn:a.tmps.size=m) (B:112<=m) (L:a.tmps.getD 0 undef=Pv b 0) (N:a.tmps.getD 1 undef=Pv c 0) (T:a.tmps.getD 5 undef=Pv X 0)
 (P:∀ ch a' w',a'.defers=a.defers->(fun ch w=>ch=stuckP/\(j=none\/g=none)/\Below w6.heap.size w6 w) ch w'->Q (.panic ch) a' w')
 (hend:∀ vs w',(fun v w=>∃ y z,j=some y/\g=some z/\v=Iv ((aOp xk y z).getD 0)) (vs 6) w'->(fun v w=>∃ y z,j=some y/\g=some z/\v=.bool (aOp xk y z).isSome) (vs 7) w'->Below w6.heap.size w6 w'->Q .normal (QC a vs [25,26,27,28,29,30,31,32,33,34,35,24,36,37,6,7]) w') :
 Code.wp prog ((Tryz.f88.body.bind (Qf 6)).getD .skip) Q a w6:=by
 conv=>arg 2;whnf
 refine ZJ (QnW b c X xa xb xk j g) (fun w=>Below w6.heap.size w6 w) (fun w w'=>Below w.heap.size w w') (fun ch w=>ch=stuckP/\(j=none\/g=none)/\Below w6.heap.size w6 w) P (outs:=[0,1,5]) (gs:=[]) (bs:=[true,true,true,true,true,true,true,true,true,true,true,true,true,true,true,true]) (by kernel_rfl) (n:=112) hn B (by kernel_rfl) ?hR ?hG (Qh Zr 1) ⟨L,N,T,Y⟩ ?hA ?hend
 case hR =>
  intro t v w w' hr h;unfold QnW at h |-;split at h
  ·rename_i p f
   simp only[List.lookup_cons,List.lookup_nil] at f
   split at f
   ·cases f;exact h
   ·split at f
    ·cases f;exact h
    ·split at f
     ·cases f;exact h
     ·split at f
      ·cases f;exact h
      ·split at f
       ·cases f;exact h
       ·split at f
        ·cases f;exact h
        ·split at f
         ·cases f;exact h
         ·split at f
          ·cases f;exact h
          ·cases f
  ·exact h
 case hG=>exact Y
 case hend=>exact fun vs w' e i=>hend vs w' (i 6 (by kernel_rfl)) (i 7 (by kernel_rfl)) e
 case hA =>
  repeat
   refine⟨fun a w e i K q=>?_,?_⟩
   focus first
    | obtain⟨d,-⟩:=i
      conv at d=>whnf;rhs;whnf
      have W:=Qn H e;have V:=Qn M e;have c2:=Qn O e;go_simp;exact q _ _ Zr e Z
    | obtain⟨d,-⟩:=i
      have d:(fun v w=>∃ y z,j=some y/\g=some z/\v=.tuple #[Iv ((aOp xk y z).getD 0),.bool (aOp xk y z).isSome]) (a.tmps.getD 24 undef) w:=d;generalize x:a.tmps.getD 24 undef=r at d;obtain⟨y,z,l,k,rfl⟩:=d
      go_simp;exact q _ _ Zr e ⟨y,z,l,k,Z⟩
    | obtain⟨d,-⟩:=i
      have d:(fun v w=>∃ y z,j=some y/\g=some z/\v=.tuple #[Iv ((aOp xk y z).getD 0),.bool (aOp xk y z).isSome]) (a.tmps.getD 35 undef) w:=d;generalize x:a.tmps.getD 35 undef=r at d;obtain⟨y,z,l,k,rfl⟩:=d
      go_simp;exact q _ _ Zr e ⟨y,z,l,k,Z⟩
    | obtain⟨d,-⟩:=i
      have d:(fun v w=>∃ y z,j=some y/\g=some z/\v=Iv ((aOp xk y z).getD 0)) (a.tmps.getD 36 undef) w:=d;generalize x:a.tmps.getD 36 undef=r at d;obtain⟨y,z,l,k,rfl⟩:=d
      go_simp;exact q _ _ Zr e ⟨y,z,l,k,Z⟩
    | obtain⟨d,-⟩:=i
      have d:(fun v w=>∃ y z,j=some y/\g=some z/\v=.bool (aOp xk y z).isSome) (a.tmps.getD 37 undef) w:=d;generalize x:a.tmps.getD 37 undef=r at d;obtain⟨y,z,l,k,rfl⟩:=d
      go_simp;exact q _ _ Zr e ⟨y,z,l,k,Z⟩
    | obtain⟨d,o,-⟩:=i
      conv at d=>whnf;rhs;whnf
      conv at o=>whnf;rhs;whnf
      go_simp;refine Xm (U.out w e) ?_;rintro E F ⟨D,u⟩;rcases D.split with ⟨C,s,rfl⟩|⟨s,rfl⟩
      rotate_left
      ·exact⟨_,Z,Z,.inl s,e.trans (u.mono e.size)⟩
      go_simp;exact q _ _ u (e.trans (u.mono e.size)) ⟨C,s,Z⟩
    | obtain⟨d,o,-⟩:=i
      conv at d=>whnf;rhs;whnf
      conv at o=>whnf;rhs;whnf
      go_simp;refine Xm (R.out w e) ?_;rintro E F ⟨D,u⟩;rcases D.split with ⟨C,s,rfl⟩|⟨s,rfl⟩
      rotate_left
      ·exact⟨_,Z,Z,.inr s,e.trans (u.mono e.size)⟩
      go_simp;exact q _ _ u (e.trans (u.mono e.size)) ⟨C,s,Z⟩
    | obtain⟨d,o,A,-⟩:=i
      conv at d=>whnf;rhs;whnf
      have o:(fun v w=>∃ y,j=some y/\v=Iv y) (a.tmps.getD 30 undef) w:=o;generalize G:a.tmps.getD 30 undef=I at o;have A:(fun v w=>∃ y,g=some y/\v=Iv y) (a.tmps.getD 34 undef) w:=A;generalize S:a.tmps.getD 34 undef=J at A;obtain⟨y,l,rfl⟩:=o
      obtain⟨z,k,rfl⟩:=A
      go_simp;refine Xm (QlL xk y z w) ?_;rintro E F ⟨rfl,rfl⟩;go_simp;exact q _ _ Zr e ⟨y,z,l,k,Z⟩
  trivial
def Qnb (b c X bh:Nat) (xa:Int) (oa:Option Qk) (t:Tmp) (v:Value) (w:World):Prop :=
 match ([(57,fun v w=>∃ y,oa=some y/\v=QU y)]:List (Tmp × (Value->World->Prop))).lookup t with
 | some p=>p v w
 | none=>v=(([(0,.pointer (some ⟨b,0,none⟩)),(1,.pointer (some ⟨c,0,none⟩)),(5,.pointer (some ⟨X,0,none⟩)),(50,.pointer (some ⟨b,0,none⟩)),(51,.pointer (some ⟨b,0,none⟩)),(52,.pointer (some ⟨b,0,none⟩)),(53,.pointer (some ⟨bh,0,none⟩)),(54,.pointer (some ⟨c,0,none⟩)),(55,.pointer (some ⟨X,1,none⟩)),(56,.int .i64 xa)]:List (Tmp × Value)).lookup t).getD undef
theorem Qok {b:Nat}{oa:Option Qk}(z:w6.cell? ⟨b,0,none⟩=some (Pv bh 0)) (r:w6.cell? ⟨X,1,none⟩=some (Iv xa)) (A:Hid (QhM 140 #[Pv c 0,Iv xa] w6 oa QU))
 (a:Act) (m:Nat) (hn:a.tmps.size=m) (g:112<=m) (q:a.tmps.getD 0 undef=Pv b 0) (s:a.tmps.getD 1 undef=Pv c 0) (C:a.tmps.getD 5 undef=Pv X 0)
 (x:∀ ch a' w',a'.defers=a.defers->(fun ch w=>ch=stuckP/\oa=none/\Below w6.heap.size w6 w) ch w'->Q (.panic ch) a' w')
 (hend:∀ ops vs w',vs 53=Pv bh 0->(fun v w=>∃ y,oa=some y/\v=QU y) (vs 57) w'->Below w6.heap.size w6 w'->wpList prog ops Q (QaI 8 ((Tryz.f88.body.bind (Qf 12)).getD .skip)) (QC a vs [50,51,52,53,54,55,56,57]) w') :
 Code.wp prog ((Tryz.f88.body.bind (Qf 12)).getD .skip) Q a w6:=by
 conv=>arg 2;whnf
 refine Zf 8 (Qnb b c X bh xa oa) (fun w=>Below w6.heap.size w6 w) (fun w w'=>Below w.heap.size w w') (fun ch w=>ch=stuckP/\oa=none/\Below w6.heap.size w6 w) x (outs:=[0,1,5]) (gs:=[]) (bs:=[true,true,true,true,true,true,true,true]) (by kernel_rfl) (n:=112) hn g (by kernel_rfl) (by kernel_rfl) ?hR ?hG (Qh Zr 1) ⟨q,s,C,Y⟩ ?hA ?hend
 case hR =>
  intro t v w w' G h;unfold Qnb at h |-;split at h
  ·rename_i p f
   simp only[List.lookup_cons,List.lookup_nil] at f
   split at f
   ·cases f;exact h
   ·cases f
  ·exact h
 case hG=>exact Y
 case hend=>exact fun ops vs w' d e=>hend ops vs w' (e 53 (by kernel_rfl)) (e 57 (by kernel_rfl)) d
 case hA =>
  repeat
   refine⟨fun a w d e K l=>?_,?_⟩
   focus first
    | obtain⟨i,-⟩:=e
      conv at i=>whnf;rhs;whnf
      have F:=Qn z d;have D:=Qn r d;go_simp;exact l _ _ Zr d Z
    | obtain⟨i,u,-⟩:=e
      conv at i=>whnf;rhs;whnf
      conv at u=>whnf;rhs;whnf
      go_simp;refine Xm (A.out w d) ?_;rintro E H ⟨B,k⟩;rcases B.split with ⟨o,j,rfl⟩|⟨j,rfl⟩
      rotate_left
      ·exact⟨_,Z,Z,j,d.trans (k.mono d.size)⟩
      go_simp;exact l _ _ k (d.trans (k.mono d.size)) ⟨o,j,Z⟩
  trivial
def QdQ (w6:World) (h:Qc) (OO:Nat->Prop) (b c X bh na ca:Nat) (xa:Int) (pa:Option Addr) (oa:Option Qk) (ol:Option (List Qk)) (S:Nat->Bool) (t:Tmp) (v:Value) (w:World):Prop :=
 match ([(70,fun _ v _=>(fun v=>∃ y,oa=some y/\v=QU y) v),(75,fun _ v _=>(fun v=>∃ y xs,oa=some y/\ol=some xs/\v=.tuple #[QU (h.tuple y xs).1,.int .i64 (h.tuple y xs).2.1]) v),(62,fun _ v _=>(fun v=>∃ y xs,oa=some y/\ol=some xs/\v=.tuple #[QU (h.tuple y xs).1,.int .i64 (h.tuple y xs).2.1]) v),(76,fun _ v _=>(fun v=>∃ y xs,oa=some y/\ol=some xs/\v=QU (h.tuple y xs).1) v),(77,fun _ v _=>(fun v=>∃ y xs,oa=some y/\ol=some xs/\v=.int .i64 (h.tuple y xs).2.1) v),(9,fun _ v _=>(fun v=>∃ y xs,oa=some y/\ol=some xs/\v=.int .i64 (h.tuple y xs).2.1) v),(74,fun S v w=>S 12=false->(Qlp w6 ol na) v w),(8,QaC w6 (fun Z w=>∃ h',(∃ y xs,oa=some y/\ol=some xs/\h'=(h.tuple y xs).2.2)/\QeU w6 w bh OO h' Z) 12 17 (fun r=>∃ y xs,oa=some y/\ol=some xs/\r=(h.tuple y xs).1))]:List (Tmp × ((Nat->Bool)->Value->World->Prop))).lookup t with
 | some p=>p S v w
 | none=>v=(([(0,.pointer (some ⟨b,0,none⟩)),(1,.pointer (some ⟨c,0,none⟩)),(5,.pointer (some ⟨X,0,none⟩)),(63,.pointer (some ⟨b,0,none⟩)),(64,.pointer (some ⟨b,0,none⟩)),(65,.pointer (some ⟨b,0,none⟩)),(66,.pointer (some ⟨bh,0,none⟩)),(67,.pointer (some ⟨c,0,none⟩)),(68,.pointer (some ⟨X,1,none⟩)),(69,.int .i64 xa),(71,.pointer (some ⟨c,0,none⟩)),(72,.pointer (some ⟨X,7,none⟩)),(73,.slice pa na ca)]:List (Tmp × Value)).lookup t).getD undef
theorem QcJ {h:Qc}{b:Nat}{oa:Option Qk}{d:Option (List Qk)}{S:Nat->Bool}{t:Tmp}{w w':World}(g:HPs w6 (fun w=>∃ h',(∃ y xs,oa=some y/\d=some xs/\h'=(h.tuple y xs).2.2)/\HTo w6 w bh OO h') (fun Z w=>∃ h',(∃ y xs,oa=some y/\d=some xs/\h'=(h.tuple y xs).2.2)/\QeU w6 w bh OO h' Z))(hi:i≠12) (j:i≠17) (f:Below w.heap.size w w') (a:QdQ w6 h OO b c X bh na ca xa pa oa d S t u w):QdQ w6 h OO b c X bh na ca xa pa oa d (ZF i S) t u w':=by
 unfold QdQ at a |-;refine Qhs ?_ a;exact⟨fun _ h=>h,fun _ h=>h,fun _ h=>h,fun _ h=>h,fun _ h=>h,fun _ h=>h,fun _ a=>fun e=>(by have a:=a (by rw[QjZ (fun e=>hi e.symm)] at e;exact e);exact a.below f),fun _ a=>a.on g hi j f,Y⟩
theorem Qmu {h:Qc}{b:Nat}{oa:Option Qk}{d:Option (List Qk)}{S:Nat->Bool}{t:Tmp}{w w':World}(k:∀ Z,w6.heap.size<=Z->Z<w.heap.size->w'.heap[Z]?=w.heap[Z]?/\(fun Z w=>∃ h',(∃ y xs,oa=some y/\d=some xs/\h'=(h.tuple y xs).2.2)/\QeU w6 w bh OO h' Z) Z w') (a:QdQ w6 h OO b c X bh na ca xa pa oa d S t u w):QdQ w6 h OO b c X bh na ca xa pa oa d (ZF 12 S) t u w':=by
 unfold QdQ at a |-;refine Qhs ?_ a;exact⟨fun _ h=>h,fun _ h=>h,fun _ h=>h,fun _ h=>h,fun _ h=>h,fun _ h=>h,fun _ a=>fun e=>(by rw[Qns] at e;cases e),fun _ a=>(by simp only at a |-;exact a.did (by decide) k),Y⟩
theorem Qmv {h:Qc}{b:Nat}{oa:Option Qk}{d:Option (List Qk)}{S:Nat->Bool}{t:Tmp}{w:World}(g:HPs w6 (fun w=>∃ h',(∃ y xs,oa=some y/\d=some xs/\h'=(h.tuple y xs).2.2)/\HTo w6 w bh OO h') (fun Z w=>∃ h',(∃ y xs,oa=some y/\d=some xs/\h'=(h.tuple y xs).2.2)/\QeU w6 w bh OO h' Z)){Z:Nat}{r:Qk}(j:S 17=false) (i:S 12=true) (f:(fun r=>∃ y xs,oa=some y/\d=some xs/\r=(h.tuple y xs).1) r) (k:t=8->u=Pv Z 0) (a:QdQ w6 h OO b c X bh na ca xa pa oa d S t u w):QdQ w6 h OO b c X bh na ca xa pa oa d (ZF 17 S) t u (QlB w Z r):=by
 unfold QdQ at a |-;refine Qhs ?_ a;exact⟨fun _ h=>h,fun _ h=>h,fun _ h=>h,fun _ h=>h,fun _ h=>h,fun _ h=>h,fun _ a=>fun e=>(by rw[QjZ (by decide),i] at e;cases e),fun e a=>(by obtain rfl:=k e;simp only at a |-;exact a.fill g j (by decide) r f),Y⟩
theorem Qom {h:Qc}{b:Nat}{oa:Option Qk}{g:Option (List Qk)}(V:∀ x,OO x->x<w6.heap.size) (q0:w6.cell? ⟨b,0,none⟩=some (Pv bh 0)) (x1:w6.cell? ⟨X,1,none⟩=some (Iv xa)) (x7:w6.cell? ⟨X,7,none⟩=some (.slice pa na ca)) (CV:Hid (QhM 140 #[Pv c 0,Iv xa] w6 oa QU)) (CL:Hid (∀ wx,Below w6.heap.size w6 wx->Calls prog 142 #[Pv c 0,.slice pa na ca] wx fun e w'=>QcF wx g na e w')) (CT:Hid (∀ y xs g7 wx,oa=some y->g=some xs->w6.heap.size<=g7->wx.rowIs g7 211 (na*4) (Zu xs)->Below w6.heap.size w6 wx->Calls prog 141 #[Pv bh 0,QU y,.slice (some ⟨g7,0,none⟩) na na] wx fun e w'=>e=.returned (.tuple #[QU (h.tuple y xs).1,Iv (h.tuple y xs).2.1])/\HTo wx w' bh OO (h.tuple y xs).2.2)) (j:HPs w6 (fun w=>∃ h',(∃ y xs,oa=some y/\g=some xs/\h'=(h.tuple y xs).2.2)/\HTo w6 w bh OO h') (fun Z w=>∃ h',(∃ y xs,oa=some y/\g=some xs/\h'=(h.tuple y xs).2.2)/\QeU w6 w bh OO h' Z))
 (a:Act) (m:Nat) (hn:a.tmps.size=m) (T:112<=m) (h0:a.tmps.getD 0 undef=Pv b 0) (h1:a.tmps.getD 1 undef=Pv c 0) (h5:a.tmps.getD 5 undef=Pv X 0)
 (hX:∀ ch a' w',a'.defers=a.defers->(fun ch w=>ch=stuckP/\(oa=none\/g=none)/\Below w6.heap.size w6 w) ch w'->Q (.panic ch) a' w')
 (hend:∀ vs w',(fun v=>∃ y xs,oa=some y/\g=some xs/\v=Iv (h.tuple y xs).2.1) (vs 9)->(∃ Z,vs 8=Pv Z 0/\w6.heap.size<=Z/\(∃ r:Qk,(fun r=>∃ y xs,oa=some y/\g=some xs/\r=(h.tuple y xs).1) r/\Blk w' Z (Ql6 r) 211)/\(fun Z w=>∃ h',(∃ y xs,oa=some y/\g=some xs/\h'=(h.tuple y xs).2.2)/\QeU w6 w bh OO h' Z) Z w')->(fun w=>∃ h',(∃ y xs,oa=some y/\g=some xs/\h'=(h.tuple y xs).2.2)/\HTo w6 w bh OO h') w'->Q .normal (QC a vs [63,64,65,66,67,68,69,70,71,72,73,74,75,62,76,77,8,9]) w') :
 Code.wp prog ((Tryz.f88.body.bind (Qf 14)).getD .skip) Q a w6:=by
 conv=>arg 2;whnf
 refine ZH (QdQ w6 h OO b c X bh na ca xa pa oa g) (WY w6 (fun w=>∃ h',(∃ y xs,oa=some y/\g=some xs/\h'=(h.tuple y xs).2.2)/\HTo w6 w bh OO h') 12) (fun ch w=>ch=stuckP/\(oa=none\/g=none)/\Below w6.heap.size w6 w) hX (outs:=[0,1,5]) (gs:=[]) (bs:=[true,true,true,true,true,true,true,true,true,true,true,true,true,true,true,true,true,true,true]) (by kernel_rfl) (n:=112) hn T (by kernel_rfl) ?hG (.inl ⟨Yz,Qh Zr 1⟩) ⟨h0,h1,h5,Y⟩ ?hA ?hend
 case hG=>exact fun S=>trivial
 case hend=>exact fun vs S w' B k p=>hend vs w' (p 9 (by kernel_rfl)) (QaC.full (show QaC w6 (fun Z w=>∃ h',(∃ y xs,oa=some y/\g=some xs/\h'=(h.tuple y xs).2.2)/\QeU w6 w bh OO h' Z) 12 17 (fun r=>∃ y xs,oa=some y/\g=some xs/\r=(h.tuple y xs).1) S (vs 8) w' from p 8 (by kernel_rfl)) (B 17 (by decide)) (B 12 (by decide))) (k.fin (B 12 (by decide)))
 case hA =>
  repeat
   refine⟨fun S a w F hD L k p K C=>?_,?_⟩
   focus first
    | obtain⟨d,-⟩:=p
      have o:S 12=false:=QdO L (q:=12) Yz (by kernel_rfl) F;conv at d=>whnf;rhs;whnf
      have c0:=k.pre o;go_simp;exact C _ _ (fun t _ i=>QcJ j (by decide) (by decide) Zr i) (k.on j (by decide) Zr) Yz
    | obtain⟨d,-⟩:=p
      have o:S 12=false:=QdO L (q:=12) Yz (by kernel_rfl) F;have l:=k.pre o;conv at d=>whnf;rhs;whnf
      have c0:=Qn q0 l;have c1:=Qn x1 l;have c2:=Qn x7 l;go_simp;exact C _ _ (fun t _ i=>QcJ j (by decide) (by decide) Zr i) (k.on j (by decide) Zr) Yz
    | obtain⟨d,-⟩:=p
      have d:(fun v=>∃ y xs,oa=some y/\g=some xs/\v=.tuple #[QU (h.tuple y xs).1,Iv (h.tuple y xs).2.1]) (a.tmps.getD 62 undef):=d;generalize D:a.tmps.getD 62 undef=G at d;obtain⟨y,xs,u,z,rfl⟩:=d
      go_simp;exact C _ _ (fun t _ i=>QcJ j (by decide) (by decide) Zr i) (k.on j (by decide) Zr) ⟨y,xs,u,z,Yz⟩
    | clear p
      have E:S 17=false:=QdO L (q:=17) Yz (by kernel_rfl) F;go_simp;exact C _ _ (fun t _ i=>QcJ j (by decide) (by decide) (Zb _ _) i) (k.on j (by decide) (Zb _ _)) (QaC.new j k E (by decide) (by decide))
    | obtain⟨d,-⟩:=p
      have d:(fun v=>∃ y xs,oa=some y/\g=some xs/\v=.tuple #[QU (h.tuple y xs).1,Iv (h.tuple y xs).2.1]) (a.tmps.getD 75 undef):=d;generalize D:a.tmps.getD 75 undef=G at d;obtain⟨y,xs,u,z,rfl⟩:=d
      go_simp;exact C _ _ (fun t _ i=>QcJ j (by decide) (by decide) Zr i) (k.on j (by decide) Zr) ⟨y,xs,u,z,Yz⟩
    | obtain⟨d,-⟩:=p
      have d:(fun v=>∃ y xs,oa=some y/\g=some xs/\v=Iv (h.tuple y xs).2.1) (a.tmps.getD 77 undef):=d;generalize D:a.tmps.getD 77 undef=G at d;obtain⟨y,xs,u,z,rfl⟩:=d
      go_simp;exact C _ _ (fun t _ i=>QcJ j (by decide) (by decide) Zr i) (k.on j (by decide) Zr) ⟨y,xs,u,z,Yz⟩
    | obtain⟨d,s,-⟩:=p
      have o:S 12=false:=QdO L (q:=12) Yz (by kernel_rfl) F;have l:=k.pre o;conv at d=>whnf;rhs;whnf
      conv at s=>whnf;rhs;whnf
      go_simp;refine Xm (CV.out w l) ?_;rintro r7 w7 ⟨P,J⟩;rcases P.split with ⟨y7,I,rfl⟩|⟨I,rfl⟩
      rotate_left
      ·exact⟨_,Yz,Yz,.inl I,l.trans (J.mono l.size)⟩
      go_simp;exact C _ _ (fun t _ i=>QcJ j (by decide) (by decide) J i) (k.on j (by decide) J) ⟨y7,I,Yz⟩
    | obtain⟨d,s,-⟩:=p
      have o:S 12=false:=QdO L (q:=12) Yz (by kernel_rfl) F;have l:=k.pre o;conv at d=>whnf;rhs;whnf
      conv at s=>whnf;rhs;whnf
      go_simp;refine Xm (CL.out w l) ?_;rintro r7 w7 P;obtain⟨J,P⟩:=P.split
      rcases P with ⟨xs,g7,I,rfl,H,A⟩|⟨I,rfl⟩
      rotate_left
      ·exact⟨_,Yz,Yz,.inr I,l.trans (J.mono l.size)⟩
      go_simp;exact C _ _ (fun t _ i=>QcJ j (by decide) (by decide) J i) (k.on j (by decide) J) (fun _=>⟨g7,xs,Yz,Zt l.size H,I,A⟩)
    | obtain⟨d,s,R,-⟩:=p
      have l:=k.pre F;conv at d=>whnf;rhs;whnf
      have s:(fun v=>∃ y,oa=some y/\v=QU y) (a.tmps.getD 70 undef):=s;generalize M:a.tmps.getD 70 undef=W at s;have R:S 12=false->(Qlp w6 g na) (a.tmps.getD 74 undef) w:=R;generalize ab:a.tmps.getD 74 undef=aa at R;obtain⟨y,u,rfl⟩:=s
      obtain⟨g7,xs,rfl,H,z,A⟩:=R F
      go_simp;refine Xm (CT.out y xs g7 w u z H A l) ?_;rintro r7 w7 ⟨rfl,t7⟩;obtain⟨t8,t9⟩:=HTo.from l V t7
      go_simp;exact C _ _ (fun t _ i=>Qmu (fun Z hz hl=>⟨(t9 Z hz hl).1,_,⟨y,xs,u,z,Yz⟩,(t9 Z hz hl).2⟩) i) (WY.did ⟨_,⟨y,xs,u,z,Yz⟩,t8⟩) ⟨y,xs,u,z,Yz⟩
    | obtain⟨d,s,-⟩:=p
      have d:QaC w6 (fun Z w=>∃ h',(∃ y xs,oa=some y/\g=some xs/\h'=(h.tuple y xs).2.2)/\QeU w6 w bh OO h' Z) 12 17 (fun r=>∃ y xs,oa=some y/\g=some xs/\r=(h.tuple y xs).1) S (a.tmps.getD 8 undef) w:=d;generalize D:a.tmps.getD 8 undef=G at d;have s:(fun v=>∃ y xs,oa=some y/\g=some xs/\v=QU (h.tuple y xs).1) (a.tmps.getD 76 undef):=s;generalize M:a.tmps.getD 76 undef=W at s;have E:S 17=false:=F;have O:S 12=true:=Qkt L hD (by kernel_rfl);have kb:=d;obtain⟨Z,rfl,hZ,U,-,-⟩:=d
      have f:=U E;obtain⟨y,xs,u,z,rfl⟩:=s
      have hr:∃ y0 xs0,oa=some y0/\g=some xs0/\(h.tuple y xs).1=(h.tuple y0 xs0).1:=⟨y,xs,u,z,Yz⟩;obtain⟨r,N⟩:∃ r,(h.tuple y xs).1=r:=⟨_,Yz⟩
      rw[N] at M hr
      clear N;have c0:=Qa f 0 _ Yz;have c1:=Qa f 1 _ Yz;have c2:=Qa f 2 _ Yz;have c3:=Qa f 3 _ Yz;have c4:=Qd f 0;have c5:=Qd f 1;have c6:=Qd f 2;have c7:=Qd f 3;go_simp;exact C undef _ (fun t _ i=>Qmv j E O hr (fun e=>by subst e;exact D) i) (QaC.fillW j kb O (by decide) r) Y
  trivial
theorem ZC {x:Qx}{d:IP}(h:Blk w1 X (Zc x d) t):w1.cell? ⟨X,0,none⟩=some (Iv x.op)/\w1.cell? ⟨X,1,none⟩=some (Iv x.a)/\w1.cell? ⟨X,2,none⟩=some (Iv x.b)/\w1.cell? ⟨X,3,none⟩=some (Iv x.c)/\w1.cell? ⟨X,4,none⟩=some (Iv x.k)/\w1.cell? ⟨X,5,none⟩=some (Iv x.n)/\w1.cell? ⟨X,6,none⟩=some (.slice d.pR x.regs.length d.cR)/\w1.cell? ⟨X,7,none⟩=some (.slice d.pA x.args.length d.cA) :=
 ⟨Qa h 0 _ Z,Qa h 1 _ Z,Qa h 2 _ Z,Qa h 3 _ Z,Qa h 4 _ Z,Qa h 5 _ Z,Qa h 6 _ Z,Qa h 7 _ Z⟩
section
variable {w w' w2:World}{b most n:Nat}{m:List (MFunc 6)}{M M' N:IM}{sc sa:Int}{g g1:MG}{e:Ending}
theorem Qo.after {r:Option IM}(T:QZ g.A g.A w w2) (h:Qo g w2 b most m M sc sa r e w'):Qo g w b most m M sc sa r e w':=by
 cases r with
 | none=>exact⟨h.1,XTo.then T Z Z h.2⟩
 | some M' =>
   rcases h with ⟨c,a⟩|⟨N,k,c,a,d⟩
   ·exact .inl ⟨c,XTo.then T Z Z a⟩
   ·exact .inr ⟨N,k,c,a,XTo.then T Z Z d⟩
theorem Qbl.after {r:Option IM}(T:QZ g.A g.A w w2) (h:Qbl g w2 b most m M sc sa r e w'):Qbl g w b most m M sc sa r e w':=by
 cases r with
 | none=>exact⟨h.1,XTo.then T Z Z h.2⟩
 | some M' =>
   rcases h with ⟨a,f,d,c,i⟩|⟨N,k,a,d,c⟩
   ·exact .inl ⟨a,f,d,T.trans c,i⟩
   ·exact .inr ⟨N,k,a,d,XTo.then T Z Z c⟩
theorem Qck {v:List Qk}:∀ {l:List Int}{ys:List Qk},Qq v l=some ys->∀ x∈ys,x∈v
 | [],ys,h,x,a=>by simp[Qq] at h;subst h;simp at a
 | k::l,ys,h,x,a=>by
   simp only[Qq] at h
   cases hk:QE v k with
   | none=>rw[hk] at h;cases h
   | some y =>
     rw[hk] at h
     simp only at h
     cases hl:Qq v l with
     | none=>rw[hl] at h;cases h
     | some zs =>
       rw[hl] at h
       simp at h
       subst h;rcases List.mem_cons.1 a with rfl | a
       ·exact Qbg hk
       ·exact Qck hl x a
theorem Qo.cases {r:Option IM}(h:Qo g w b most m M sc sa r e w'):(e=.returned (.tuple #[])\/∃ ch,e=.panicked ch):=by
 cases r with
 | none=>exact .inr ⟨_,h.1⟩
 | some M' =>
   rcases h with ⟨c,a⟩|⟨N,k,c,a,d⟩
   ·exact .inl c
   ·exact .inr ⟨_,a⟩
theorem Qbl.cases {r:Option IM}(h:Qbl g w b most m M sc sa r e w'):(e=.returned (.tuple #[])\/∃ ch,e=.panicked ch):=by
 cases r with
 | none=>exact .inr ⟨_,h.1⟩
 | some M' =>
   rcases h with ⟨c,a⟩|⟨N,k,c,a,d⟩
   ·exact .inl c
   ·exact .inr ⟨_,a⟩
theorem Qat.shut (I:Qat n M) (H:HIn w g.bh g.O M.h g.G){y:Qk}(a:y.ok) :
 Calls prog 139 #[Pv g.bh 0,QU y] w fun e w'=>e=.returned (.bool (M.h.shut y).1)/\HTo w w' g.bh g.O (M.h.shut y).2 :=
 Qix H y a (fun p b=>by have:=(I.hb.ok.of b).2.2.2;omega)
theorem Qjo {h:Qc}{v:Qk}(a:(h.shut v).1=false):(h.shut v).2=h:=by
 unfold Qc.shut at a |-
 cases e:h.at v with
 | none=>rfl
 | some p=>rw[e] at a;cases a
theorem Qnp (S:MAt w b most m M sc sa g) (I:Qat n M){x:Qx}(d:IP) (a:x.op=1) :
 Calls prog 88 #[Pv b 0,Pv g.t.c 0,.agg (Zc x d)] w fun e w'=>Qo g w b most m M sc sa (IM.ins m aOp M x) e w':=by
 have E:Hid (IM.ins m aOp M x=some (M.push [Qaz x.n])):=by show _=_;unfold IM.ins;simp[a]
 generalize IM.ins m aOp M x=y at E |-;have h:=Qb (Zb w (.cells (Zc x d) 78));have f:=Qb (Qe w (Zc x d) 78);have H:=Qb S;have F:=Qb I;have k:=Qb (S.below h.out);have i:=Qb (S.stepB h.out);have A:=I.len;clear S I;go_enter func88,ntmps88
 go_upto_region 1 with fail
 generalize w.alloc (.cells (Zc x d) 78)=B at h f k i |-;generalize w.heap.size=X at f |-;obtain⟨z,r,s,u,o,l,q,p⟩:=ZC f.out
 rw[a] at z
 have C:=Qb (Qak k.out x.n (by omega));clear r s u o q p;go_wp2_with fail
 refine C.out.mono ?_;rintro G D ⟨rfl,j⟩;have R:=Qb (XTo.then i.out Z Z j);clear j C l;go_wp2
 exact Xz (v:=.tuple #[]) (by simp[results,results88,go_sem]) Z (by rw[E.out];exact Qo.go R.out)
theorem QnE (S:MAt w b most m M sc sa g) (I:Qat n M){x:Qx}(d:IP) (a:x.op=3) :
 Calls prog 88 #[Pv b 0,Pv g.t.c 0,.agg (Zc x d)] w fun e w'=>Qo g w b most m M sc sa (IM.ins m aOp M x) e w':=by
 have E:Hid (IM.ins m aOp M x=if M.h.open_.2.1 then some (IM.push { M with h:=M.h.open_.2.2,top:={ M.top with r:=M.top.r++[M.h.open_.1.region] } } [M.h.open_.1]) else some (M.over 6)):=by show _=_;unfold IM.ins;simp[a]
 generalize IM.ins m aOp M x=D at E |-;have j:=Qb (Zb w (.cells (Zc x d) 78));have i:=Qb (Qe w (Zc x d) 78);have N:=Qb S;have f:=Qb I;have p:=Qb (S.below j.out);have o:=Qb (S.stepB j.out);have G:=I.len;clear S I;go_enter func88,ntmps88
 go_upto_region 1 with fail
 generalize w.alloc (.cells (Zc x d) 78)=H at j i p o |-;generalize w.heap.size=X at i |-;obtain⟨F,z,A,B,s,q,y,u⟩:=ZC i.out
 rw[a] at F
 have C:=Qb (Qjx p.out f.out.hb f.out.hn' (by omega) f.out.regs);clear z A B s q y u;go_wp2_with fail
 refine C.out.mono ?_;rintro L K k;have l:=Qb (Qo.after o.out k);rcases k.cases with rfl | ⟨J,rfl⟩
 ·clear k C;go_wp2
  exact Xz (v:=.tuple #[]) (by simp[results,results88,go_sem]) Z (by rw[E.out];exact l.out)
 ·exact⟨Z,by rw[E.out];exact l.out⟩
theorem Qm5 (S:MAt w b most m M sc sa g) (I:Qat n M){x:Qx}(d:IP) (a:x.op=12) :
 Calls prog 88 #[Pv b 0,Pv g.t.c 0,.agg (Zc x d)] w fun e w'=>Qo g w b most m M sc sa (IM.ins m aOp M x) e w':=by
 have E:Hid (IM.ins m aOp M x=match M.inp with | []=>some (M.over 4) | n::l=>some (IM.push { M with inp:=l } [Qaz n])):=by show _=_;unfold IM.ins;simp[a];cases M.inp<;>rfl
 generalize IM.ins m aOp M x=B at E |-;have h:=Qb (Zb w (.cells (Zc x d) 78));have f:=Qb (Qe w (Zc x d) 78);have L:=Qb S;have u:=Qb I;have o:=Qb (S.below h.out);have k:=Qb (S.stepB h.out);have F:=I.len;clear S I;go_enter func88,ntmps88
 go_upto_region 1 with fail
 generalize w.alloc (.cells (Zc x d) 78)=G at h f o k |-;generalize w.heap.size=X at f |-;obtain⟨D,y,z,A,q,p,s,r⟩:=ZC f.out
 rw[a] at D
 have C:=Qb (Qgg o.out u.out.inp (by omega));clear y z A q p s r;go_wp2_with fail
 refine C.out.mono ?_;rintro K J i;have j:=Qb (Qo.after k.out i);rcases i.cases with rfl | ⟨H,rfl⟩
 ·clear i C;go_wp2
  exact Xz (v:=.tuple #[]) (by simp[results,results88,go_sem]) Z (by rw[E.out];exact j.out)
 ·exact⟨Z,by rw[E.out];exact j.out⟩
theorem Qnr (S:MAt w b most m M sc sa g) (I:Qat n M){x:Qx}(h:IP) (f:x.op=8) (l:∀ wx,Below w.heap.size w wx->Calls prog 145 #[Pv b 0,Pv g.t.c 0,Iv x.a,Iv x.b] wx fun e w'=>Qo g wx b most m M sc sa (M.mem x) e w') :
 Calls prog 88 #[Pv b 0,Pv g.t.c 0,.agg (Zc x h)] w fun e w'=>Qo g w b most m M sc sa (IM.ins m aOp M x) e w':=by
 have E:Hid (IM.ins m aOp M x=M.mem x):=by show _=_;unfold IM.ins;simp[f]
 generalize IM.ins m aOp M x=A at E |-;have i:=Qb (Zb w (.cells (Zc x h) 78));have j:=Qb (Qe w (Zc x h) 78);have O:=Qb S;have J:=Qb I;have D:=Qb (S.below i.out);have p:=Qb (S.stepB i.out);have F:=I.len;have d:=Qb l;clear l;clear S I;go_enter func88,ntmps88
 go_upto_region 1 with fail
 generalize w.alloc (.cells (Zc x h) 78)=u at i j D p |-;generalize w.heap.size=X at j |-;obtain⟨B,K,N,z,r,q,y,s⟩:=ZC j.out
 rw[f] at B
 have C:=Qb (d.out u i.out);clear z r q y s d;go_wp2_with fail
 refine C.out.mono ?_;rintro L H k;have o:=Qb (Qo.after p.out k);rcases k.cases with rfl | ⟨G,rfl⟩
 ·clear k C;go_wp2
  exact Xz (v:=.tuple #[]) (by simp[results,results88,go_sem]) Z (by rw[E.out];exact o.out)
 ·exact⟨Z,by rw[E.out];exact o.out⟩
theorem Qnq (S:MAt w b most m M sc sa g) (I:Qat n M){x:Qx}(d:IP) (a:x.op=6) :
 Calls prog 88 #[Pv b 0,Pv g.t.c 0,.agg (Zc x d)] w fun e w'=>Qo g w b most m M sc sa (IM.ins m aOp M x) e w':=by
 have E:Hid (IM.ins m aOp M x=M.mem x):=by show _=_;unfold IM.ins;simp[a]
 generalize IM.ins m aOp M x=q at E |-;have h:=Qb (Zb w (.cells (Zc x d) 78));have f:=Qb (Qe w (Zc x d) 78);have K:=Qb S;have p:=Qb I;have l:=Qb (S.below h.out);have k:=Qb (S.stepB h.out);have o:=I.len;clear S I;go_enter func88,ntmps88
 go_upto_region 1 with fail
 generalize w.alloc (.cells (Zc x d) 78)=z at h f l k |-;generalize w.heap.size=X at f |-;obtain⟨r,F,H,J,u,s,B,y⟩:=ZC f.out
 rw[a] at r
 have C:=Qb (Qms l.out p.out d a);simp only[Zc,a] at C
 clear o;go_wp2_with fail
 refine C.out.mono ?_;rintro G D i;have j:=Qb (Qo.after k.out i);rcases i.cases with rfl | ⟨A,rfl⟩
 ·clear i C;go_wp2
  exact Xz (v:=.tuple #[]) (by simp[results,results88,go_sem]) Z (by rw[E.out];exact j.out)
 ·exact⟨Z,by rw[E.out];exact j.out⟩
theorem Qnl (S:MAt w b most m M sc sa g) (I:Qat n M){x:Qx}(d:IP) (a:x.op=7) :
 Calls prog 88 #[Pv b 0,Pv g.t.c 0,.agg (Zc x d)] w fun e w'=>Qo g w b most m M sc sa (IM.ins m aOp M x) e w':=by
 have E:Hid (IM.ins m aOp M x=M.mem x):=by show _=_;unfold IM.ins;simp[a]
 generalize IM.ins m aOp M x=q at E |-;have h:=Qb (Zb w (.cells (Zc x d) 78));have f:=Qb (Qe w (Zc x d) 78);have K:=Qb S;have p:=Qb I;have l:=Qb (S.below h.out);have k:=Qb (S.stepB h.out);have o:=I.len;clear S I;go_enter func88,ntmps88
 go_upto_region 1 with fail
 generalize w.alloc (.cells (Zc x d) 78)=z at h f l k |-;generalize w.heap.size=X at f |-;obtain⟨r,F,H,J,u,s,B,y⟩:=ZC f.out
 rw[a] at r
 have C:=Qb (QmZ l.out p.out d a);simp only[Zc,a] at C
 clear o;go_wp2_with fail
 refine C.out.mono ?_;rintro G D i;have j:=Qb (Qo.after k.out i);rcases i.cases with rfl | ⟨A,rfl⟩
 ·clear i C;go_wp2
  exact Xz (v:=.tuple #[]) (by simp[results,results88,go_sem]) Z (by rw[E.out];exact j.out)
 ·exact⟨Z,by rw[E.out];exact j.out⟩
theorem Qnw (S:MAt w b most m M sc sa g) (I:Qat n M){x:Qx}(d:IP) (a:x.op=9) :
 Calls prog 88 #[Pv b 0,Pv g.t.c 0,.agg (Zc x d)] w fun e w'=>Qo g w b most m M sc sa (IM.ins m aOp M x) e w':=by
 have E:Hid (IM.ins m aOp M x=M.mem x):=by show _=_;unfold IM.ins;simp[a]
 generalize IM.ins m aOp M x=q at E |-;have h:=Qb (Zb w (.cells (Zc x d) 78));have f:=Qb (Qe w (Zc x d) 78);have K:=Qb S;have p:=Qb I;have l:=Qb (S.below h.out);have k:=Qb (S.stepB h.out);have o:=I.len;clear S I;go_enter func88,ntmps88
 go_upto_region 1 with fail
 generalize w.alloc (.cells (Zc x d) 78)=z at h f l k |-;generalize w.heap.size=X at f |-;obtain⟨r,F,H,J,u,s,B,y⟩:=ZC f.out
 rw[a] at r
 have C:=Qb (Qmj l.out p.out d a);simp only[Zc,a] at C
 clear o;go_wp2_with fail
 refine C.out.mono ?_;rintro G D i;have j:=Qb (Qo.after k.out i);rcases i.cases with rfl | ⟨A,rfl⟩
 ·clear i C;go_wp2
  exact Xz (v:=.tuple #[]) (by simp[results,results88,go_sem]) Z (by rw[E.out];exact j.out)
 ·exact⟨Z,by rw[E.out];exact j.out⟩
theorem Qm3 (S:MAt w b most m M sc sa g) (I:Qat n M){x:Qx}(d:IP) (a:x.op=10) :
 Calls prog 88 #[Pv b 0,Pv g.t.c 0,.agg (Zc x d)] w fun e w'=>Qo g w b most m M sc sa (IM.ins m aOp M x) e w':=by
 have E:Hid (IM.ins m aOp M x=M.mem x):=by show _=_;unfold IM.ins;simp[a]
 generalize IM.ins m aOp M x=q at E |-;have h:=Qb (Zb w (.cells (Zc x d) 78));have f:=Qb (Qe w (Zc x d) 78);have K:=Qb S;have p:=Qb I;have l:=Qb (S.below h.out);have k:=Qb (S.stepB h.out);have o:=I.len;clear S I;go_enter func88,ntmps88
 go_upto_region 1 with fail
 generalize w.alloc (.cells (Zc x d) 78)=z at h f l k |-;generalize w.heap.size=X at f |-;obtain⟨r,F,H,J,u,s,B,y⟩:=ZC f.out
 rw[a] at r
 have C:=Qb (Ql3 l.out p.out d a);simp only[Zc,a] at C
 clear o;go_wp2_with fail
 refine C.out.mono ?_;rintro G D i;have j:=Qb (Qo.after k.out i);rcases i.cases with rfl | ⟨A,rfl⟩
 ·clear i C;go_wp2
  exact Xz (v:=.tuple #[]) (by simp[results,results88,go_sem]) Z (by rw[E.out];exact j.out)
 ·exact⟨Z,by rw[E.out];exact j.out⟩
theorem QmP (S:MAt w b most m M sc sa g) (I:Qat n M){x:Qx}(d:IP) (a:x.op=11) :
 Calls prog 88 #[Pv b 0,Pv g.t.c 0,.agg (Zc x d)] w fun e w'=>Qo g w b most m M sc sa (IM.ins m aOp M x) e w':=by
 have E:Hid (IM.ins m aOp M x=M.mem x):=by show _=_;unfold IM.ins;simp[a]
 generalize IM.ins m aOp M x=q at E |-;have h:=Qb (Zb w (.cells (Zc x d) 78));have f:=Qb (Qe w (Zc x d) 78);have K:=Qb S;have p:=Qb I;have l:=Qb (S.below h.out);have k:=Qb (S.stepB h.out);have o:=I.len;clear S I;go_enter func88,ntmps88
 go_upto_region 1 with fail
 generalize w.alloc (.cells (Zc x d) 78)=z at h f l k |-;generalize w.heap.size=X at f |-;obtain⟨r,F,H,J,u,s,B,y⟩:=ZC f.out
 rw[a] at r
 have C:=Qb (QlH l.out p.out d a);simp only[Zc,a] at C
 clear o;go_wp2_with fail
 refine C.out.mono ?_;rintro G D i;have j:=Qb (Qo.after k.out i);rcases i.cases with rfl | ⟨A,rfl⟩
 ·clear i C;go_wp2
  exact Xz (v:=.tuple #[]) (by simp[results,results88,go_sem]) Z (by rw[E.out];exact j.out)
 ·exact⟨Z,by rw[E.out];exact j.out⟩
theorem QmO (S:MAt w b most m M sc sa g) (I:Qat n M){x:Qx}(a:IP) (d:x.op=14) (l:M.rest.length<=39)(o:x.k=(k:Int)){fn:MFunc 6}{bl:MBlock 6}(q:m[k]?=some fn) (hb:fn.blocks[0]?=some bl) (p:bl.regs=fn.regs) (s:bl.params=fn.params) (u:m.length<=1000/\fn.blocks.length<=1000/\bl.params.length<=1000)
  (y:intsL.In w Q2 x.regs [.slice a.pR x.regs.length a.cR]) (A:intsL.In w Q2 x.args [.slice a.pA x.args.length a.cA]) (hn:x.regs.length<=1000/\x.args.length<=1000) :
 Calls prog 88 #[Pv b 0,Pv g.t.c 0,.agg (Zc x a)] w fun e w'=>Qbl g w b most m M sc sa (IM.ins m aOp M x) e w':=by
 have E:Hid (IM.ins m aOp M x=M.call m x):=by show _=_;unfold IM.ins;simp[d]
 generalize IM.ins m aOp M x=F at E |-;have f:=Qb (Zb w (.cells (Zc x a) 78));have i:=Qb (Qe w (Zc x a) 78);have W:=Qb S;have Q:=Qb I;have B:=Qb (S.below f.out);have z:=Qb (S.stepB f.out);have D:=I.len;have h:=Qb (QjE B.out I l a o q hb p s u (Ya y f.out) (Ya A f.out) hn);clear q hb p s u y A hn o l;clear S I;go_enter func88,ntmps88
 go_upto_region 1 with fail
 generalize w.alloc (.cells (Zc x a) 78)=L at f i B z h |-;generalize w.heap.size=X at i |-;obtain⟨G,R,U,V,J,H,O,K⟩:=ZC i.out
 rw[d] at G
 have C:=Qb (h.out);simp only[Zc,d] at C
 clear D h;go_wp2_with fail
 refine C.out.mono ?_;rintro T P j;have r:=Qb (Qbl.after z.out j);rcases j.cases with rfl | ⟨N,rfl⟩
 ·clear j C;go_wp2
  exact Xz (v:=.tuple #[]) (by simp[results,results88,go_sem]) Z (by rw[E.out];exact r.out)
 ·exact⟨Z,by rw[E.out];exact r.out⟩
theorem Qme (S:MAt w b most m M sc sa g) (I:Qat n M){x:Qx}(j:IP) (i:x.op=13) :
 Calls prog 88 #[Pv b 0,Pv g.t.c 0,.agg (Zc x j)] w fun e w'=>Qo g w b most m M sc sa (IM.ins m aOp M x) e w':=by
 have E:Hid (IM.ins m aOp M x=match QB M.top.v x.a with | none=>none | some n=>if M.out.length=2000 then some (M.over 8) else some { M with out:=M.out++[n] }):=by show _=_;unfold IM.ins;simp[i];cases QB M.top.v x.a<;>rfl
 generalize IM.ins m aOp M x=y at E |-;have f:=Qb (Zb w (.cells (Zc x j) 78));have s:=Qb (Qe w (Zc x j) 78);have Q:=Qb S;have K:=Qb I;have o:=Qb (S.below f.out);have D:=Qb (S.stepB f.out);have T:=I.len;clear S I;go_enter func88,ntmps88
 go_upto_region 1 with fail
 generalize w.alloc (.cells (Zc x j) 78)=z at f s o D |-;generalize w.heap.size=X at s |-;obtain⟨R,L,N,O,G,F,J,H⟩:=ZC s.out
 rw[i] at R
 have C:=Qb (ZN o.out.top (by omega) x.a);clear N O G F J H;go_upto_region 22 with fail
 cases hq:QB M.top.v x.a with
 | none =>
   rw[hq] at C E
   go_wp2_with fail
   refine C.out.mono ?_;rintro k B ⟨d,h⟩;have d:k=.panicked stuckP:=d;subst d;exact⟨Z,by rw[E.out];exact Qo.stuck (XTo.same Q.out (f.out.trans (h.mono f.out.size)))⟩
 | some q =>
   rw[hq] at C E
   have p:Hid (y=if M.out.length=2000 then some (M.over 8) else some { M with out:=M.out++[q] }):=E.out;have u:Hid (∀ l,Below z.heap.size z l->Calls prog 147 #[Pv b 0,Iv q] l fun e w'=>Qo g l b most m M sc sa (if M.out.length=2000 then some (M.over 8) else some { M with out:=M.out++[q] }) e w'):=fun l P=>QgA (o.out.below P) q K.out.out;clear E;generalize (if M.out.length=2000 then some (M.over 8) else some { M with out:=M.out++[q] })=U at p u;go_wp2_with (go_at_call 133;refine C.out.mono ?_;rintro k B ⟨d,h⟩;have d:k=.returned (Iv q):=d;subst d)
   refine(u.out B h).mono ?_
   rintro k W r;have A:=Qb (Qo.after (D.out.trans (o.out.stepB h)) r);rcases r.cases with rfl | ⟨V,rfl⟩
   ·clear r C u h L;go_wp2
    exact Xz (v:=.tuple #[]) (by simp[results,results88,go_sem]) Z (by rw[p.out];exact A.out)
   ·exact⟨Z,by rw[p.out];exact A.out⟩
theorem QnM (S:MAt w b most m M sc sa g) (I:Qat n M){x:Qx}(B:IP) (p:x.op=2) :
 Calls prog 88 #[Pv b 0,Pv g.t.c 0,.agg (Zc x B)] w fun e w'=>Qo g w b most m M sc sa (IM.ins m aOp M x) e w':=by
 have E:Hid (IM.ins m aOp M x=match QB M.top.v x.a with | none=>none | some a=>match QB M.top.v x.b with | none=>none | some b=>match aOp x.k a b with | none=>some (M.over 1) | some n=>some (M.push [Qaz n])):=by show _=_;unfold IM.ins;simp[p];cases QB M.top.v x.a with | none=>rfl | some a=>(simp only;cases QB M.top.v x.b with | none=>rfl | some b=>(simp only;cases aOp x.k a b<;>rfl))
 generalize IM.ins m aOp M x=r at E |-;have f:=Qb (Zb w (.cells (Zc x B) 78));have C:=Qb (Qe w (Zc x B) 78);have D:=Qb S;have HI:=Qb I;have F:=Qb (S.below f.out);have T1:=Qb (S.stepB f.out);have hl:=I.len;clear S I;go_enter func88,ntmps88
 go_upto_region 1 with fail
 generalize w.alloc (.cells (Zc x B) 78)=A at f C F T1 |-;generalize w.heap.size=X at C |-;obtain⟨x0,U,W,x3,Q,x5,x6,x7⟩:=ZC C.out
 rw[p] at x0
 have CA:Hid (∀ d,Below A.heap.size A d->Calls prog 133 #[Pv g.t.c 0,Iv x.a] d fun e w'=>Ask (QB M.top.v x.a) (.int .i64) e/\Below d.heap.size d w'):=fun d O=>ZN (F.out.top.below O) (by omega) x.a;have CB:Hid (∀ d,Below A.heap.size A d->Calls prog 133 #[Pv g.t.c 0,Iv x.b] d fun e w'=>Ask (QB M.top.v x.b) (.int .i64) e/\Below d.heap.size d w'):=fun d O=>ZN (F.out.top.below O) (by omega) x.b;go_upto_region 6 with fail
 refine in6 U W Q CA CB _ _ Z (Xg (by kernel_rfl)) Z Z Z ?_ ?_
 ·rintro ch a' w9 H ⟨rfl,G,u⟩;refine⟨H,?_⟩
  have E3:r=none:=by
   rw[E.out]
   rcases G with J | J
   ·rw[J]
   ·cases QB M.top.v x.a with
    | none=>rfl
    | some y=>simp only;rw[J]
  rw[E3]
  exact Qo.stuck (XTo.same D.out (f.out.trans (u.mono f.out.size)))
 ·rintro vs w9 ⟨y,z,N,K,j⟩ ⟨y',z',o,h,i⟩ u;rw[N] at o
  cases o
  rw[K] at h
  cases h
  simp only[QC,Act.put,List.setIfInBounds_toArray,List.set_cons_zero,List.set_cons_succ,j,i]
  have s:Hid (r=match aOp x.k y z with | none=>some (M.over 1) | some n=>some (M.push [Qaz n])):=by show _=_;rw[E.out,N];simp only;rw[K]
  have L:=Qb (f.out.trans (u.mono f.out.size));have S9:=Qb (D.out.below L.out);have T9:=Qb (D.out.stepB L.out);clear j i N K u E CA CB x0 U W x3 Q x5 x6 x7 F f C T1
  cases ho:aOp x.k y z with
  | none =>
    rw[ho] at s
    simp only[Option.isSome_none,Option.getD_none]
    go_wp2_with fail
    refine(QaS _ _).mono ?_
    rintro V w' ⟨rfl,l⟩;subst l;exact⟨Z,by rw[s.out];exact Qo.end_ (XTo.same D.out L.out)⟩
  | some q =>
    rw[ho] at s
    simp only[Option.isSome_some,Option.getD_some]
    have T:=Qb (Qak S9.out q (by omega));go_wp2_with (go_at_call 84;refine(Qbd _ _).mono ?_;rintro V w' ⟨rfl,l⟩;have l:=l.symm;subst l)
    refine T.out.mono ?_;rintro V w6 ⟨rfl,P⟩;have R:=Qb (XTo.then T9.out Z Z P);clear P T;go_wp2
    exact Xz (v:=.tuple #[]) (by simp[results,results88,go_sem]) Z (by rw[s.out];exact Qo.go R.out)
theorem Qnv (S:MAt w b most m M sc sa g) (I:Qat n M){x:Qx}(u:IP) (k:x.op=4) :
 Calls prog 88 #[Pv b 0,Pv g.t.c 0,.agg (Zc x u)] w fun e w'=>Qo g w b most m M sc sa (IM.ins m aOp M x) e w':=by
 have E:Hid (IM.ins m aOp M x=match QE M.top.v x.a with | none=>none | some a=>if (M.h.shut a).1 then some { M with h:=(M.h.shut a).2 } else none):=by show _=_;unfold IM.ins;simp[k];unfold IM.mem;cases QE M.top.v x.a<;>simp[k]
 generalize IM.ins m aOp M x=H at E |-;have f:=Qb (Zb w (.cells (Zc x u) 78));have z:=Qb (Qe w (Zc x u) 78);have J:=Qb S;have T:=Qb I;have s:=Qb (S.below f.out);have T1:=Qb (S.stepB f.out);have hl:=I.len;clear S I;go_enter func88,ntmps88
 go_upto_region 1 with fail
 generalize w.alloc (.cells (Zc x u) 78)=L at f z s T1 |-;generalize w.heap.size=X at z |-;obtain⟨x0,U,x2,x3,x4,x5,x6,x7⟩:=ZC z.out
 rw[k] at x0
 have CV:Hid (∀ o,Below L.heap.size L o->Calls prog 140 #[Pv g.t.c 0,Iv x.a] o fun e w'=>Ask (QE M.top.v x.a) QU e/\Below o.heap.size o w'):=fun o bx=>Z1 (s.out.top.below bx) (by omega) x.a;have V:=s.out.heapC;go_upto_region 12 with fail
 refine Qok V U CV _ _ Z (Xg (by kernel_rfl)) Z Z Z ?_ ?_
 ·rintro ch a' w9 C ⟨rfl,B,b9⟩;refine⟨C,?_⟩
  rw[E.out,B]
  exact Qo.stuck (XTo.same J.out (f.out.trans (b9.mono f.out.size)))
 ·rintro D vs Q d ⟨y,G,i⟩ W;show wpList _ D _ [_,_] (QC _ vs [50,51,52,53,54,55,56,57]) Q;simp only[QC,Act.put,List.setIfInBounds_toArray,List.set_cons_zero,List.set_cons_succ,d,i]
  have q:Hid (H=if (M.h.shut y).1 then some { M with h:=(M.h.shut y).2 } else none):=by show _=_;rw[E.out,G]
  have P:=Qb (f.out.trans (W.mono f.out.size));have K:=Qb (J.out.below P.out);have r:=Qb (T.out.shut K.out.heap (T.out.val G).1);have A:=Qb (Qjo (h:=M.h) (v:=y));clear d i G W E CV V x0 U x2 x3 x4 x5 x6 x7 s f z T1;generalize M.h.shut y=st at q r A;obtain⟨cd,sh⟩:=st
  simp only at q r A
  have N:=Qb (fun p (j:HTo Q p g.bh g.O sh)=>XTo.then (J.out.stepB P.out) Z Z (K.out.toHeap j))
  cases cd with
  | true =>
    go_wp2_with (first | (go_at_call 139;refine r.out.mono ?_;rintro F p ⟨rfl,j⟩;have R:=Qb (N.out p j);clear j) | (go_at_call 138;refine(ZM _).mono ?_;rintro F w' ⟨rfl,l⟩;have l:=l.symm;subst l))
    exact Xz (v:=.tuple #[]) (by simp[results,results88,go_sem]) Z (by rw[q.out];exact Qo.go R.out)
  | false =>
    go_wp2_with (go_at_call 139;refine r.out.mono ?_;rintro F p ⟨rfl,j⟩;have R:=Qb (N.out p j);clear j)
    refine(ZD _).mono ?_
    rintro F w' ⟨rfl,l⟩;subst l;exact⟨Z,by rw[q.out];exact Qo.stuck (by have:=R.out;rw[A.out (by first | rfl | trivial)] at this;exact this)⟩
theorem Qno (S:MAt w b most m M sc sa g) (I:Qat n M){x:Qx}(q:IP) (u:x.op=5)(hA:intsL.In w Q2 x.args [.slice q.pA x.args.length q.cA]) (hn:x.args.length<=1000) :
 Calls prog 88 #[Pv b 0,Pv g.t.c 0,.agg (Zc x q)] w fun e w'=>Qo g w b most m M sc sa (IM.ins m aOp M x) e w':=by
 have E:Hid (IM.ins m aOp M x=match QE M.top.v x.a with | none=>none | some a=>match Qq M.top.v x.args with | none=>none | some l=>M.got (M.h.tuple a l)):=by show _=_;unfold IM.ins;simp[u];unfold IM.mem;cases QE M.top.v x.a with | none=>rfl | some a=>(simp[u];cases Qq M.top.v x.args<;>rfl)
 generalize IM.ins m aOp M x=i at E |-;have B:=Qb (Zb w (.cells (Zc x q) 78));have BX:=Qb (Qe w (Zc x q) 78);have HS:=Qb S;have HI:=Qb I;have k:=Qb (S.below B.out);have T1:=Qb (S.stepB B.out);have hl:=I.len;have HA:=Qb (Ya hA B.out);clear hA;clear S I;go_enter func88,ntmps88
 go_upto_region 1 with fail
 generalize w.alloc (.cells (Zc x q) 78)=A at B BX k T1 HA |-;generalize w.heap.size=X at BX |-;obtain⟨x0,x1,x2,x3,x4,x5,x6,x7⟩:=ZC BX.out
 rw[u] at x0
 have CV:Hid (∀ d,Below A.heap.size A d->Calls prog 140 #[Pv g.t.c 0,Iv x.a] d fun e w'=>Ask (QE M.top.v x.a) QU e/\Below d.heap.size d w'):=fun d G=>Z1 (k.out.top.below G) (by omega) x.a;have CL:Hid (∀ d,Below A.heap.size A d->Calls prog 142 #[Pv g.t.c 0,.slice q.pA x.args.length q.cA] d fun e w'=>QcF d (Qq M.top.v x.args) x.args.length e w'):=fun d G=>Qeq (k.out.top.below G) (by omega) Yz (by omega) (Ya HA.out G)
 have CT:Hid (∀ y o g7 d,QE M.top.v x.a=some y->Qq M.top.v x.args=some o->A.heap.size<=g7->d.rowIs g7 211 (x.args.length*4) (Zu o)->Below A.heap.size A d->Calls prog 141 #[Pv g.bh 0,QU y,.slice (some ⟨g7,0,none⟩) x.args.length x.args.length] d fun e w'=>e=.returned (.tuple #[QU (M.h.tuple y o).1,Iv (M.h.tuple y o).2.1])/\HTo d w' g.bh g.O (M.h.tuple y o).2.2):=fun y o g7 d K F ae W G=>by
  have L:=Zp _ _ F;refine HI.out.tup (k.out.heap.below G) (HI.out.val K).1 L (by omega) (fun v hv=>HI.out.gd v (Qck F v hv)) ?_ (fun g0 o0 P hO=>?_)
  ·have:=(QhN.of L (by omega) W).form
   obtain⟨a9,c9,e9,f⟩:=this
   rw[Value.slice.injEq] at e9
   rw[<-e9.1] at f
   exact f
  ·injection P with P
   injection P with P
   subst P
   have:=k.out.heap.lt _ hO
   omega
 have q0:=k.out.heapC;go_upto_region 14 with fail
 refine Qom (OO:=g.O) (h:=M.h) (k.out.heap.lt) q0 x1 x7 CV CL CT (QgX _ _ _ _ k.out.heap.lt) _ _ Yz (Xg (by kernel_rfl)) Yz Yz Yz ?_ ?_
 ·rintro ch a' s ab ⟨rfl,ac,b9⟩;refine⟨ab,?_⟩
  have z:i=none:=by
   rw[E.out]
   rcases ac with j | j
   ·rw[j]
   ·cases QE M.top.v x.a with
    | none=>rfl
    | some y=>simp only;rw[j]
  rw[z]
  exact Qo.stuck (XTo.same HS.out (B.out.trans (b9.mono B.out.size)))
 ·rintro vs s ⟨y,o,K,F,f⟩ ⟨Z,H,hZ,⟨r,⟨y',ad,N,aa,hr⟩,p⟩,-⟩ ⟨h9,⟨y2,af,V,Q,hh⟩,t9⟩;rw[K] at N V
  cases N
  cases V
  rw[F] at aa Q
  cases aa
  cases Q
  simp only[QC,Act.put,List.setIfInBounds_toArray,List.set_cons_zero,List.set_cons_succ,f,H]
  have D:Hid (i=M.got (M.h.tuple y o)):=by show _=_;rw[E.out,K];simp only;rw[F]
  subst hr;subst hh;have C:=Qb (XTo.then T1.out Yz Yz (k.out.toHeap t9));have T:=Qb (QhX (h:=M.h) (v:=y) (l:=o));have Y:=Qb p;clear f H K F p t9 E CV CL CT q0 x0 x1 x2 x3 x4 x5 x6 x7 k B BX T1 HA;generalize M.h.tuple y o=tu at D C T Y |-;obtain⟨⟨rk,rr,U,J⟩,cd,th⟩:=tu
  simp only at D C T Y |-
  go_upto_region 15 with fail
  go_wp2_with fail
  refine(QaW _ _ _ _).mono ?_
  rintro e' w' ⟨hw,ha⟩;have hw:=hw.symm;subst hw;rcases ha with ⟨j,rfl⟩|⟨j,h1,rfl⟩|⟨j,h1,rfl⟩
  rotate_left
  ·have z:i=some (M.over 6):=by rw[D.out];unfold IM.got;rw[Xs h1]
   exact⟨Yz,by rw[z];exact Qo.end_ (by have:=C.out;rw[T.out j] at this;exact this)⟩
  ·have z:i=none:=by rw[D.out];unfold IM.got;rw[Xr h1,Xr j]
   exact⟨Yz,by rw[z];exact Qo.stuck (by have:=C.out;rw[T.out j] at this;exact this)⟩
  have z:Hid (i=some (IM.push { M with h:=th } [⟨rk,rr,U,J⟩])):=by show _=_;rw[D.out];unfold IM.got;simp only;rw[Xr (by omega),Xs j]
  obtain⟨g5,S5,T5,c5,f5⟩:=C.out
  have y0:s.cell? ⟨Z,0,none⟩=some (Iv rk):=Qa Y.out 0 _ Yz;have y1:s.cell? ⟨Z,1,none⟩=some (Iv rr):=Qa Y.out 1 _ Yz;have y2:s.cell? ⟨Z,2,none⟩=some (Iv U):=Qa Y.out 2 _ Yz;have y3:s.cell? ⟨Z,3,none⟩=some (Iv J):=Qa Y.out 3 _ Yz;have B5:=Zb s (.cells #[Iv rk,Iv rr,Iv U,Iv J] 211);have CM:=Qb (fun cp=>Z3 (S5.below B5) (l:=[⟨rk,rr,U,J⟩]) (cp:=cp) Yz (Qh2 s rk rr U J) (by show M.top.v.length+1<=1000000;omega));rw[c5] at CM
  have T6:=Qb (T5.trans (S5.stepB B5));have HC:=Qb (Xh c5 f5);clear B5 Y j D S5 T5 C T c5 f5;go_wp2_with fail
  refine(CM.out _).mono ?_
  rintro e' w6 ⟨rfl,h6⟩;have R:=Qb (XTo.then T6.out HC.out.1 HC.out.2 h6);clear h6 CM T6 y0 y1 y2 y3;go_wp2
  exact Xz (v:=.tuple #[]) (by simp[results,results88,go_sem]) Yz (by rw[z.out];exact Qo.go R.out)
end
def HGd (h:Qc):Prop:=∀ (k:Nat) (p:Ql) (i:Nat) (t:Qs) (v:Qk),h.L[k]?=some p->p.l[i]?=some t->v∈t.l->gdV v
theorem gd_no:gdV noV:=⟨by unfold Qk.ok ZE noV;decide,Z⟩
theorem one64:ZE 1:=by unfold ZE;decide
theorem two64:ZE 2:=by unfold ZE;decide
theorem zero64:ZE 0:=by unfold ZE;decide
theorem Qco {n:Int}(h:ZE n):gdV (Qaz n):=⟨⟨one64,zero64,zero64,h⟩,Z⟩
section
variable {h:Qc}{n:Nat}
theorem HGd.new (n:Nat):HGd (Qc.new n):=fun k p i t v h=>by simp[Qc.new] at h
theorem HGd.open (G:HGd h):HGd h.open_.2.2:=by
 unfold Qc.open_;split
 ·exact G
 ·intro k p i t v a c d;simp only at a
  rcases Nat.lt_or_ge k h.L.length with b | b
  ·rw[XP b] at a;exact G k p i t v a c d
  ·rw[XQ b] at a
   have:=(Zi a).1
   have e:k - h.L.length=0:=by simp at this;omega
   rw[e] at a
   simp at a
   subst a;simp[newP] at c
theorem HGd.shut (G:HGd h) (v:Qk):HGd (h.shut v).2:=by
 unfold Qc.shut
 cases h.at v with
 | none=>exact G
 | some p =>
   intro k q i t u a b c;simp only at a
   rcases QbC a with rfl | a
   ·simp[noP] at b
   ·exact G k q i t u a b c
theorem HGd.put (G:HGd h) (v:Qk){t:Qs}(e:∀ u∈t.l,gdV u) (words:Int):HGd (h.put v t words).2.2:=by
 unfold Qc.put
 cases ha:h.at v with
 | none=>exact G
 | some p =>
   simp only
   split
   ·exact G
   ·intro k q i u x b a d;simp only at b
    rcases QbC b with rfl | b
    ·have g:(p.more t words).l=p.l++[t]:=by unfold Ql.more;split<;>rfl
     rw[g] at a
     obtain⟨-,-,f,-,j,-⟩:=Qc.at_some ha
     rcases Nat.lt_or_ge i p.l.length with c | c
     ·rw[XP c] at a;exact G f p i u x j a d
     ·rw[XQ c] at a
      have:=(Zi a).1
      have m:i - p.l.length=0:=by simp at this;omega
      rw[m] at a
      simp at a
      subst a;exact e x d
    ·exact G k q i u x b a d
theorem HGd.set (G:HGd h) (v:Qk) (k:Int){x:Qk}(o:gdV x):HGd (h.set v k x).2:=by
 unfold Qc.set;split
 ·rename_i t p r n
  split
  ·exact G
  split
  ·exact G
  intro j q i u y f a l;simp only at f
  obtain⟨-,s,b,w,c,-⟩:=Qc.thing_iff.1 r
  rw[n] at b
  cases b
  have d:=(Qc.place_some n).2.1;rcases QbC f with rfl | f
  ·simp only at a
   by_cases e:i=v.thing.toNat
   ·subst e;have g:=(Zi c).1;simp[g] at a
    subst a;rcases List.mem_or_eq_of_mem_set l with m | m
    ·exact G _ p _ t y d c m
    ·rw[m];exact o
   ·rw[List.getElem?_set_ne (Ne.symm e)] at a
    exact G _ p i u y d a l
  ·exact G j q i u y f a l
 ·exact G
theorem HGd.get (G:HGd h) (v:Qk) (k:Int):gdV (h.get v k).1:=by
 unfold Qc.get
 cases ht:h.thing v with
 | none=>exact gd_no
 | some t =>
   simp only
   split
   ·exact gd_no
   ·cases hx:t.l[k.toNat]? with
    | none=>exact gd_no
    | some x =>
      obtain⟨-,p,b,-,a,-⟩:=Qc.thing_iff.1 ht
      exact G _ p _ t x (Qc.place_some b).2.1 a (Zm hx)
theorem QlN (B:HB n h) (hn:n<=900000):gdV h.open_.1:=by
 have:=B.ok.len
 unfold Qc.open_;split
 ·exact gd_no
 ·exact⟨⟨two64,by unfold ZE;simp only;omega,zero64,zero64⟩,Z⟩
theorem QmQ (B:HB n h) (hn:n<=900000){v:Qk}(a:v.ok) (t:Qs) (words:Int):gdV (h.put v t words).1:=by
 unfold Qc.put
 cases ha:h.at v with
 | none=>exact gd_no
 | some p =>
   have:=(B.ok.of ha).1
   simp only
   split
   ·exact gd_no
   ·cases t.arr
    ·exact⟨⟨(by unfold ZE;decide:ZE 3),a.2.1,by unfold ZE;simp only;omega,zero64⟩,Z⟩
    ·exact⟨⟨(by unfold ZE;decide:ZE 4),a.2.1,by unfold ZE;simp only;omega,zero64⟩,Z⟩
theorem HB.put (B:HB n h) (v:Qk) (t:Qs)(a:0<=words/\words<=17) (b:t.l.length<=17):HB (n+20) (h.put v t words).2.2 :=
 ⟨(B.ok.put v t (M:=17) a).mono (by omega),Qez.put (B.len.mono (by omega)) v t words (by omega),by rw[Qke];exact B.live⟩
end
structure IOk (m:List (MFunc 6)) (n:Nat) (M:IM):Prop where
 hb:HB n M.h
 hg:HGd M.h
 fr:∀ d∈M.top::M.rest,(∀ v∈d.v,gdV v)/\d.v.length<=n+8/\d.r.length<=n+16/\∃ fn bl,m[d.f]?=some fn/\fn.blocks[d.b]?=some bl/\d.i<=bl.code.length
 inp:M.inp.length<=1000/\∀ k∈M.inp,ZE k
 out:M.out.length<=2000/\(∀ x∈M.out,ZE x)/\M.back.length<=8
 deep:M.rest.length<=39
def M64 (m:List (MFunc 6)):Prop:=∀ fn∈m,∀ bl∈fn.blocks,∀ x∈bl.code,ZE x.n
section
variable {m:List (MFunc 6)}{n n':Nat}{M M':IM}{x:Qx}
theorem IOk.mono (I:IOk m n M) (h:n<=n'):IOk m n' M:=⟨I.hb.mono h,I.hg,fun d a=>⟨(I.fr d a).1,by have:=(I.fr d a).2.1;omega,by have:=(I.fr d a).2.2.1;omega,(I.fr d a).2.2.2⟩,I.inp,I.out,I.deep⟩
theorem IOk.sok (I:IOk m n M) (hn:n<=900000):Qat n M where
 hb:=I.hb
 hn:=hn
 gd:=(I.fr M.top (by simp)).1
 len:=by have:=(I.fr M.top (by simp)).2.1;omega
 regs:=by have:=(I.fr M.top (by simp)).2.2.1;omega
 inp:=by have:=I.inp.1;omega
 out:=I.out.1
theorem IOk.over (I:IOk m n M) (k:Int):IOk m n (M.over k):=⟨I.hb,I.hg,I.fr,I.inp,I.out,I.deep⟩
theorem IOk.push (I:IOk m n M){l:List Qk}(e:∀ v∈l,gdV v) (j:l.length<=8):IOk m (n+8) (M.push l):=by
 refine⟨I.hb.mono (by omega),I.hg,fun d a=>?_,I.inp,I.out,I.deep⟩
 rcases List.mem_cons.1 a with rfl | a
 ·obtain⟨b,i,g,c⟩:=I.fr M.top (by simp)
  refine⟨fun v f=>?_,?_,by show M.top.r.length<=_;omega,c⟩
  ·rcases List.mem_append.1 f with h | h
   ·exact b v h
   ·exact e v h
  ·show (M.top.v++l).length<=_;rw[List.length_append]
   omega
 ·obtain⟨b,i,g,c⟩:=I.fr d (List.mem_cons_of_mem _ a)
  exact⟨b,by omega,by omega,c⟩
theorem IOk.heap (I:IOk m n M){h':Qc}(hb:HB (n+20) h') (b:HGd h'):IOk m (n+20) ({ M with h:=h' }:IM):=⟨hb,b,fun d a=>by have:=I.fr d a;exact⟨this.1,by omega,by omega,this.2.2.2⟩,I.inp,I.out,I.deep⟩
theorem IOk.val (I:IOk m n M){a:Int}{v:Qk}(h:QE M.top.v a=some v):gdV v:=(I.fr M.top (by simp)).1 v (Qbg h)
theorem IOk.num (I:IOk m n M){a:Int}{k:Int}(h:QB M.top.v a=some k):ZE k:=by
 unfold QB at h
 cases e:QE M.top.v a with
 | none=>rw[e] at h;cases h
 | some v =>
   rw[e] at h
   simp only at h
   split at h
   ·cases h;exact(I.val e).1.2.2.2
   ·cases h
theorem IOk.vals (I:IOk m n M){xs:List Qk}(h:Qq M.top.v l=some xs):∀ v∈xs,gdV v:=fun v a=>(I.fr M.top (by simp)).1 v (Qck h v a)
def OkO (m:List (MFunc 6)) (n:Nat) (o:Option IM):Prop:=∀ N,o=some N->IOk m n N
theorem OkO.no:OkO m n none:=fun N h=>by cases h
theorem OkO.some (I:IOk m n M):OkO m n (some M):=fun N h=>by cases h;exact I
theorem OkO.ite {c:Prop}[Decidable c] {a b:Option IM}(e:c->OkO m n a) (d:¬ c->OkO m n b):OkO m n (if c then a else b):=by
 by_cases h:c
 ·rw[Xs h];exact e h
 ·rw[Xr h];exact d h
theorem Qle (I:IOk m n M) (hn:n<=900000){v:Qk}(e:v.ok){t:Qs}(b:∀ u∈t.l,gdV u) (d:t.l.length<=17)(c:0<=words/\words<=17):OkO m (n+28) (M.got (M.h.put v t words)) :=
 OkO.ite (fun _=>OkO.some ((I.over 6).mono (by omega))) fun _=>OkO.ite (fun _=>OkO.some (by
  have:=(I.heap (I.hb.put v t c d) (I.hg.put v b words)).push (l:=[(M.h.put v t words).1]) (fun u a=>by simp at a;subst a;exact QmQ I.hb hn e t words) (by simp)
  exact this)) (fun _=>OkO.no)
theorem Ql0 (I:IOk m n M) (hn:n<=900000) (j:x.op=5->x.args.length<=8):OkO m (n+28) (M.mem x):=by
 unfold IM.mem
 cases ha:QE M.top.v x.a with
 | none=>exact OkO.no
 | some a =>
   have i:=I.val ha;have d:∀ {v:Qk},gdV v->OkO m (n+28) (some (M.push [v])):=fun e=>OkO.some ((I.push (fun u f=>by simp at f;subst f;exact e) (by simp)).mono (by omega));have g:∀ k,OkO m (n+28) (some (M.over k)):=fun k=>OkO.some ((I.over k).mono (by omega));simp only
   refine OkO.ite (fun _=>OkO.ite (fun _=>OkO.some ((I.heap (h':=(M.h.shut a).2) ((I.hb.shut a).mono (by omega)) (I.hg.shut a)).mono (by omega))) (fun _=>OkO.no)) fun _=>OkO.ite (fun p=>?_) fun _=>OkO.ite (fun _=>?_) fun _=>OkO.ite (fun _=>OkO.ite (fun _=>d (I.hg.get a x.k)) (fun _=>OkO.no)) fun _=>OkO.ite (fun _=>?_) fun _=>OkO.ite (fun _=>?_) fun _=>OkO.ite (fun _=>?_) fun _=>OkO.ite (fun _=>d (Qco ?_)) (fun _=>OkO.no)
   ·cases e:Qq M.top.v x.args with
    | none=>exact OkO.no
    | some l =>
      have r:=Zp _ _ e;have q:=j p;exact Qle I hn i.1 (t:=⟨false,l⟩) (I.vals e) (by show l.length<=17;omega) (by split<;>omega)
   ·cases hb:QB M.top.v x.b with
    | none=>exact OkO.no
    | some k =>
      refine OkO.ite (fun _=>g 3) (fun o=>?_);unfold Qc.array;rw[Xr o]
      exact Qle I hn i.1 (t:=⟨true,List.replicate k.toNat (Qaz 0)⟩) (fun u f=>by have:=List.eq_of_mem_replicate f;subst this;exact Qco (by unfold ZE;decide)) (by show (List.replicate k.toNat (Qaz 0)).length<=17;rw[List.length_replicate];omega) (by omega)
   ·cases hb:QE M.top.v x.b with
    | none=>exact OkO.no
    | some y=>exact OkO.ite (fun _=>OkO.some ((I.heap (h':=(M.h.set a x.k y).2) ((I.hb.set a x.k y).mono (by omega)) (I.hg.set a x.k (I.val hb))).mono (by omega))) (fun _=>OkO.no)
   ·cases hb:QB M.top.v x.b with
    | none=>exact OkO.no
    | some k=>exact OkO.ite (fun _=>OkO.ite (fun _=>g 2) fun _=>OkO.ite (fun _=>d (I.hg.get a k)) (fun _=>OkO.no)) (fun _=>OkO.no)
   ·cases hb:QB M.top.v x.b with
    | none=>exact OkO.no
    | some k=>cases hc:QB M.top.v x.c with
      | none=>exact OkO.no
      | some z=>exact OkO.ite (fun _=>OkO.ite (fun _=>g 2) fun _=>OkO.ite (fun _=>OkO.some ((I.heap (h':=(M.h.set a k (Qaz z)).2) ((I.hb.set a k (Qaz z)).mono (by omega)) (I.hg.set a k (Qco (I.num hc)))).mono (by omega))) (fun _=>OkO.no)) (fun _=>OkO.no)
   ·unfold Qc.len
    cases ht:M.h.thing a with
    | none=>unfold ZE;decide
    | some t=>have:=I.hb.len.thing ht;unfold ZE;simp only;omega
end
section
variable {m:List (MFunc 6)}{n n':Nat}{M M':IM}{x:Qx}{fn:MFunc 6}{bl:MBlock 6}{op:Int->Int->Int->Option Int}
theorem QdC {a:Nat}(h:x.form a=0):(1<=x.op/\x.op<=14)/\(x.op=5->x.args.length<=8)/\(x.op=14->0<=x.k/\x.k<(a:Int)/\x.regs.length<=6/\x.args.length<=8):=by
 unfold Qx.form at h;split at h
 ·cases h
 rename_i b
 split at h
 ·cases h
 split at h
 ·cases h
 split at h
 ·cases h
 rename_i f
 split at h
 ·cases h
 split at h
 ·cases h
 rename_i c
 split at h
 ·cases h
 rename_i d
 refine⟨?_,fun e=>by omega,fun e=>by omega⟩
 unfold QJ at b;by_cases e:1<=x.op/\x.op<=14
 ·exact e
 ·exfalso
  apply b
  repeat' rw[Xr (by omega)]
  rfl
theorem Qd7 {v:List Qk}:∀ {l:List Int}{ns:List Int},Qax v l=some ns->ns.length=l.length
 | [],ns,h=>by simp[Qax] at h;subst h;rfl
 | k::l,ns,h=>by
   unfold Qax at h
   cases hk:QB v k with
   | none=>rw[hk] at h;cases h
   | some y =>
     rw[hk] at h
     simp only at h
     cases hl:Qax v l with
     | none=>rw[hl] at h;cases h
     | some zs=>rw[hl] at h;simp at h;subst h;simp[Qd7 hl]
theorem QkN (I:IOk m n M) (e:(modFault m).1=0) (j:0<=x.k/\x.k<(m.length:Int)/\x.regs.length<=6/\x.args.length<=8):OkO m n (M.call m x):=by
 unfold IM.call
 cases hr:Zs M.top.r x.regs with
 | none=>exact OkO.no
 | some r =>
   cases hv:Qq M.top.v x.args with
   | none=>exact OkO.no
   | some v =>
     cases hf:m[x.k.toNat]? with
     | none=>exact OkO.no
     | some f =>
       refine OkO.ite (fun _=>OkO.ite (fun _=>OkO.some (I.over 5)) (fun c=>OkO.some ?_)) (fun _=>OkO.no);obtain⟨h,b,-⟩:=Z5 e hf
       have i:=Zp _ _ hv;have g:=QaM hr;refine⟨I.hb,I.hg,fun d a=>?_,I.inp,I.out,by show (M.top::M.rest).length<=39;have:=I.deep;simp;omega⟩
       rcases List.mem_cons.1 a with rfl | a
       ·exact⟨I.vals hv,by show v.length<=_;omega,by show r.length<=_;omega,f,h,hf,b,Xb _⟩
       ·exact I.fr d a
theorem Qiu (I:IOk m n M) (hn:n<=900000) (B:(modFault m).1=0) (t:∀ k a b c,op k a b=some c->ZE a->ZE b->ZE c) (A:x.form m.length=0) (q:ZE x.n):OkO m (n+28) (IM.ins m op M x):=by
 obtain⟨-,D,p⟩:=QdC A
 have i:∀ {v:Qk},gdV v->OkO m (n+28) (some (M.push [v])):=fun C=>OkO.some ((I.push (fun u f=>by simp at f;subst f;exact C) (by simp)).mono (by omega));have o:∀ k,OkO m (n+28) (some (M.over k)):=fun k=>OkO.some ((I.over k).mono (by omega));unfold IM.ins;refine OkO.ite (fun _=>i (Qco q)) fun _=>OkO.ite (fun _=>?_) fun _=>OkO.ite (fun _=>OkO.ite (fun _=>OkO.some ?_) (fun _=>o 6)) fun _=>OkO.ite (fun _=>?_) fun _=>OkO.ite (fun _=>?_) fun _=>OkO.ite (fun e=>fun N h=>(QkN I B (p e) N h).mono (by omega)) (fun _=>Ql0 I hn D)
 ·cases ha:QB M.top.v x.a with
  | none=>exact OkO.no
  | some a =>
    cases hb:QB M.top.v x.b with
    | none=>exact OkO.no
    | some b =>
      simp only
      cases ho:op x.k a b with
      | none=>exact o 1
      | some c=>exact i (Qco (t _ _ _ _ ho (I.num ha) (I.num hb)))
 ·have J:IOk m (n+20) { M with h:=M.h.open_.2.2,top:={ M.top with r:=M.top.r++[M.h.open_.1.region] } }:=by
   refine⟨I.hb.open.mono (by omega),I.hg.open,fun d s=>?_,I.inp,I.out,I.deep⟩
   rcases List.mem_cons.1 s with rfl | s
   ·obtain⟨g,F,E,z⟩:=I.fr M.top (by simp)
    exact⟨g,by show M.top.v.length<=_;omega,by show (M.top.r++[_]).length<=_;rw[List.length_append];simp;omega,z⟩
   ·obtain⟨g,F,E,z⟩:=I.fr d (List.mem_cons_of_mem _ s)
    exact⟨g,by omega,by omega,z⟩
  exact(J.push (l:=[M.h.open_.1]) (fun u f=>by simp at f;subst f;exact QlN I.hb hn) (by simp)).mono (by omega)
 ·cases hi:M.inp with
  | nil=>exact o 4
  | cons k l =>
    have j:=I.inp;rw[hi] at j
    have J:IOk m n { M with inp:=l }:=⟨I.hb,I.hg,I.fr,⟨by have:=j.1;simp at this;show l.length<=1000;omega,fun y w=>j.2 y (by simp[w])⟩,I.out,I.deep⟩;exact OkO.some ((J.push (l:=[Qaz k]) (fun u f=>by simp at f;subst f;exact Qco (j.2 k (by simp))) (by simp)).mono (by omega))
 ·cases ha:QB M.top.v x.a with
  | none=>exact OkO.no
  | some a=>exact OkO.ite (fun _=>o 8) (fun h=>OkO.some (IOk.mono ⟨I.hb,I.hg,I.fr,I.inp,⟨by have:=I.out.1;show (M.out++[a]).length<=2000;simp;omega,fun y w=>by rcases List.mem_append.1 w with g | g;exact I.out.2.1 y g;simp at g;subst g;exact I.num ha,I.out.2.2⟩,I.deep⟩ (by omega)))
theorem Qi8 (I:IOk m n M) (e:m[M.top.f]?=some fn){t:MTo}(g:t.regs.length<=16/\t.args.length<=8):OkO m n (IM.to fn M t):=by
 unfold IM.to
 cases hb:fn.blocks[t.block.toNat]? with
 | none=>exact OkO.no
 | some b =>
   cases hr:Zs M.top.r t.regs with
   | none=>exact OkO.no
   | some r =>
     cases hv:Qq M.top.v t.args with
     | none=>exact OkO.no
     | some v =>
       refine OkO.ite (fun _=>OkO.some ?_) (fun _=>OkO.no);have h:=Zp _ _ hv;have c:=QaM hr;refine⟨I.hb,I.hg,fun d a=>?_,I.inp,I.out,I.deep⟩
       rcases List.mem_cons.1 a with rfl | a
       ·exact⟨I.vals hv,by show v.length<=_;omega,by show r.length<=_;omega,fn,b,e,hb,Xb _⟩
       ·exact I.fr d (List.mem_cons_of_mem _ a)
theorem Qj6 (I:IOk m n M) (g:m[M.top.f]?=some fn){e:MEnd}(j:e.form fn.blocks.length=0):OkO m (n+28) (IM.endd fn M e):=by
 obtain⟨s,l,i,b⟩:=QfD j
 unfold IM.endd;refine OkO.ite (fun r=>fun N h=>(Qi8 I g (by have:=QbY (i (by omega));omega) N h).mono (by omega)) fun _=>OkO.ite (fun p=>?_) fun _=>?_
 ·cases QB M.top.v e.a with
  | none=>exact OkO.no
  | some k=>exact OkO.ite (fun _=>fun N h=>(Qi8 I g (by have:=QbY (b p);omega) N h).mono (by omega)) (fun _=>fun N h=>(Qi8 I g (by have:=QbY (i (by omega));omega) N h).mono (by omega))
 ·cases hv:Qq M.top.v e.args with
  | none=>exact OkO.no
  | some v =>
    refine OkO.ite (fun _=>?_) (fun _=>OkO.no);have q:=Zp _ _ hv
    cases hr:M.rest with
    | nil =>
      cases hnk:Qax M.top.v e.args with
      | none=>exact OkO.no
      | some k =>
        have J:IOk m n { M with back:=k }:=⟨I.hb,I.hg,I.fr,I.inp,⟨I.out.1,I.out.2.1,by show k.length<=8;rw[Qd7 hnk];exact l⟩,I.deep⟩
        have:=J.over 0
        rw[hr] at this
        exact OkO.some (this.mono (by omega))
    | cons d rest =>
      have J:IOk m n { M with top:=d,rest:=rest }:=⟨I.hb,I.hg,fun c o=>I.fr c (by rw[hr];exact List.mem_cons_of_mem _ o),I.inp,I.out,by have:=I.deep;rw[hr] at this;simp at this;show rest.length<=39;omega⟩;exact OkO.some ((J.push (I.vals hv) (by omega)).mono (by omega))
theorem QkX (I:IOk m n M) (hn:n<=900000) (q:(modFault m).1=0) (h:M64 m) (l:∀ k a b c,op k a b=some c->ZE a->ZE b->ZE c):OkO m (n+28) (IM.step m op most M):=by
 unfold IM.step;refine OkO.ite (fun _=>OkO.some ((I.over 7).mono (by omega))) fun _=>?_;obtain⟨-,-,-,o,g,e,f,v⟩:=I.fr M.top (by simp)
 rw[e]
 simp only
 rw[f]
 simp only
 have r:=(Zk q).2 o (Zm e);have p:=r.blocks g (Zm f)
 cases hx:g.code[M.top.i]? with
 | none =>
   have J:IOk m n { M with fuel:=M.fuel+1 }:=⟨I.hb,I.hg,I.fr,I.inp,I.out,I.deep⟩;exact Qj6 J e p.fin
 | some x =>
   have J:IOk m n { M with fuel:=M.fuel+1,top:={ M.top with i:=M.top.i+1 } }:=by
    refine⟨I.hb,I.hg,fun d j=>?_,I.inp,I.out,I.deep⟩
    rcases List.mem_cons.1 j with rfl | j
    ·obtain⟨s,u,t,-⟩:=I.fr M.top (by simp)
     exact⟨s,u,t,o,g,e,f,(Zi hx).1⟩
    ·exact I.fr d (List.mem_cons_of_mem _ j)
   exact Qiu J hn q l (p.code x (Zm hx)) (h o (Zm e) g (Zm f) x (Zm hx))
theorem Qio (c:(modFault m).1=0)(hi:inp.length<=1000/\∀ k∈inp,ZE k)(j:pages<=1000):IOk m 0 (IM.start inp pages):=by
 have i:=(Zk c).1.1;obtain⟨b,f⟩:∃ b,m[0]?=some b:=⟨_,Zg i⟩
 obtain⟨h,a,-⟩:=Z5 c f
 refine⟨HB.new pages (by omega),HGd.new pages,fun d e=>?_,hi,⟨by simp[IM.start],by simp[IM.start],by simp[IM.start]⟩,by simp[IM.start]⟩
 simp only[IM.start,List.mem_cons,List.not_mem_nil,or_false] at e
 subst e;exact⟨fun v g=>by simp at g,by simp,by simp,b,h,f,a,Xb _⟩
def IM.bump (M:IM):IM:={ M with top:={ M.top with i:=M.top.i+1 } }
def BuO (o o':Option IM):Prop:=o'=o.map IM.bump
theorem BuO.ite {c:Prop}[Decidable c] {a a' b d:Option IM}(f:c->BuO a a') (e:¬ c->BuO b d):BuO (if c then a else b) (if c then a' else d):=by
 by_cases h:c
 ·rw[Xs h,Xs h];exact f h
 ·rw[Xr h,Xr h];exact e h
theorem QgN {q:Qk × Int × Qc}:BuO (M.got q) (M.bump.got q):=BuO.ite (fun _=>rfl) fun _=>BuO.ite (fun _=>rfl) (fun _=>rfl)
theorem mem_bump:BuO (M.mem x) (M.bump.mem x):=by
 unfold IM.mem;have d:M.bump.top.v=M.top.v:=rfl;have e:M.bump.h=M.h:=rfl;rw[d,e]
 cases QE M.top.v x.a with
 | none=>rfl
 | some a =>
   simp only
   refine BuO.ite (fun _=>BuO.ite (fun _=>rfl) (fun _=>rfl)) fun _=>BuO.ite (fun _=>?_) fun _=>BuO.ite (fun _=>?_) fun _=>BuO.ite (fun _=>BuO.ite (fun _=>rfl) (fun _=>rfl)) fun _=>BuO.ite (fun _=>?_) fun _=>BuO.ite (fun _=>?_) fun _=>BuO.ite (fun _=>?_) fun _=>BuO.ite (fun _=>rfl) (fun _=>rfl)
   ·cases Qq M.top.v x.args with
    | none=>rfl
    | some l=>exact QgN
   ·cases QB M.top.v x.b with
    | none=>rfl
    | some k=>exact BuO.ite (fun _=>rfl) (fun _=>QgN)
   ·cases QE M.top.v x.b with
    | none=>rfl
    | some y=>exact BuO.ite (fun _=>rfl) (fun _=>rfl)
   ·cases QB M.top.v x.b with
    | none=>rfl
    | some k=>exact BuO.ite (fun _=>BuO.ite (fun _=>rfl) fun _=>BuO.ite (fun _=>rfl) (fun _=>rfl)) (fun _=>rfl)
   ·cases QB M.top.v x.b with
    | none=>rfl
    | some k=>cases QB M.top.v x.c with
      | none=>rfl
      | some z=>exact BuO.ite (fun _=>BuO.ite (fun _=>rfl) fun _=>BuO.ite (fun _=>rfl) (fun _=>rfl)) (fun _=>rfl)
theorem Qk0 (c:x.op≠14):BuO (IM.ins m op M x) (IM.ins m op M.bump x):=by
 unfold IM.ins;have g:M.bump.top.v=M.top.v:=rfl;have i:M.bump.h=M.h:=rfl;have d:M.bump.inp=M.inp:=rfl;have f:M.bump.out=M.out:=rfl;rw[g,i,d,f]
 refine BuO.ite (fun _=>rfl) fun _=>BuO.ite (fun _=>?_) fun _=>BuO.ite (fun _=>BuO.ite (fun _=>rfl) (fun _=>rfl)) fun _=>BuO.ite (fun _=>?_) fun _=>BuO.ite (fun _=>?_) fun _=>BuO.ite (fun e=>absurd e c) (fun _=>mem_bump)
 ·cases QB M.top.v x.a with
  | none=>rfl
  | some a=>cases QB M.top.v x.b with
    | none=>rfl
    | some b =>
      simp only
      cases op x.k a b<;>rfl
 ·cases M.inp<;>rfl
 ·cases QB M.top.v x.a with
  | none=>rfl
  | some k=>exact BuO.ite (fun _=>rfl) (fun _=>rfl)
theorem QjF (c:M.done=false):IM.call m M.bump x=(IM.call m M x).map fun N=>if N.done then N.bump else { N with rest:=M.bump.top::M.rest }:=by
 unfold IM.call;have e:M.bump.top.v=M.top.v:=rfl;have d:M.bump.top.r=M.top.r:=rfl;have b:M.bump.rest=M.rest:=rfl;rw[e,d,b]
 cases Zs M.top.r x.regs with
 | none=>rfl
 | some r=>cases Qq M.top.v x.args with
   | none=>rfl
   | some v=>cases m[x.k.toNat]? with
     | none=>rfl
     | some f =>
       simp only
       by_cases h:(r.length:Int)=f.regs/\v.length=f.params.length
       ·rw[Xs h,Xs h]
        by_cases a:M.rest.length+1=40
        ·rw[Xs a,Xs a];rfl
        ·rw[Xr a,Xr a]
         simp[c,IM.bump]
       ·rw[Xr h,Xr h];rfl
end
structure IM.like (N M:IM):Prop where
 h:N.h=M.h
 out:N.out=M.out
 back:N.back=M.back
 fuel:N.fuel=M.fuel
 fin:N.fin=M.fin
 done:N.done=M.done
theorem IM.like.refl (M:IM):M.like M:=⟨Z,Z,Z,Z,Z,Z⟩
def Qlf (g:MG) (w:World) (b most:Nat) (m:List (MFunc 6)) (M:IM) (sc sa:Int) (r:Option IM) (e:Ending) (w':World):Prop:=match r with
 | none=>e=.panicked stuckP/\XTo g w w' b most m { M with fuel:=M.fuel+1 } sc sa
 | some M'=>(e=.returned (.tuple #[])/\XGo g w w' b most m M' sc sa)\/(∃ N k,e=.panicked (Qld k)/\XTo g w w' b most m N sc sa/\(N.over k).like M')
def MakeArr:Prop:=∀ {w:World}{b most n:Nat}{m:List (MFunc 6)}{M:IM}{sc sa:Int}{g:MG}(x:Qx),MAt w b most m M sc sa g->Qat n M->x.op=8 ->
 Calls prog 145 #[Pv b 0,Pv g.t.c 0,Iv x.a,Iv x.b] w fun e w'=>Qo g w b most m M sc sa (M.mem x) e w'
def Qoo (b fu most:Nat) (t:Tmp) (v:Value) (w:World):Prop :=
 v=(([(0,Pv b 0),(4,Pv b 0),(5,Pv b 0),(6,Pv b 5),(7,Pv b 8),(8,Iv (fu:Int)),(9,Pv b 0),(10,Pv b 0),(11,Pv b 3),(12,Iv (most:Int)),(13,.bool (decide ((fu:Int)<most)))]:List (Tmp × Value)).lookup t).getD undef
theorem is0 {b g most:Nat}(k:w6.cell? ⟨b,8,none⟩=some (Iv (g:Int))) (j:w6.cell? ⟨b,3,none⟩=some (Iv (most:Int)))
 (a:Act) (m:Nat) (hn:a.tmps.size=m) (e:59<=m) (l:a.tmps.getD 0 undef=Pv b 0)
 (hend:∀ ops vs w',vs 13=.bool (decide ((g:Int)<most))->Below w6.heap.size w6 w'->wpList prog ops Q (QaI 10 ((Tryz.f54.body.bind (Qf 0)).getD .skip)) (QC a vs [4,5,6,7,8,9,10,11,12,13]) w') :
 Code.wp prog ((Tryz.f54.body.bind (Qf 0)).getD .skip) Q a w6:=by
 conv=>arg 2;whnf
 refine Qj 10 (Qoo b g most) (fun w=>Below w6.heap.size w6 w) (fun w w'=>Below w.heap.size w w') (outs:=[0]) (gs:=[]) (bs:=[true,true,true,true,true,true,true,true,true,true]) (by kernel_rfl) (n:=59) hn e (by kernel_rfl) (by kernel_rfl) ?hR ?hG (Qh Zr 1) ⟨l,Y⟩ ?hA ?hend
 case hR=>exact fun t v w w' _ h=>h
 case hG=>exact Y
 case hend=>exact fun ops vs w' c d=>hend ops vs w' (d 13 (by kernel_rfl)) c
 case hA =>
  repeat
   refine⟨fun a w c d K i=>?_,?_⟩
   focus first
    | obtain⟨f,-⟩:=d
      conv at f=>whnf;rhs;whnf
      have q:=Qn k c;have p:=Qn j c;go_simp;exact i _ _ Zr c Z
    | obtain⟨f,o,-⟩:=d
      conv at f=>whnf;rhs;whnf
      conv at o=>whnf;rhs;whnf
      go_simp;refine i _ _ Zr c ?_;show Value.bool _=Value.bool _;congr 1
      first | rfl | (rw[decide_eq_decide];omega)
  trivial
def QoU (c Z nc cc i:Nat) (pc:Option Addr) (t:Tmp) (v:Value) (w:World):Prop :=
 v=(([(2,Pv c 0),(3,Pv Z 0),(28,Pv c 0),(29,Pv c 0),(30,Pv c 2),(31,Iv (i:Int)),(32,Pv Z 2),(33,.slice pc nc cc),(34,Iv (nc:Int)),(35,.bool ((i:Int)==(nc:Int)))]:List (Tmp × Value)).lookup t).getD undef
theorem is3 {Z j o:Nat}{l:Option Addr}(p:w6.cell? ⟨c,2,none⟩=some (Iv (i:Int))) (q:w6.cell? ⟨Z,2,none⟩=some (.slice l j o))
 (a:Act) (m:Nat) (hn:a.tmps.size=m) (f:59<=m) (u:a.tmps.getD 2 undef=Pv c 0) (s:a.tmps.getD 3 undef=Pv Z 0) :
 Code.wp prog ((Tryz.f54.body.bind (Qf 3)).getD .skip) (fun e a' w'=>e=.normal/\∃ vs,a'=QC a vs [28,29,30,31,32,33,34,35]/\vs 35=.bool ((i:Int)==(j:Int))/\Below w6.heap.size w6 w') a w6:=by
 conv=>arg 2;whnf
 refine Qu (QoU c Z j o i l) (fun w=>Below w6.heap.size w6 w) (fun w w'=>Below w.heap.size w w') (outs:=[2,3]) (gs:=[]) (bs:=[true,true,true,true,true,true,true,true]) (by kernel_rfl) (n:=59) hn f (by kernel_rfl) ?hR ?hG (Qh Zr 1) ⟨u,s,Y⟩ ?hA ?hend
 case hR=>exact fun t v w w' _ h=>h
 case hG=>exact Y
 case hend=>exact fun vs w' b d=>⟨Yz,vs,Yz,d 35 (by kernel_rfl),b⟩
 case hA =>
  repeat
   refine⟨fun a w b d K k=>?_,?_⟩
   focus first
    | obtain⟨g,-⟩:=d
      conv at g=>whnf;rhs;whnf
      have y:=Qn p b;have x:=Qn q b;go_simp;exact k _ _ Zr b Yz
    | obtain⟨g,r,-⟩:=d
      conv at g=>whnf;rhs;whnf
      conv at r=>whnf;rhs;whnf
      go_simp;exact k _ _ Zr b Yz
  trivial
def QoZ (b c Z gc oc nc cc i:Nat) (x:Qx) (ip:IP) (t:Tmp) (v:Value) (w:World):Prop :=
 v=(([(0,Pv b 0),(2,Pv c 0),(3,Pv Z 0),(41,Pv b 0),(42,Pv c 0),(43,Pv Z 2),(44,.slice (some ⟨gc,oc,none⟩) nc cc),(45,Pv c 0),(46,Pv c 0),(47,Pv c 2),(48,Iv (i:Int)),(49,Pv gc (oc+i*8)),(50,.agg (Zc x ip))]:List (Tmp × Value)).lookup t).getD undef
theorem is5 {b Z k oc p q:Nat}{x:Qx}{g:IP}(C:w6.cell? ⟨Z,2,none⟩=some (.slice (some ⟨k,oc,none⟩) p q)) (r:w6.cell? ⟨c,2,none⟩=some (Iv (i:Int))) (s:Hid (w6.rangeAt k (oc+i*8) (Zc x g).toList)) (hi:(i:Int)<p)
 (a:Act) (m:Nat) (hn:a.tmps.size=m) (l:59<=m) (u:a.tmps.getD 0 undef=Pv b 0) (A:a.tmps.getD 2 undef=Pv c 0) (y:a.tmps.getD 3 undef=Pv Z 0)
 (hend:∀ ops vs w',vs 41=Pv b 0->vs 42=Pv c 0->vs 50=.agg (Zc x g)->Below w6.heap.size w6 w'->wpList prog ops Q (QaI 10 ((Tryz.f54.body.bind (Qf 5)).getD .skip)) (QC a vs [41,42,43,44,45,46,47,48,49,50]) w') :
 Code.wp prog ((Tryz.f54.body.bind (Qf 5)).getD .skip) Q a w6:=by
 conv=>arg 2;whnf
 refine Qj 10 (QoZ b c Z k oc p q i x g) (fun w=>Below w6.heap.size w6 w) (fun w w'=>Below w.heap.size w w') (outs:=[0,2,3]) (gs:=[]) (bs:=[true,true,true,true,true,true,true,true,true,true]) (by kernel_rfl) (n:=59) hn l (by kernel_rfl) (by kernel_rfl) ?hR ?hG (Qh Zr 1) ⟨u,A,y,Y⟩ ?hA ?hend
 case hR=>exact fun t v w w' _ h=>h
 case hG=>exact Y
 case hend=>exact fun ops vs w' d e=>hend ops vs w' (e 41 (by kernel_rfl)) (e 42 (by kernel_rfl)) (e 50 (by kernel_rfl)) d
 case hA =>
  repeat
   refine⟨fun a w d e K o=>?_,?_⟩
   focus first
    | obtain⟨f,-⟩:=e
      conv at f=>whnf;rhs;whnf
      have E:=Qn C d;have D:=Qn r d;go_simp;exact o _ _ Zr d Yz
    | obtain⟨f,-⟩:=e
      conv at f=>whnf;rhs;whnf
      refine wp_load_mid 78 (.tmp 49) Yz k (oc+i*8) f (Zc x g).toList _ (fun j v B=>Qn (s.out j v B) d) underlying78 Yz pSizeN ?_;exact o _ _ Zr d Yz
    | obtain⟨f,z,-⟩:=e
      conv at f=>whnf;rhs;whnf
      conv at z=>whnf;rhs;whnf
      go_simp;exact o _ _ Zr d Yz
  trivial
section
variable {w w' w2:World}{b most n:Nat}{m:List (MFunc 6)}{M M' N:IM}{sc sa:Int}{g g1:MG}{e:Ending}
theorem MAt.fuelC (S:MAt w b most m M sc sa g):XTo g w (w.setCell ⟨b,8,none⟩ (Iv ((M.fuel:Int)+1))) b most m { M with fuel:=M.fuel+1 } sc sa:=by
 refine S.reBox (M':={ M with fuel:=M.fuel+1 }) (sc':=sc) (sa':=sa) Z Z Z (by simp) (fun k a c=>Xd _ _ _ _ c) ⟨Z,Z,Z,Z⟩ (pi:=g.pi) (ci:=g.ci) (vb:=g.vb) ⟨S.inp,S.inpC⟩ (ZG (fun k a d=>Xd _ _ _ _ (fun (e:k=b)=>a (e ▸ S.ob.1))) (fun _ h _=>h) S.back) ?_;rw[Qm S.box 8 _]
 simp
theorem Qk4 (f:MakeArr) (S:MAt w b most m M sc sa g) (I:Qat n M){x:Qx}(a:IP)(hi:IIn w Q2 x a) (k:x.form m.length=0) (d:x.op≠14) :
 Calls prog 88 #[Pv b 0,Pv g.t.c 0,.agg (Zc x a)] w fun e w'=>Qo g w b most m M sc sa (IM.ins m aOp M x) e w':=by
 obtain⟨p,l,-⟩:=QdC k
 have j:x.op=1\/x.op=2\/x.op=3\/x.op=4\/x.op=5\/x.op=6\/x.op=7\/x.op=8\/x.op=9\/x.op=10\/x.op=11\/x.op=12\/x.op=13:=by omega
 rcases j with h | h | h | h | h | h | h | h | h | h | h | h | h
 ·exact Qnp S I a h
 ·exact QnM S I a h
 ·exact QnE S I a h
 ·exact Qnv S I a h
 ·exact Qno S I a h hi.args (by have:=l h;omega)
 ·exact Qnq S I a h
 ·exact Qnl S I a h
 ·exact Qnr S I a h (fun o i=>f x (S.below i) I h)
 ·exact Qnw S I a h
 ·exact Qm3 S I a h
 ·exact QmP S I a h
 ·exact Qm5 S I a h
 ·exact Qme S I a h
end
def QjY (w6:World) (hh:Qc) (OO:Nat->Prop) (b Y bh:Nat) (nn yk yr yt yn cd:Int) (rv:Qk) (RR:Qk->Prop) (S:Nat->Bool) (t:Tmp) (v:Value) (w:World):Prop :=
 match ([(32,fun _ v _=>(fun v=>v=.tuple #[QU rv,.int .i64 cd]) v),(25,fun _ v _=>(fun v=>v=.tuple #[QU rv,.int .i64 cd]) v),(33,fun _ v _=>(fun v=>v=QU rv) v),(34,fun _ v _=>(fun v=>v=.int .i64 cd) v),(11,fun _ v _=>(fun v=>v=.int .i64 cd) v),(10,QaC w6 (fun Z w=>∃ h',h'=hh/\QeU w6 w bh OO h' Z) 6 11 (fun r=>RR r))]:List (Tmp × ((Nat->Bool)->Value->World->Prop))).lookup t with
 | some p=>p S v w
 | none=>v=(([(0,.pointer (some ⟨b,0,none⟩)),(8,.pointer (some ⟨Y,0,none⟩)),(9,.int .i64 nn),(26,.pointer (some ⟨b,0,none⟩)),(27,.pointer (some ⟨b,0,none⟩)),(28,.pointer (some ⟨b,0,none⟩)),(29,.pointer (some ⟨bh,0,none⟩)),(30,.agg #[.int .i64 yk,.int .i64 yr,.int .i64 yt,.int .i64 yn]),(31,.int .i64 nn)]:List (Tmp × Value)).lookup t).getD undef
theorem Qdf {a:Qc}{Y:Nat}{f e k j g d:Int}{l:Qk}{RR:Qk->Prop}{S:Nat->Bool}{t:Tmp}(m:HPs w6 (fun w=>∃ h',h'=a/\HTo w6 w bh OO h') (fun Z w=>∃ h',h'=a/\QeU w6 w bh OO h' Z))(hi:i≠6) (o:i≠11) (n:Below w.heap.size w w') (c:QjY w6 a OO b Y bh f e k j g d l RR S t u w):QjY w6 a OO b Y bh f e k j g d l RR (ZF i S) t u w':=by
 unfold QjY at c |-;refine Qhs ?_ c;exact⟨fun _ h=>h,fun _ h=>h,fun _ h=>h,fun _ h=>h,fun _ h=>h,fun _ c=>c.on m hi o n,Yy⟩
theorem QnJ {c:Qc}{Y:Nat}{f e j i g d:Int}{l:Qk}{RR:Qk->Prop}{S:Nat->Bool}{t:Tmp}(k:∀ Z,w6.heap.size<=Z->Z<w.heap.size->w'.heap[Z]?=w.heap[Z]?/\(fun Z w=>∃ h',h'=c/\QeU w6 w bh OO h' Z) Z w') (a:QjY w6 c OO b Y bh f e j i g d l RR S t u w):QjY w6 c OO b Y bh f e j i g d l RR (ZF 6 S) t u w':=by
 unfold QjY at a |-;refine Qhs ?_ a;exact⟨fun _ h=>h,fun _ h=>h,fun _ h=>h,fun _ h=>h,fun _ h=>h,fun _ a=>(by simp only at a |-;exact a.did (by decide) k),Yy⟩
theorem QnT {c:Qc}{Y:Nat}{g f k j i d:Int}{l:Qk}{RR:Qk->Prop}{S:Nat->Bool}{t:Tmp}(n:HPs w6 (fun w=>∃ h',h'=c/\HTo w6 w bh OO h') (fun Z w=>∃ h',h'=c/\QeU w6 w bh OO h' Z)){Z:Nat}{r:Qk}(o:S 11=false) (q:S 6=true) (m:(fun r=>RR r) r) (p:t=10->u=Pv Z 0) (a:QjY w6 c OO b Y bh g f k j i d l RR S t u w):QjY w6 c OO b Y bh g f k j i d l RR (ZF 11 S) t u (QlB w Z r):=by
 unfold QjY at a |-;refine Qhs ?_ a;exact⟨fun _ h=>h,fun _ h=>h,fun _ h=>h,fun _ h=>h,fun _ h=>h,fun e a=>(by obtain rfl:=p e;simp only at a |-;exact a.fill n o (by decide) r m),Yy⟩
theorem ia2 {C:Qc}{Y:Nat}{I J N M L F:Int}{D:Qk}{RR:Qk->Prop}(U:RR D) (T:∀ x,OO x->x<w6.heap.size) (q0:w6.cell? ⟨b,0,none⟩=some (Pv bh 0)) (y0:w6.cell? ⟨Y,0,none⟩=some (Iv J)) (y1:w6.cell? ⟨Y,1,none⟩=some (Iv N)) (y2:w6.cell? ⟨Y,2,none⟩=some (Iv M)) (y3:w6.cell? ⟨Y,3,none⟩=some (Iv L)) (CT:Hid (∀ wx,Below w6.heap.size w6 wx->Calls prog 200 #[Pv bh 0,.agg #[Iv J,Iv N,Iv M,Iv L],Iv I] wx fun e w'=>e=.returned (.tuple #[QU D,Iv F])/\HTo wx w' bh OO C)) (k:HPs w6 (fun w=>∃ h',h'=C/\HTo w6 w bh OO h') (fun Z w=>∃ h',h'=C/\QeU w6 w bh OO h' Z))
 (a:Act) (m:Nat) (hn:a.tmps.size=m) (P:41<=m) (h0:a.tmps.getD 0 undef=Pv b 0) (h8:a.tmps.getD 8 undef=Pv Y 0) (h9:a.tmps.getD 9 undef=Iv I)
 (hX:∀ ch a' w',a'.defers=a.defers->(fun ch w=>False) ch w'->Q (.panic ch) a' w')
 (hend:∀ vs w',(fun v=>v=Iv F) (vs 11)->(∃ Z,vs 10=Pv Z 0/\w6.heap.size<=Z/\(∃ r:Qk,(fun r=>RR r) r/\Blk w' Z (Ql6 r) 211)/\(fun Z w=>∃ h',h'=C/\QeU w6 w bh OO h' Z) Z w')->(fun w=>∃ h',h'=C/\HTo w6 w bh OO h') w'->Q .normal (QC a vs [26,27,28,29,30,31,32,25,33,34,10,11]) w') :
 Code.wp prog ((Tryz.f145.body.bind (Qf 2)).getD .skip) Q a w6:=by
 conv=>arg 2;whnf
 refine ZH (QjY w6 C OO b Y bh I J N M L F D RR) (WY w6 (fun w=>∃ h',h'=C/\HTo w6 w bh OO h') 6) (fun ch w=>False) hX (outs:=[0,8,9]) (gs:=[]) (bs:=[true,true,true,true,true,true,true,true,true,true,true,true,true]) (by kernel_rfl) (n:=41) hn P (by kernel_rfl) ?hG (.inl ⟨Yz,Qh Zr 1⟩) ⟨h0,h8,h9,Yy⟩ ?hA ?hend
 case hG=>exact fun S=>trivial
 case hend=>exact fun vs S w' y d f=>hend vs w' (f 11 (by kernel_rfl)) (QaC.full (show QaC w6 (fun Z w=>∃ h',h'=C/\QeU w6 w bh OO h' Z) 6 11 (fun r=>RR r) S (vs 10) w' from f 10 (by kernel_rfl)) (y 11 (by decide)) (y 6 (by decide))) (d.fin (y 6 (by decide)))
 case hA =>
  refine⟨fun S a w o s p d f K j=>?_,?_⟩
  ·obtain⟨c,-⟩:=f
   have l:S 6=false:=QdO p (q:=6) Yz (by kernel_rfl) o;have u:=d.pre l;have c:a.tmps.getD 0 undef=Pv b 0:=c;go_simp;exact j _ _ (fun t _ h=>Qdf k (i:=0) (by decide) (by decide) Zr h) (d.on k (i:=0) (by decide) Zr) Yz
  refine⟨fun S a w o s p d f K j=>?_,?_⟩
  ·obtain⟨c,-⟩:=f
   have l:S 6=false:=QdO p (q:=6) Yz (by kernel_rfl) o;have u:=d.pre l;have c:a.tmps.getD 26 undef=Pv b 0:=c;go_simp;exact j _ _ (fun t _ h=>Qdf k (i:=1) (by decide) (by decide) Zr h) (d.on k (i:=1) (by decide) Zr) Yz
  refine⟨fun S a w o s p d f K j=>?_,?_⟩
  ·obtain⟨c,-⟩:=f
   have l:S 6=false:=QdO p (q:=6) Yz (by kernel_rfl) o;have u:=d.pre l;have c:a.tmps.getD 27 undef=Pv b 0:=c;go_simp;exact j _ _ (fun t _ h=>Qdf k (i:=2) (by decide) (by decide) Zr h) (d.on k (i:=2) (by decide) Zr) Yz
  refine⟨fun S a w o s p d f K j=>?_,?_⟩
  ·obtain⟨c,-⟩:=f
   have l:S 6=false:=QdO p (q:=6) Yz (by kernel_rfl) o;have u:=d.pre l;have c:a.tmps.getD 28 undef=Pv b 0:=c;have X:=Qn q0 u;go_simp;exact j _ _ (fun t _ h=>Qdf k (i:=3) (by decide) (by decide) Zr h) (d.on k (i:=3) (by decide) Zr) Yz
  refine⟨fun S a w o s p d f K j=>?_,?_⟩
  ·obtain⟨c,-⟩:=f
   have l:S 6=false:=QdO p (q:=6) Yz (by kernel_rfl) o;have u:=d.pre l;have c:a.tmps.getD 8 undef=Pv Y 0:=c;have X:=Qn y0 u;have c1:=Qn y1 u;have c2:=Qn y2 u;have c3:=Qn y3 u;go_simp;exact j _ _ (fun t _ h=>Qdf k (i:=4) (by decide) (by decide) Zr h) (d.on k (i:=4) (by decide) Zr) Yz
  refine⟨fun S a w o s p d f K j=>?_,?_⟩
  ·obtain⟨c,-⟩:=f
   have l:S 6=false:=QdO p (q:=6) Yz (by kernel_rfl) o;have u:=d.pre l;have c:a.tmps.getD 9 undef=Iv I:=c;go_simp;exact j _ _ (fun t _ h=>Qdf k (i:=5) (by decide) (by decide) Zr h) (d.on k (i:=5) (by decide) Zr) Yz
  refine⟨fun S a w o s p d f K j=>?_,?_⟩
  ·obtain⟨c,B,W,-⟩:=f
   have u:=d.pre o;have c:a.tmps.getD 29 undef=Pv bh 0:=c;have B:a.tmps.getD 30 undef=.agg #[Iv J,Iv N,Iv M,Iv L]:=B;have W:a.tmps.getD 31 undef=Iv I:=W;go_simp;refine Xm (CT.out w u) ?_;rintro r7 w7 ⟨rfl,t7⟩;obtain⟨t8,t9⟩:=HTo.from u T t7
   go_simp;exact j _ _ (fun t _ h=>QnJ (fun Z hz hl=>⟨(t9 Z hz hl).1,_,Yz,(t9 Z hz hl).2⟩) h) (WY.did ⟨_,Yz,t8⟩) Yz
  refine⟨fun S a w o s p d f K j=>?_,?_⟩
  ·obtain⟨c,-⟩:=f
   have c:(fun v=>v=.tuple #[QU D,Iv F]) (a.tmps.getD 32 undef):=c;generalize z:a.tmps.getD 32 undef=A at c;subst c;go_simp;exact j _ _ (fun t _ h=>Qdf k (i:=7) (by decide) (by decide) Zr h) (d.on k (i:=7) (by decide) Zr) Yz
  refine⟨fun S a w o s p d f K j=>?_,?_⟩
  ·obtain⟨c,-⟩:=f
   have c:(fun v=>v=.tuple #[QU D,Iv F]) (a.tmps.getD 25 undef):=c;generalize z:a.tmps.getD 25 undef=A at c;subst c;go_simp;exact j _ _ (fun t _ h=>Qdf k (i:=8) (by decide) (by decide) Zr h) (d.on k (i:=8) (by decide) Zr) Yz
  refine⟨fun S a w o s p d f K j=>?_,?_⟩
  ·obtain⟨c,-⟩:=f
   have c:(fun v=>v=.tuple #[QU D,Iv F]) (a.tmps.getD 25 undef):=c;generalize z:a.tmps.getD 25 undef=A at c;subst c;go_simp;exact j _ _ (fun t _ h=>Qdf k (i:=9) (by decide) (by decide) Zr h) (d.on k (i:=9) (by decide) Zr) Yz
  refine⟨fun S a w o s p d f K j=>?_,?_⟩
  ·clear f;have E:S 11=false:=QdO p (q:=11) Yz (by kernel_rfl) o;go_simp;exact j _ _ (fun t _ h=>Qdf k (i:=10) (by decide) (by decide) (Zb _ _) h) (d.on k (i:=10) (by decide) (Zb _ _)) (QaC.new k d E (i:=10) (by decide) (by decide))
  refine⟨fun S a w o s p d f K j=>?_,?_⟩
  ·obtain⟨c,B,-⟩:=f
   have c:QaC w6 (fun Z w=>∃ h',h'=C/\QeU w6 w bh OO h' Z) 6 11 (fun r=>RR r) S (a.tmps.getD 10 undef) w:=c;generalize z:a.tmps.getD 10 undef=A at c;have B:(fun v=>v=QU D) (a.tmps.getD 33 undef):=B;generalize O:a.tmps.getD 33 undef=V at B;have E:S 11=false:=o;have H:S 6=true:=Qkt p s (by kernel_rfl);have kb:=c;obtain⟨Z,rfl,hZ,R,-,-⟩:=c
   have g:=R E;have B:V=QU D:=B;subst B;have hr:=U;obtain⟨r,G⟩:∃ r,D=r:=⟨_,Yz⟩
   rw[G] at O hr
   clear G;have X:=Qa g 0 _ Yz;have c1:=Qa g 1 _ Yz;have c2:=Qa g 2 _ Yz;have c3:=Qa g 3 _ Yz;have z0:=Qd g 0;have z1:=Qd g 1;have z2:=Qd g 2;have z3:=Qd g 3;go_simp;exact j undef _ (fun t _ h=>QnT k E H hr (fun e=>by subst e;exact z) h) (QaC.fillW k kb H (by decide) r) Yy
  refine⟨fun S a w o s p d f K j=>?_,?_⟩
  ·obtain⟨c,-⟩:=f
   have c:(fun v=>v=Iv F) (a.tmps.getD 34 undef):=c;generalize z:a.tmps.getD 34 undef=A at c;subst c;go_simp;exact j _ _ (fun t _ h=>Qdf k (i:=12) (by decide) (by decide) Zr h) (d.on k (i:=12) (by decide) Zr) Yz
  trivial
theorem makeArr_any:MakeArr:=by
 intro w b ab n m M sc sa g x S I aa;have E:Hid (M.mem x=match QE M.top.v x.a with | none=>none | some a=>match QB M.top.v x.b with | none=>none | some k=>if k<0\/15<k then some (M.over 3) else M.got (M.h.array a k)):=by show _=_;unfold IM.mem;cases QE M.top.v x.a<;>simp[aa]<;>cases QB M.top.v x.b<;>rfl
 generalize M.mem x=u at E |-;have HS:=Qb S;have HI:=Qb I;have hl:=I.len;have Q:=Qb (Z1 S.top (by omega) x.a);have U:Hid (∀ D,Below w.heap.size w D->Calls prog 133 #[Pv g.t.c 0,Iv x.b] D fun e T=>Ask (QB M.top.v x.b) (.int .i64) e/\Below D.heap.size D T):=fun D bx=>ZN (S.top.below bx) (by omega) x.b;clear S I;generalize x.a=xa at Q E |-;generalize x.b=xb at U E |-;clear aa;go_enter func145,ntmps145
 cases hq:QE M.top.v xa with
 | none =>
   rw[hq] at Q E
   clear hl U hq;go_wp2_with fail
   refine Q.out.mono ?_;rintro d w5 ⟨B,L⟩;have B:d=.panicked stuckP:=B;subst B;exact⟨Yz,by rw[E.out];exact Qo.stuck (XTo.same HS.out L)⟩
 | some y =>
 rw[hq] at Q E
 have HY:=Qb (HI.out.val hq);clear hq
 cases hq:QB M.top.v xb with
 | none =>
   rw[hq] at U E
   clear hl hq;go_wp2_with (go_at_call 140;refine Q.out.mono ?_;rintro d w5 ⟨B,L⟩;have B:d=.returned (QU y):=B;subst B)
   refine(U.out w5 L).mono ?_
   rintro d w6 ⟨C,b6⟩;have C:d=.panicked stuckP:=C;subst C;exact⟨Yz,by rw[E.out];exact Qo.stuck (XTo.same HS.out (L.trans (b6.mono L.size)))⟩
 | some q =>
 rw[hq] at U E
 clear hq;obtain⟨i,s,p,j⟩:=y
 have E2:Hid (u=if q<0\/15<q then some (M.over 3) else M.got (M.h.array ⟨i,s,p,j⟩ q)):=E.out;clear E
 go_upto_region 1 with (first
  | (go_at_call 140;refine Q.out.mono ?_;rintro d w5 ⟨B,L⟩;have B:d=.returned (.agg #[.int .i64 i,.int .i64 s,.int .i64 p,.int .i64 j]):=B;subst B;have G:=Qb L;clear L Q)
  | (go_at_call 133;refine(U.out w5 G.out).mono ?_;rintro d w6 ⟨C,b6⟩;have C:d=.returned (.int .i64 q):=C;subst C;have B6:=Qb (G.out.trans (b6.mono G.out.size));clear b6 G U))
 have B7:=Qb (B6.out.trans ((Zb w6 (.cells #[Iv i,Iv s,Iv p,Iv j] 211)).mono B6.out.size));have K:=Qb (Qe w6 #[Iv i,Iv s,Iv p,Iv j] 211);generalize w6.alloc (.cells #[Iv i,Iv s,Iv p,Iv j] 211)=w7 at B7 K |-;generalize w6.heap.size=Y at K |-;clear B6;by_cases hb:q<0\/15<q
 ·have F:Hid (u=some (M.over 3)):=by show _=_;rw[E2.out,Xs hb]
  clear E2 HY K HI;by_cases o:q<0
  ·have d0:decide (q>=0)=false:=by simpa using o
   clear hb;go_wp2_with fail
   refine(QaS _ _).mono ?_
   rintro d T ⟨rfl,A⟩;subst A;exact⟨Yz,by rw[F.out];exact Qo.end_ (XTo.same HS.out B7.out)⟩
  ·have z:15<q:=by omega
   have d0:decide (q>=0)=true:=by simpa using o
   have d1:decide (q<=15)=false:=by simpa using z
   clear hb o z;go_wp2_with fail
   refine(QaS _ _).mono ?_
   rintro d T ⟨rfl,A⟩;subst A;exact⟨Yz,by rw[F.out];exact Qo.end_ (XTo.same HS.out B7.out)⟩
 ·have o:0<=q:=by omega
  have z:q<=15:=by omega
  have F:Hid (u=M.got (M.h.array ⟨i,s,p,j⟩ q)):=by show _=_;rw[E2.out,Xr hb]
  obtain⟨k,rfl⟩:∃ k:Nat,q=(k:Int):=⟨q.toNat,by omega⟩
  have hk:k<=15:=by omega
  have S7:=Qb (HS.out.below B7.out);have T7:=Qb (HS.out.stepB B7.out);have CT:Hid (∀ D,Below w7.heap.size w7 D->Calls prog 200 #[Pv g.bh 0,.agg #[Iv i,Iv s,Iv p,Iv j],Iv (k:Int)] D fun e T=>e=.returned (.tuple #[QU (M.h.array ⟨i,s,p,j⟩ k).1,Iv (M.h.array ⟨i,s,p,j⟩ k).2.1])/\HTo D T g.bh g.O (M.h.array ⟨i,s,p,j⟩ k).2.2):=fun D bx=>HI.out.arr (S7.out.heap.below bx) (y:=⟨i,s,p,j⟩) HY.out.1 hk;have SM:=Qb (QhZ (h:=M.h) (v:=⟨i,s,p,j⟩) (n:=(k:Int)));clear hb E2 hk;generalize M.h.array ⟨i,s,p,j⟩ (k:Int)=tu at F CT SM;obtain⟨⟨W,X,V,N⟩,cd,th⟩:=tu
  simp only at F CT SM
  have y0:w7.cell? ⟨Y,0,none⟩=some (Iv i):=Qa K.out 0 _ Yz;have y1:w7.cell? ⟨Y,1,none⟩=some (Iv s):=Qa K.out 1 _ Yz;have y2:w7.cell? ⟨Y,2,none⟩=some (Iv p):=Qa K.out 2 _ Yz;have y3:w7.cell? ⟨Y,3,none⟩=some (Iv j):=Qa K.out 3 _ Yz;have q0:=S7.out.heapC;have d0:decide ((k:Int)>=0)=true:=Xt o;have d1:decide ((k:Int)<=15)=true:=by simpa using z
  clear o z;go_upto_region 2 with (go_at_call 84;refine(Qbd _ _).mono ?_;rintro d T ⟨rfl,A⟩;have A:=A.symm;subst A)
  refine ia2 (RR:=fun r=>r=⟨W,X,V,N⟩) Yz S7.out.heap.lt q0 y0 y1 y2 y3 CT (QgX _ _ _ (fun h'=>h'=th) S7.out.heap.lt) _ _ Yz (Xg (by kernel_rfl)) Yz Yz Yz ?_ ?_
  ·rintro ch a' P ac ⟨⟩
  ·rintro vs P f ⟨Z,J,hZ,⟨r,hr,H⟩,-⟩ ⟨h9,hh,t9⟩;have f:vs 11=Iv cd:=f;have hr:r=⟨W,X,V,N⟩:=hr;simp only[QC,Act.put,List.setIfInBounds_toArray,List.set_cons_zero,List.set_cons_succ,f,J]
   subst hr;subst hh;have R9:=Qb (XTo.then T7.out Yz Yz (S7.out.toHeap t9));have Y:=Qb H;clear f J H t9 CT q0 y0 y1 y2 y3 d0 d1 S7 B7 K T7 HY;go_upto_region 3 with fail
   go_wp2_with fail
   refine(QaW _ _ _ _).mono ?_
   rintro d T ⟨A,ha⟩;have A:=A.symm;subst A;rcases ha with ⟨o,rfl⟩|⟨o,h1,rfl⟩|⟨o,h1,rfl⟩
   rotate_left
   ·have E4:u=some (M.over 6):=by rw[F.out];unfold IM.got;rw[Xs h1]
    exact⟨Yz,by rw[E4];exact Qo.end_ (by have:=R9.out;rw[SM.out o] at this;exact this)⟩
   ·have E4:u=none:=by rw[F.out];unfold IM.got;rw[Xr h1,Xr o]
    exact⟨Yz,by rw[E4];exact Qo.stuck (by have:=R9.out;rw[SM.out o] at this;exact this)⟩
   have E4:Hid (u=some (IM.push { M with h:=h9 } [⟨W,X,V,N⟩])):=by show _=_;rw[F.out];unfold IM.got;simp only;rw[Xr (by omega),Xs o]
   obtain⟨g5,S5,T5,c5,f5⟩:=R9.out
   have y0:P.cell? ⟨Z,0,none⟩=some (Iv W):=Qa Y.out 0 _ Yz;have y1:P.cell? ⟨Z,1,none⟩=some (Iv X):=Qa Y.out 1 _ Yz;have y2:P.cell? ⟨Z,2,none⟩=some (Iv V):=Qa Y.out 2 _ Yz;have y3:P.cell? ⟨Z,3,none⟩=some (Iv N):=Qa Y.out 3 _ Yz;have G:=Zb P (.cells #[Iv W,Iv X,Iv V,Iv N] 211);have CM:=Qb (fun cp=>Z3 (S5.below G) (l:=[⟨W,X,V,N⟩]) (cp:=cp) Yz (Qh2 P W X V N) (by show M.top.v.length+1<=1000000;omega));rw[c5] at CM
   have T6:=Qb (T5.trans (S5.stepB G));have HC:=Qb (Xh c5 f5);clear G Y o F S5 T5 R9 SM c5 f5;go_wp2_with fail
   refine(CM.out _).mono ?_
   rintro d w6 ⟨rfl,C⟩;have R:=Qb (XTo.then T6.out HC.out.1 HC.out.2 C);clear C CM T6 y0 y1 y2 y3;go_wp2
   exact Xz (v:=.tuple #[]) (by simp[results,results145,go_sem]) Yz (by rw[E4.out];exact Qo.go R.out)
section
variable {w w' w2:World}{b most n:Nat}{m:List (MFunc 6)}{M M' N:IM}{sc sa:Int}{g g1:MG}{e:Ending}
theorem vsizeE:(prog.info? 84).map (·.size)=some 9:=by kernel_rfl
theorem QdG.stp {f:IM}(n:f={ M with fuel:=M.fuel+1 }) (T:QZ g.A g1.A w w2) (i:g1.t.c=g.t.c) (j:g1.fs=g.fs){r:Option IM}(h:QdG g1 w2 b most m f sc sa r e w'):Qlf g w b most m M sc sa r e w':=by
 subst n
 cases r with
 | none=>exact⟨h.1,XTo.then T i j h.2⟩
 | some M' =>
   rcases h with ⟨d,a⟩|⟨N,k,d,a,l⟩
   ·exact .inl ⟨d,XGo.then T a⟩
   ·exact .inr ⟨N,k,a,XTo.then T i j l,d ▸ IM.like.refl _⟩
theorem QjN (CM:MakeArr) (S:MAt w b most m M sc sa g) (K:IOk m n M) (hn:n<=800000) (hm:(modFault m).1=0) (bi:M64 m) (bv:M.fuel<=most) (bn:most<=100000) (a3:M.done=false) :
 Calls prog 54 #[Pv b 0] w fun e w'=>Qlf g w b most m M sc sa (IM.step m aOp most M) e w':=by
 obtain⟨-,-,-,fn,o,hf,hb,hi⟩:=K.fr M.top (by simp)
 have hR:=(Zk hm).2 fn (Zm hf);have hB:=hR.blocks o (Zm hb);have ay:=(Zk hm).1.2
 have E:Hid (IM.step m aOp most M=if M.fuel=most then some (M.over 7) else match o.code[M.top.i]? with | some x=>IM.ins m aOp (IM.bump { M with fuel:=M.fuel+1 }) x | none=>IM.endd fn { M with fuel:=M.fuel+1 } o.fin):=by
  show _=_;unfold IM.step;rw[hf]
  simp only
  rw[hb]
  rfl
 have K1:IOk m n { M with fuel:=M.fuel+1 }:=⟨K.hb,K.hg,K.fr,K.inp,K.out,K.deep⟩;have q8:w.cell? ⟨b,8,none⟩=some (Iv M.fuel):=Qa S.box 8 _ Yz;have q3:w.cell? ⟨b,3,none⟩=some (Iv most):=Qa S.box 3 _ Yz;have HS:=Qb S;have HK:=Qb (Xh K K1);have D:=Qb (Xh hf hb);have C:=Qb (Xh hR hB);have HM:=Qb (Xh hm bi);have HC:Hid MakeArr:=CM;have HI:=Qb hi;have HN:=Qb (Xh hn ay);have HD:=Qb (Xh a3 bn);generalize IM.step m aOp most M=y at E |-;clear S K K1 hf hb hR hB hm bi hi hn ay CM a3;go_enter func54,ntmps54
 go_upto_region 0 with fail
 refine is0 q8 q3 _ _ Yz (Xg (by kernel_rfl)) Yz ?_;rintro ae vs w5 O b5;show wpList _ ae _ [_] (QC _ vs [4,5,6,7,8,9,10,11,12,13]) w5;simp only[QC,Act.put,List.setIfInBounds_toArray,List.set_cons_zero,List.set_cons_succ,O]
 have B5:=Qb b5;clear O b5 q8 q3;by_cases L:M.fuel=most
 ·have d1:decide ((M.fuel:Int)<most)=false:=Xu (by omega);have E2:Hid (y=some (M.over 7)):=by show _=_;rw[E.out,Xs L]
  rw[d1]
  clear E d1 L;go_wp2_with fail
  refine(QaS _ _).mono ?_
  rintro Q w' ⟨rfl,hw⟩;subst hw;exact⟨Yz,by rw[E2.out];exact .inr ⟨M,7,Yz,XTo.same HS.out B5.out,IM.like.refl _⟩⟩
 have d1:decide ((M.fuel:Int)<most)=true:=Xt (by omega);have E2:Hid (y=match o.code[M.top.i]? with | some x=>IM.ins m aOp (IM.bump { M with fuel:=M.fuel+1 }) x | none=>IM.endd fn { M with fuel:=M.fuel+1 } o.fin):=by show _=_;rw[E.out,Xr L]
 rw[d1]
 clear E d1 L;have S5:=Qb (HS.out.below B5.out);have q8:w5.cell? ⟨b,8,none⟩=some (Iv M.fuel):=Qa S5.out.box 8 _ Yz;have z8:=Qd S5.out.box 8;obtain⟨g6,J,T6,c6,f6⟩:=S5.out.fuelC
 have J:=Qb J;have T6:=Qb ((HS.out.stepB B5.out).trans T6);have q:=Qb (Xh c6 f6);have bu:M.fuel<=100000:=by omega
 clear S5 c6 f6 B5;generalize ak:({ M with fuel:=M.fuel+1 }:IM)=f at J E2 HK;have a2:=Qb ak;have l:Hid (f.top=M.top/\f.rest=M.rest/\f.done=false):=by subst ak;exact⟨Yz,Yz,HD.out.1⟩
 clear ak;generalize ab:M.fuel=fu at *;have bf:=Qb ab;clear ab;go_upto_region 2 with (go_at_call 84;refine(Qbd _ _).mono ?_;rintro Q w' ⟨rfl,hw⟩;have hw:=hw.symm;subst hw)
 generalize w5.setCell ⟨b,8,none⟩ (Iv ((fu:Int)+1))=w6 at J T6 |-;clear q8 z8;have bw:f.rest.length<=39:=HK.out.2.deep;have CT:=Qb (QcO J.out (by omega));have CB:Hid (∀ wx,Below w6.heap.size w6 wx->Calls prog 86 #[Pv b 0] wx fun e w'=>Qiw g6.A o wx e w'):=fun wx bx=>Qd5 (J.out.below bx) (by omega) (fn:=fn) (by rw[l.out.1];exact D.out.1) (by rw[l.out.1];exact D.out.2) ⟨by have:=HN.out.2;omega,by have:=C.out.1.many.2;omega⟩;go_wp2_with (go_at_call 85;refine CT.out.mono ?_;rintro Q w7 ⟨rfl,b7⟩)
 refine(CB.out w7 b7).mono ?_
 rintro Q w8 ⟨p,rfl,bh,b8⟩;have B8:=Qb (b7.trans (b8.mono b7.size));have bg:=Qb bh;have an:=Qe w8 zeroB 86;have BZ:=Qb (QiO an o p);have B9:=Qb (Qb5 (Nat.le_refl w8.heap.size) (Qcd o p).toList 0 (Zb w8 (.cells zeroB 86)));have TH:=Qb (QeP an Yz o p);have SZ:=Qb (show (prog.info? 86).map (·.size)=some (Qcd o p).size from pSizeB);have ON:=Qb (Qiq o p);obtain⟨cs,aj⟩:∃ cs,Qcd o p=cs:=⟨_,Yz⟩
 rw[aj] at BZ B9 TH SZ ON |-
 have EC:=Qb aj;clear aj an bh b7 b8 CT CB;go_upto_region 3 with (refine wpList_store_mid Yz 86 (.tmp 3) (.tmp 27) Yz w8.heap.size 0 cs Yz Yz TH.out SZ.out ON.out ?_)
 generalize (w8.alloc (.cells zeroB 86)).setCells w8.heap.size 0 cs.toList=w9 at BZ B9 |-;obtain rfl:=EC.out;have S9:=Qb (J.out.below (B8.out.trans (B9.out.mono B8.out.size)));have T9:=Qb (T6.out.trans (J.out.stepB (B8.out.trans (B9.out.mono B8.out.size))));have aa:=Qb (bg.out.below B9.out);generalize w8.heap.size=Z at BZ |-;clear TH SZ ON EC B8 B9 bg J T6;have H:w9.cell? ⟨g6.t.c,2,none⟩=some (Iv f.top.i):=Qa S9.out.top.1 2 _ Yz;rw[l.out.1] at H
 have z2:w9.cell? ⟨Z,2,none⟩=some (.slice p.pC o.code.length p.cC):=Qa BZ.out 2 _ Yz;refine Code.wp_mono ?_ (is3 H z2 _ _ Yz (Xg (by kernel_rfl)) Yz Yz);rintro _ _ wa ⟨rfl,b0,rfl,X,ba⟩;simp only[QC,Act.put,List.setIfInBounds_toArray,List.set_cons_zero,List.set_cons_succ,X]
 have Sa:=Qb (S9.out.below ba);have Ta:=Qb (T9.out.trans (S9.out.stepB ba));have ah:=Qb (Blk.below BZ.out ba);have ai:=Qb (aa.out.below ba);clear X ba H z2 S9 T9 BZ aa;have Ka:Hid (IOk m n f):=HK.out.2;have a9:=HI.out;by_cases am:M.top.i=o.code.length
 ·have hc:((M.top.i:Int)==(o.code.length:Int))=true:=by simp[am]
  have T:Hid (y=IM.endd fn f o.fin):=by show _=_;rw[E2.out,Xk (by omega)]
  rw[hc]
  have CE:=Qb (Qjl Sa.out (Ka.out.sok (by have:=HN.out.1;omega)) Ka.out.deep (fun d hd=>by have:=(Ka.out.fr d (List.mem_cons_of_mem _ hd)).2.1;have:=HN.out.1;omega) (fn:=fn) (by rw[l.out.1];exact D.out.1) HN.out.2 C.out.1 ai.out.fin C.out.2.fin)
  have RE:Hid (wa.rangeAt Z 3 (Qcq o.fin p.e).toList):=fun j v hj=>by
   have:(Qcd o p)[3+j]?=some v:=by
    rw[<-Array.getElem?_toList,Nat.add_comm]
    exact hj
   exact Qa ah.out (3+j) v this
  clear am hc E2 a9;go_upto_region 4 with fail
  go_wp2_with (refine wpList_load_mid Yz 84 (.tmp 38) Yz Z 3 Yz (Qcq o.fin p.e).toList _ RE.out underlying84 Yz vsizeE ?_)
  refine CE.out.mono ?_;rintro Q wb hE;have F:=Qb (QdG.stp (by rw[bf.out];exact a2.out.symm) Ta.out q.out.1 q.out.2 hE);generalize IM.endd fn f o.fin=r2 at T F hE
  have al:Q=.returned (.tuple #[])\/∃ ch,Q=.panicked ch:=by
   cases r2 with
   | none=>exact .inr ⟨_,hE.1⟩
   | some M' =>
     rcases hE with ⟨I,s⟩|⟨N,k,I,s,B⟩
     ·exact .inl I
     ·exact .inr ⟨_,s⟩
  rcases al with rfl | ⟨ch,rfl⟩
  ·clear hE CE RE;go_wp2
   exact Xz (v:=.tuple #[]) (by simp[results,results54,go_sem]) Yz (by rw[T.out];exact F.out)
  ·exact⟨Yz,by rw[T.out];exact F.out⟩
 have hc:((M.top.i:Int)==(o.code.length:Int))=false:=by simp;omega
 rw[hc]
 have az:M.top.i<o.code.length:=by omega
 obtain⟨x,hx⟩:∃ x,o.code[M.top.i]?=some x:=⟨_,Zg az⟩
 have T:Hid (y=IM.ins m aOp f.bump x):=by show _=_;rw[E2.out,hx]
 have a8:=C.out.2.code x (Zm hx);have P:=HM.out.2 fn (Zm D.out.1) o (Zm D.out.2) x (Zm hx);have bz:=C.out.2.codes;obtain⟨gc,oc,ip,ec,bd,be⟩:=Qho ai.out.code hx
 have z2:wa.cell? ⟨Z,2,none⟩=some (.slice p.pC o.code.length p.cC):=Qa ah.out 2 _ Yz;rw[ec] at z2
 have H:wa.cell? ⟨g6.t.c,2,none⟩=some (Iv f.top.i):=Qa Sa.out.top.1 2 _ Yz;rw[l.out.1] at H
 have ax:Hid (wa.rangeAt gc (oc+M.top.i*8) (Zc x ip).toList):=bd;have ar:=Qb be;have HX:=Qb (Xh a8 P);have bp:=Qb az;clear hc am E2 hx bd be a8 P a9 ec;go_upto_region 5 with fail
 refine is5 z2 H ax (by omega) _ _ Yz (Xg (by kernel_rfl)) Yz Yz Yz ?_;rintro ae bk wb V ac U bb;show wpList _ ae _ [_] (QC _ bk [41,42,43,44,45,46,47,48,49,50]) wb;simp only[QC,Act.put,List.setIfInBounds_toArray,List.set_cons_zero,List.set_cons_succ,V,ac,U]
 have Sb:=Qb (Sa.out.below bb);have Tb:=Qb (Ta.out.trans (Sa.out.stepB bb));have ao:=Qb (ar.out.below bb);have av:Hid (f={ M with fuel:=M.fuel+1 }):=by show _=_;rw[bf.out];exact a2.out.symm
 have KS:=Qb (Ka.out.sok (by have:=HN.out.1;omega));clear V ac U bb z2 H ax Sa Ta ar ah ai;by_cases z:x.op=14
 ·obtain⟨-,-,aw⟩:=QdC HX.out.1
  obtain⟨au,bq,bm,bj⟩:=aw z
  obtain⟨k,hk⟩:=Xc au
  have aq:k<m.length:=by omega
  obtain⟨H,af⟩:∃ H,m[k]?=some H:=⟨_,Zg aq⟩
  obtain⟨b2,a1,a7,ad,ag,-⟩:=Z5 HM.out.1 af
  have W:=Qb (QmO Sb.out KS.out ip z Ka.out.deep hk af a1 a7 ad ⟨by have:=HN.out.2;omega,by have:=ag.many.2;omega,by rw[ad];have:=ag.params.1;omega⟩ ao.out.regs ao.out.args ⟨by omega,by omega⟩);have ei:∀ N:IM,IM.ins m aOp N x=IM.call m N x:=fun N=>by unfold IM.ins;simp[z]
  have G:Hid (y=(IM.call m f x).map fun N=>if N.done then N.bump else { N with rest:=f.bump.top::f.rest }):=by show _=_;rw[T.out,ei,QjF l.out.2.2]
  rw[ei] at W
  have CD:Hid (∀ N,IM.call m f x=some N->N.rest=f.top::f.rest->N.done=false):=by
   intro N u hr
   cases hd:N.done with
   | false=>rfl
   | true =>
     exfalso
     unfold IM.call at u
     cases I:Zs f.top.r x.regs with
     | none=>rw[I] at u;cases u
     | some r =>
       rw[I] at u
       simp only at u
       cases s:Qq f.top.v x.args with
       | none=>rw[s] at u;cases u
       | some v =>
         rw[s] at u
         simp only at u
         cases B:m[x.k.toNat]? with
         | none=>rw[B] at u;cases u
         | some ff =>
           rw[B] at u
           simp only at u
           split at u
           ·split at u
            ·cases u
             have:f.rest.length=(f.top::f.rest).length:=congrArg List.length hr
             simp at this
            ·cases u
             have:=l.out.2.2
             rw[this] at hd
             cases hd
           ·cases u
  generalize bo:IM.call m f x=r2 at G W CD;have ap:f.top.i<=100:=by rw[l.out.1];have:=bp.out;omega
  clear bo af a1 a7 ad ag hk au bq bm bj aq aw ei z T;go_wp2_with fail
  refine W.out.mono ?_;rintro Q wc hI
  cases r2 with
  | none =>
    obtain⟨rfl,s⟩:=hI
    refine⟨Yz,?_⟩
    rw[G.out]
    exact⟨Yz,by have:=XTo.then Tb.out q.out.1 q.out.2 s;rw[av.out] at this;exact this⟩
  | some M0 =>
    rcases hI with ⟨rfl,g',s,B,h4,h5⟩|⟨N,kk,I,rfl,B⟩
    ·have a6:=CD.out M0 Yz h5;have Sc:=Qb s;have F2:=s.frs;rw[h4,h5] at F2
     have fc:=F2.2.2.1.1;have y2:wc.cell? ⟨g6.t.c,2,none⟩=some (Iv f.top.i):=Qa fc.1 2 _ Yz;have a0:=Qd fc.1 2;obtain⟨g8,S8,T8⟩:=s.next2 h4 h5
     have R:Hid (XGo g w (wc.setCell ⟨g6.t.c,2,none⟩ (Iv ((f.top.i:Int)+1))) b most m { M0 with rest:=f.bump.top::f.rest } sc sa):=⟨g8,S8,(Tb.out.trans B).trans T8⟩;have E5:Hid (y=some { M0 with rest:=f.bump.top::f.rest }):=by show _=_;rw[G.out];simp[a6]
     clear W s B h4 h5 F2 fc S8 T8 a6 G CD;generalize f.top.i=ii at *;go_wp2
     exact Xz (v:=.tuple #[]) (by simp[results,results54,go_sem]) Yz (by rw[E5.out];exact .inl ⟨Yz,R.out⟩)
    ·refine⟨Yz,?_⟩
     rw[G.out]
     subst I;exact .inr ⟨N,kk,Yz,XTo.then Tb.out q.out.1 q.out.2 B,⟨Yz,Yz,Yz,Yz,Yz,Yz⟩⟩
 ·have W:=Qb (Qk4 HC.out Sb.out KS.out ip ao.out HX.out.1 z);have G:Hid (y=(IM.ins m aOp f x).map IM.bump):=by show _=_;rw[T.out];exact Qk0 z
  have KI:=Qb (Qiu (op:=aOp) Ka.out (by have:=HN.out.1;omega) HM.out.1 (fun k a b c h ha hb=>QiM ha hb h) HX.out.1 HX.out.2);generalize IM.ins m aOp f x=r2 at G W KI;clear z T;go_wp2_with fail
  refine W.out.mono ?_;rintro Q wc hI
  cases r2 with
  | none =>
    obtain⟨rfl,s⟩:=hI
    refine⟨Yz,?_⟩
    rw[G.out]
    exact⟨Yz,by have:=XTo.then Tb.out q.out.1 q.out.2 s;rw[av.out] at this;exact this⟩
  | some M0 =>
    rcases hI with ⟨rfl,g',s,B,h4,h5⟩|⟨N,kk,I,rfl,B⟩
    ·have K0:=KI.out M0 Yz;obtain⟨-,-,-,br,bt,a4,bc,bs⟩:=K0.fr M0.top (by simp)
     have a5:=(((Zk HM.out.1).2 br (Zm a4)).blocks bt (Zm bc)).codes;have ap:M0.top.i<=100:=by omega
     have y2:wc.cell? ⟨g'.t.c,2,none⟩=some (Iv M0.top.i):=Qa s.top.1 2 _ Yz;have a0:=Qd s.top.1 2;have NX:=XTo.then (Tb.out.trans B) (h4.trans q.out.1) (h5.trans q.out.2) s.next
     rw[h4] at y2 a0 NX
     have R:=Qb NX;have E5:Hid (y=some M0.bump):=G.out;clear W s B h4 h5 K0 KI a4 bc bs a5 NX G;have RR:Hid (XTo g w (wc.setCell ⟨g6.t.c,2,none⟩ (Iv ((M0.top.i:Int)+1))) b most m M0.bump sc sa):=R.out;clear R;generalize M0.top.i=ii at *;go_wp2
     exact Xz (v:=.tuple #[]) (by simp[results,results54,go_sem]) Yz (by rw[E5.out];exact .inl ⟨Yz,RR.out.go⟩)
    ·refine⟨Yz,?_⟩
     rw[G.out]
     subst I;exact .inr ⟨N,kk,Yz,XTo.then Tb.out q.out.1 q.out.2 B,⟨Yz,Yz,Yz,Yz,Yz,Yz⟩⟩
end
def QoD (X b:Nat) (pl:Int) (t:Tmp) (v:Value) (w:World):Prop :=
 v=(([(0,Pv X 0),(11,Pv b 0),(12,Pv b 0),(13,Iv pl),(14,.agg #[Iv 20,Iv pl]),(15,Pv b 0),(16,Pv b 10)]:List (Tmp × Value)).lookup t).getD undef
theorem it7 {b:Nat}{i:Int}(p:w6.cell? ⟨X,0,none⟩=some (Pv b 0)) (o:Hid (∀ wx,Below w6.heap.size w6 wx->Calls prog 83 #[Pv b 0] wx fun e w'=>e=.returned (Iv i)/\Below wx.heap.size wx w'))
 (a:Act) (m:Nat) (hn:a.tmps.size=m) (g:28<=m) (l:a.tmps.getD 0 undef=Pv X 0)
 (hend:∀ ops vs w',vs 14=.agg #[Iv 20,Iv i]->vs 16=Pv b 10->Below w6.heap.size w6 w'->wpList prog ops Q (QaI 6 ((Tryz.f82.body.bind (Qf 7)).getD .skip)) (QC a vs [11,12,13,14,15,16]) w') :
 Code.wp prog ((Tryz.f82.body.bind (Qf 7)).getD .skip) Q a w6:=by
 conv=>arg 2;whnf
 refine Qj 6 (QoD X b i) (fun w=>Below w6.heap.size w6 w) (fun w w'=>Below w.heap.size w w') (outs:=[0]) (gs:=[]) (bs:=[true,true,true,true,true,true]) (by kernel_rfl) (n:=28) hn g (by kernel_rfl) (by kernel_rfl) ?hR ?hG (Qh Zr 1) ⟨l,Y⟩ ?hA ?hend
 case hR=>exact fun t v w w' _ h=>h
 case hG=>exact Y
 case hend=>exact fun ops vs w' c f=>hend ops vs w' (f 14 (by kernel_rfl)) (f 16 (by kernel_rfl)) c
 case hA =>
  repeat
   refine⟨fun a w c f K j=>?_,?_⟩
   focus first
    | obtain⟨d,-⟩:=f
      conv at d=>whnf;rhs;whnf
      have s:=Qn p c;go_simp;exact j _ _ Zr c Z
    | obtain⟨d,-⟩:=f
      conv at d=>whnf;rhs;whnf
      rw[Za] at d
      go_simp;exact j _ _ Zr c Z
    | obtain⟨d,-⟩:=f
      conv at d=>whnf;rhs;whnf
      go_simp;refine Xm (o.out w c) ?_;rintro q r ⟨rfl,k⟩;go_simp;exact j _ _ k (c.trans (k.mono c.size)) Z
  trivial
section
variable {w w' w2:World}{b most n:Nat}{m:List (MFunc 6)}{M M' N:IM}{sc sa:Int}{g g1:MG}{e:Ending}
theorem MAt.stuckC (S:MAt w b most m M sc sa g) (c:Int):XTo g w ((w.setCell ⟨b,10,none⟩ (Iv 20)).setCell ⟨b,11,none⟩ (Iv c)) b most m M 20 c:=by
 have d:∀ k,k≠b->((w.setCell ⟨b,10,none⟩ (Iv 20)).setCell ⟨b,11,none⟩ (Iv c)).heap[k]?=w.heap[k]?:=fun k a=>by rw[Xd _ _ _ _ a,Xd _ _ _ _ a]
 refine S.reBox (M':=M) (sc':=20) (sa':=c) Z Z Z (by simp) (fun k a f=>d k f) ⟨Z,Z,Z,Z⟩ (pi:=g.pi) (ci:=g.ci) (vb:=g.vb) ⟨S.inp,S.inpC⟩ (ZG (fun k a i=>d k (fun (e:k=b)=>a (e ▸ S.ob.1))) (fun _ h _=>h) S.back) ?_;rw[Qm (Qm S.box 10 _) 11 _]
 simp
theorem MAt.endC (S:MAt w b most m M sc sa g) (k:Int):XTo g w ((w.setCell ⟨b,9,none⟩ (.bool true)).setCell ⟨b,5,none⟩ (Iv k)) b most m (M.over k) sc sa:=by
 have c:∀ x,x≠b->((w.setCell ⟨b,9,none⟩ (.bool true)).setCell ⟨b,5,none⟩ (Iv k)).heap[x]?=w.heap[x]?:=fun x a=>by rw[Xd _ _ _ _ a,Xd _ _ _ _ a]
 refine S.reBox (M':=M.over k) (sc':=sc) (sa':=sa) Z Z Z (by simp) (fun x a d=>c x d) ⟨Z,Z,Z,Z⟩ (pi:=g.pi) (ci:=g.ci) (vb:=g.vb) ⟨S.inp,S.inpC⟩ (ZG (fun x a f=>c x (fun (e:x=b)=>a (e ▸ S.ob.1))) (fun _ h _=>h) S.back) ?_;rw[Qm (Qm S.box 9 _) 5 _]
 simp[IM.over]
theorem Qgn {w:World}(X:Nat) :
 CallsD prog 82 #[Qif X] .returning w fun e u' w'=>e=.returned (.tuple #[])/\u'=.returning/\w'=w:=by
 refine callsD_of_wpS func82 Z fun a c b=>?_;apply wpS_seq
 apply wpS_region
 simp[wpOpsS,go_sem,recoverD,b,ntmps82,Exit.thenS]
 rw[show (#[Qif X]++(Array.replicate 27 undef).setIfInBounds 4 (Value.nilIface):Array Value)=#[Qif X,undef,undef,undef,undef,Value.nilIface,undef,undef,undef,undef,undef,undef,undef,undef,undef,undef,undef,undef,undef,undef,undef,undef,undef,undef,undef,undef,undef,undef] from by kernel_rfl]
 refine wpS_of_wp ?_;go_wp2_with fail
 cases a
 simp_all [bodyPostS,results,results82]
theorem Qh6 {w:World}(k:Int) (a:Blk w X #[Pv b 0] 30) (S:MAt w b most m M sc sa g) :
 CallsD prog 82 #[Qif X] (.panicking (Qld k)) w fun e u' w' =>
  e=.returned (.tuple #[])/\u'=.panicking [{ v:=.iface 148 (Iv k),recovered:=true }]/\XTo g w w' b most m (M.over k) sc sa:=by
 have p:=Qa a 0 _ Z;have i:w.cell? ⟨b,9,none⟩=some (.bool M.done):=Qa S.box 9 _ Z;have o:w.cell? ⟨b,5,none⟩=some (Iv M.fin):=Qa S.box 5 _ Z;have j:=Qd S.box 9;have n:=Qd S.box 5;have R:=Qb (S.endC k);have h:¬ X=b:=fun e=>QN a S.box (by decide) e;clear S a;refine callsD_of_wpS func82 Z fun l q f=>?_;apply wpS_seq
 apply wpS_region
 simp[wpOpsS,go_sem,recoverD,f,ntmps82,Exit.thenS]
 rw[show (#[Qif X]++(Array.replicate 27 undef).setIfInBounds 4 (Value.iface 148 (Iv k)):Array Value)=#[Qif X,undef,undef,undef,undef,Value.iface 148 (Iv k),undef,undef,undef,undef,undef,undef,undef,undef,undef,undef,undef,undef,undef,undef,undef,undef,undef,undef,undef,undef,undef,undef] from by kernel_rfl]
 refine wpS_of_wp ?_;have c:∀ w:World,(Instr.typeAssert (.iface 148 (Iv k)) 20 147 true).run prog w=.ok (.tuple #[.agg #[],.bool false]) w:=fun _=>by kernel_rfl
 have d:∀ w:World,(Instr.typeAssert (.iface 148 (Iv k)) 20 148 true).run prog w=.ok (.tuple #[Iv k,.bool true]) w:=fun _=>by kernel_rfl
 go_wp2
 exact(show bodyPostS _ _ _ _ _ _ _ _ _ from ⟨Z,_,Z,.tuple #[],by simp[results,results82,go_sem],Z,Z,R.out⟩)
theorem QfG {w:World}{h:Int}(p:Blk w X #[Pv b 0] 30) (S:MAt w b most m M sc sa g) (q:∀ wx,Below w.heap.size w wx->Calls prog 83 #[Pv b 0] wx fun e w'=>e=.returned (Iv h)/\Below wx.heap.size wx w') :
 CallsD prog 82 #[Qif X] (.panicking stuckP) w fun e u' w' =>
  e=.returned (.tuple #[])/\u'=.panicking [{ v:=.iface 147 (.agg #[]),recovered:=true }]/\XTo g w w' b most m M 20 h:=by
 have f:=Qb (Zb w (.cells #[] 147));have l:=Qb (S.below f.out);have r:=Qb (S.stepB f.out);have n:(w.alloc (.cells #[] 147)).cell? ⟨X,0,none⟩=some (Pv b 0):=Qn (Qa p 0 _ Z) f.out;have o:Hid (∀ wx,Below (w.alloc (.cells #[] 147)).heap.size (w.alloc (.cells #[] 147)) wx->Calls prog 83 #[Pv b 0] wx fun e w'=>e=.returned (Iv h)/\Below wx.heap.size wx w'):=fun wx B=>q wx (f.out.trans (B.mono f.out.size));clear S p q;refine callsD_of_wpS func82 Z fun C D s=>?_;apply wpS_seq
 apply wpS_region
 simp[wpOpsS,go_sem,recoverD,s,ntmps82,Exit.thenS]
 rw[show (#[Qif X]++(Array.replicate 27 undef).setIfInBounds 4 (Value.iface 147 (.agg #[])):Array Value)=#[Qif X,undef,undef,undef,undef,Value.iface 147 (.agg #[]),undef,undef,undef,undef,undef,undef,undef,undef,undef,undef,undef,undef,undef,undef,undef,undef,undef,undef,undef,undef,undef,undef] from by kernel_rfl]
 refine wpS_of_wp ?_;have A:∀ w:World,(Instr.typeAssert (.iface 147 (.agg #[])) 20 147 true).run prog w=.ok (.tuple #[.agg #[],.bool true]) w:=fun _=>by kernel_rfl
 go_upto_region 7 with fail
 refine it7 n o _ _ Z (Xg (by kernel_rfl)) Z ?_;rintro j u i a c k;show wpList _ j _ [_] (QC _ u [11,12,13,14,15,16]) i;simp only[QC,Act.put,List.setIfInBounds_toArray,List.set_cons_zero,List.set_cons_succ,a,c]
 have d:=Qb (l.out.below k);have R:=Qb (XTo.then (r.out.trans (l.out.stepB k)) Z Z (d.out.stuckC h));have x:i.cell? ⟨b,10,none⟩=some (Iv sc):=Qa d.out.box 10 _ Z;have t:i.cell? ⟨b,11,none⟩=some (Iv sa):=Qa d.out.box 11 _ Z;have y:=Qd d.out.box 10;have z:=Qd d.out.box 11;clear a c k n o d l r f;go_wp2
 exact(show bodyPostS _ _ _ _ _ _ _ _ _ from ⟨Z,_,Z,.tuple #[],by simp[results,results82,go_sem],Z,Z,R.out⟩)
def Qmp (g:MG) (w:World) (b most:Nat) (m:List (MFunc 6)) (M:IM) (r:Option IM) (e:Ending) (w':World):Prop:=e=.returned (.tuple #[])/\match r with
 | none=>XGo g w w' b most m { M with fuel:=M.fuel+1 } 20 (IM.place m M)
 | some M'=>∃ N,XGo g w w' b most m N 0 0/\N.like M'/\(M'.done=false->N=M')
theorem enters_step:Qdw 54:=fun _ _=>by kernel_rfl
theorem QfL (D:MakeArr) (S:MAt w b most m M 0 0 g) (K:IOk m n M) (hn:n<=800000) (t:(modFault m).1=0) (q:M64 m) (j:M.fuel<=most) (i:most<=100000) (x:M.done=false) :
 Calls prog 53 #[Pv b 0,.func (.func 54) #[Pv b 0] #[]] w fun e w'=>Qmp g w b most m M (IM.step m aOp most M) e w':=by
 have ab:∀ (r:Fn) (first cap:Array Value) (w:World),(Instr.makeFunc r first cap).run prog w=.ok (.func r first cap) w:=fun _ _ _ _=>rfl;have C:=enters_step;unfold Qdw at C;have L:=Qb (Zb w (.cells #[Pv b 0] 30));have J:=Qb (Qe w #[Pv b 0] 30);have S1:=Qb (S.below L.out);have y:=Qb (S.stepB L.out);have u:=Qb (QjN D S1.out K hn t q j i x);have HS:=Qb S;have I:=Qb K;have O:=Qb t;have v:=Qb S.lt;generalize IM.step m aOp most M=z at u |-;clear S K hn t q j i D;go_enter_defers func53,ntmps53
 go_wp2_with fail
 refine u.out.mono ?_;rintro e' o T;have d:¬ g.A w.heap.size:=fun e=>by have:=v.out _ e;omega
 have h:w.heap.size<(w.alloc (.cells #[Pv b 0] 30)).heap.size:=by simp
 cases z with
 | none =>
   obtain⟨rfl,g2,s,c,c2,V⟩:=T
   have a:Blk o w.heap.size #[Pv b 0] 30:=(c.block _ h d).trans J.out;obtain⟨-,-,-,r,W,G,Q,hi⟩:=I.out.fr M.top (by simp)
   have P:=(Zk O.out).2 r (Zm G);have hB:=P.blocks W (Zm Q);have aa:=(Zk O.out).1.2
   have CP:∀ p,Below o.heap.size o p->Calls prog 83 #[Pv b 0] p fun e w'=>e=.returned (Iv (IM.place m M))/\Below p.heap.size p w':=fun p bx =>
    Qid (M:={ M with fuel:=M.fuel+1 }) (s.below bx) (by have:=I.out.deep;show M.rest.length<=1000;omega) G Q ⟨by omega,by have:=P.many.2;omega,by have:=hB.codes;omega⟩ hi
   show bodyPostD _ _ _ _ _ _;refine leaves_cons (f:=82) (args:=#[Qif w.heap.size]) (by simp) (by simp[go_sem]) ?_;refine(QfG a s CP).mono ?_
   rintro E F X ⟨rfl,rfl,B⟩;exact⟨.tuple #[],by simp[results,results53,go_sem],Z,XGo.then (y.out.trans c) B.go⟩
 | some M' =>
   rcases T with ⟨rfl,H⟩|⟨N,k,rfl,⟨g2,s,c,c2,V⟩,l⟩
   ·have R:Hid (∃ N,XGo g w o b most m N 0 0/\N.like M'/\(M'.done=false->N=M')):=⟨M',XGo.then y.out H,IM.like.refl _,fun _=>rfl⟩;clear H u C;go_wp2
    refine leaves_cons (f:=82) (args:=#[Qif w.heap.size]) (by simp) (by simp[go_sem]) ?_;refine(Qgn w.heap.size).mono ?_
    rintro E F w6 ⟨rfl,rfl,rfl⟩;exact⟨.tuple #[],by simp[results,results53,go_sem],Z,R.out⟩
   ·have a:Blk o w.heap.size #[Pv b 0] 30:=(c.block _ h d).trans J.out;show bodyPostD _ _ _ _ _ _;refine leaves_cons (f:=82) (args:=#[Qif w.heap.size]) (by simp) (by simp[go_sem]) ?_;refine(Qh6 k a s).mono ?_
    rintro E F X ⟨rfl,rfl,B⟩;refine⟨.tuple #[],by simp[results,results53,go_sem],Z,N.over k,XGo.then (y.out.trans c) B.go,l,fun U=>?_⟩
    have:(N.over k).done=M'.done:=l.done
    rw[U] at this
    cases this
end
section
variable {w w' w2:World}{b most n:Nat}{m:List (MFunc 6)}{M M' N:IM}{sc sa:Int}{g g1:MG}{e:Ending}
abbrev Qa8 (c a:Int):Value:=.agg #[Iv c,Iv a]
def QnN (g:MG) (w:World) (b most:Nat) (m:List (MFunc 6)) (M:IM) (r:Option IM) (e:Ending) (w':World):Prop:=match r with
 | none=>e=.returned (Qa8 20 (IM.place m M))/\XGo g w w' b most m { M with fuel:=M.fuel+1 } 20 (IM.place m M)
 | some M'=>e=.returned (Qa8 0 0)/\∃ N,XGo g w w' b most m N 0 0/\N.like M'/\(M'.done=false->N=M')
theorem ZK {w:World}{a0 c:Value}(h:w.heap[R]?=some (.cells #[a0,c] 32 (0,0))) (b a:Value) :
 ((w.setCell ⟨R,0,none⟩ b).setCell ⟨R,1,none⟩ a).heap[R]?=some (.cells #[b,a] 32 (0,0)):=by
 have:=Qm (Qm h 0 b) 1 a
 simpa using this
theorem MAt.other (S:MAt w b most m M sc sa g)(j:¬ g.A R) (hb:b<=R) (r:∀ c,w.heap[R]?≠some (.cells c 2 (0,0))) (q:w.heap.size<=w'.heap.size) (f:∀ k,k≠R->k<w.heap.size->w'.heap[k]?=w.heap[k]?):MAt w' b most m M sc sa g where
 box:=(f b (fun e=>j (e ▸ S.ob.1)) (XC S.box)).trans S.box
 heap:=S.heap.keep q (fun x a i=>f x (fun e=>j (e ▸ S.oa x a)) i)
 mod:=(Qar 6).keep (fun k d i=>f k (fun e=>by have:=d.2;omega) i) (fun _ h _=>h) S.mod
 inp:=intsL.keep (fun k d i=>f k (fun e=>by have:=d.2;omega) i) (fun _ h _=>h) S.inp
 inpC:=S.inpC
 calls:=QM S.calls (fun x a=>f x (fun e=>j (e ▸ (S.oc x a).1)) (S.lt x (S.oc x a).1))
 back:=by
  have l:∀ k,Qmq w g.A g.lo k->k≠R:=fun k d e=>by obtain⟨c,o⟩:=d.2;subst e;exact r c o
  exact intsL.keep (fun k d i=>f k (l k d) i) (fun k d i=>⟨d.1,by obtain⟨c,o⟩:=d.2;exact⟨c,(f k (l k d) i).trans o⟩⟩) S.back
 out:=QM S.out (fun x a=>f x (fun e=>j (e ▸ (S.oo x a).1)) (S.lt x (S.oo x a).1))
 frs:=S.frs.keep (fun _ _ n p=>⟨n,p⟩) (fun y s=>by
  obtain⟨u,n,p,t⟩:=S.frs.mem y s
  exact⟨f _ (fun e=>j (e ▸ p.1)) (XC n.1),fun x a=>f x (fun e=>j (e ▸ (t x a).1)) (n.2.lt a)⟩)
 ob:=S.ob
 oc:=S.oc
 oo:=S.oo
 oa:=S.oa
 lt:=fun x a=>Zl (S.lt x a) q
 low:=Zt S.low q
theorem XGo.fault {a:World}{d:MG}(h:XGo d w1 w2 b most m N sc sa) (r:MAt a b most m M 0 0 d) (t:QZ d.A d.A a w1) (f:w1.heap[a.heap.size]?=some (.cells #[Iv 0,Iv 0] 32 (0,0))) :
 w2.heap[a.heap.size]?=some (.cells #[Iv 0,Iv 0] 32 (0,0))/\∀ x0 x1:Value,XGo d a ((w2.setCell ⟨a.heap.size,0,none⟩ x0).setCell ⟨a.heap.size,1,none⟩ x1) b most m N sc sa:=by
 obtain⟨q,s,o⟩:=h
 have p:=XC f;have j:¬ d.A a.heap.size:=fun e=>by have:=r.lt _ e;omega
 have n:¬ q.A a.heap.size:=fun e=>by rcases o.own _ e with e | e;exact j e;omega
 have g:=(o.block _ p j).trans f;refine⟨g,fun x0 x1=>⟨q,?_,?_⟩⟩
 ·refine s.other n (Nat.le_of_lt (XC r.box)) (fun c e=>?_) (by simp) (fun k l _=>by rw[Xd _ _ _ _ l,Xd _ _ _ _ l]);rw[g] at e
  simp at e
 ·have T:=t.trans o;refine⟨T.os,T.tape,T.output,by have:=T.size;simp;omega,fun k l u=>?_,T.own⟩
  have i:k≠a.heap.size:=by omega
  rw[Xd _ _ _ _ i,Xd _ _ _ _ i]
  exact T.block k l u
theorem Qjj (U:MakeArr) (S:MAt w b most m M 0 0 g) (K:IOk m n M) (hn:n<=800000) (T:(modFault m).1=0) (y:M64 m) (r:M.fuel<=most) (p:most<=100000) (i:M.done=false) :
 Calls prog 17 #[Pv b 0] w fun e w'=>QnN g w b most m M (IM.step m aOp most M) e w':=by
 have aa:∀ (fn:Fn) (first cap:Array Value) (w:World),(Instr.makeFunc fn first cap).run prog w=.ok (.func fn first cap) w:=fun _ _ _ _=>rfl;have L:=Qb (Zb w (.cells #[Iv 0,Iv 0] 32));have J:=Qb (Qe w #[Iv 0,Iv 0] 32);have A:=Qb (S.below L.out);have Q:=Qb (S.stepB L.out);have z:=Qb (QfL U A.out K hn T y r p i);have H:=Qb S.lt;have u:=Qb S;have O:(w.alloc (.cells #[Iv 0,Iv 0] 32)).cell? ⟨b,9,none⟩=some (.bool M.done):=Qa A.out.box 9 _ Z;have d:(w.alloc (.cells #[Iv 0,Iv 0] 32)).cell? ⟨b,10,none⟩=some (Iv 0):=Qa A.out.box 10 _ Z;rw[i] at O
 generalize IM.step m aOp most M=P at z |-;clear S K hn T y r p U i;go_enter func17,ntmps17
 go_upto_region 1 with fail
 have l:w.heap.size<(w.alloc (.cells #[Iv 0,Iv 0] 32)).heap.size:=by simp
 generalize w.alloc (.cells #[Iv 0,Iv 0] 32)=w1 at L J A Q z O d l |-;clear l H;generalize W:w.heap.size=R at J |-;have E:=Qb W;clear W;go_upto_region 3 with (go_at_call 53;refine z.out.mono ?_;rintro e' k ⟨rfl,I⟩)
 clear z O d;have c:w1.heap[w.heap.size]?=some (.cells #[Iv 0,Iv 0] 32 (0,0)):=by rw[E.out];exact J.out
 cases P with
 | none =>
   obtain⟨a,f⟩:=I.fault u.out Q.out c
   rw[E.out] at a f
   obtain⟨g2,j,C⟩:=I
   have d:k.cell? ⟨b,10,none⟩=some (Iv 20):=Qa j.box 10 _ Z;have t:k.cell? ⟨b,11,none⟩=some (Iv (IM.place m M)):=Qa j.box 11 _ Z;have r0:=Qa a 0 _ Z;have r1:=Qa a 1 _ Z;have z0:=Qd a 0;have z1:=Qd a 1;have F:=Qb (f (Iv 20) (Iv (IM.place m M)));have B:=Qb a;clear a f j C c;obtain⟨x,h⟩:∃ x,IM.place m M=x:=⟨_,Z⟩
   rw[h] at t F
   have o:=Qb h;clear h;go_wp2_with fail
   have X:=Qb (ZK B.out (Iv 20) (Iv x));generalize (k.setCell ⟨R,0,none⟩ (Iv 20)).setCell ⟨R,1,none⟩ (Iv x)=w3 at F X |-;have D:=Qa X.out 0 _ Z;have G:=Qa X.out 1 _ Z;exact Xy (v:=Qa8 20 x) (by simp[results,results17,go_sem,D,G]) Z ⟨by rw[o.out],by rw[o.out];exact F.out⟩
 | some M' =>
   obtain⟨N,V,s,q⟩:=I
   obtain⟨a,f⟩:=V.fault u.out Q.out c
   rw[E.out] at a f
   obtain⟨g2,j,C⟩:=V
   have d:k.cell? ⟨b,10,none⟩=some (Iv 0):=Qa j.box 10 _ Z;have t:k.cell? ⟨b,11,none⟩=some (Iv 0):=Qa j.box 11 _ Z;have r0:=Qa a 0 _ Z;have r1:=Qa a 1 _ Z;have z0:=Qd a 0;have z1:=Qd a 1;have F:=Qb (Xh (f (Iv 0) (Iv 0)) (Xh s q));have B:=Qb a;clear a f j C c s q;go_wp2_with fail
   have X:=Qb (ZK B.out (Iv 0) (Iv 0));generalize (k.setCell ⟨R,0,none⟩ (Iv 0)).setCell ⟨R,1,none⟩ (Iv 0)=w3 at F X |-;have D:=Qa X.out 0 _ Z;have G:=Qa X.out 1 _ Z;exact Xy (v:=Qa8 0 0) (by simp[results,results17,go_sem,D,G]) Z ⟨Z,N,F.out.1,F.out.2.1,F.out.2.2⟩
theorem Qjf (S:MAt w b most m M sc sa g):Calls prog 19 #[Pv b 0] w fun e w'=>e=.returned (.bool M.done)/\w'=w:=by
 have c:w.cell? ⟨b,9,none⟩=some (.bool M.done):=Qa S.box 9 _ Z;clear S;generalize M.done=a at *;go_enter func19,ntmps19
 go_wp2
 go_ret;exact⟨Z,Z⟩
end
def QcK (w:World) (l:List Int) (e:Ending) (w':World):Prop:=∃ a cap,e=.returned (.slice a l.length cap)/\l.length<=cap/\w'.ownsRow 0 2 1 (.slice a l.length cap) l.length (l.map (Value.int .i64))/\(∀ x,(Value.slice a l.length cap).ownBlock=some x->w.heap.size<=x)/\Below w.heap.size w w'
theorem Qg4 (h:w.ownsRow 0 2 1 (.slice a l.length cap) l.length (l.map (Value.int .i64))) (c:∀ x∈l,ZE x) (o:∀ x,(Value.slice a l.length cap).ownBlock=some x->O x):intsL.In w O l [.slice a l.length cap]:=by
 refine⟨a,cap,Z,fun i x b=>?_⟩
 have s:=(Zi b).1;rcases h.2 with ⟨e,q⟩|⟨g,r,n,e,_,d,t,p,u,m⟩
 ·omega
 ·rw[Value.slice.injEq] at e
  obtain⟨rfl,-,rfl⟩:=e
  refine⟨g,0,[Iv x],Z,o g Z,XC d,fun j f=>?_,Z,c x (Zm b)⟩
  have f:j<1:=f
  have:j=0:=by omega
  subst this;show w.cell? ⟨g,0+i*1+0,none⟩=_;rw[XK,XL,Nat.add_zero]
  have k:(l.map (Value.int .i64))[i]?=some (Iv x):=by rw[XS,b];rfl
  rw[<-m,XR,Xs (by omega),Array.getElem?_toList] at k
  exact Qa d _ _ k
theorem Qct {Q:Nat->Prop}(h:intsL.In w Q l [.slice p l.length c]) (hn:l.length<=1000000) :
 Calls prog 48 #[.slice p l.length c] w fun e w'=>QcK w l e w':=by
 obtain⟨i0,hi,A,v,B⟩:=iInfo64
 have q:∀ (w:World) (a:Option Addr) (n c D F:Nat),(binOp .eql 25 (.slice a n c) (.slice none D F)).run prog w=.ok (.bool a.isNone) w:=fun w a n c D F=>Lib.run_eql_slice_nil w _ _ a n c D F iUnder64
 cases p with
 | none =>
   have G:l=[]:=by
    cases l with
    | nil=>rfl
    | cons y T =>
      obtain⟨g,o,e,-⟩:=ZW h (i:=0) (by simp)
      cases e
   subst G;clear h;go_enter func48,ntmps48
   go_wp2
   go_ret;exact⟨none,0,Z,Ze,⟨Z,.inl ⟨Z,Z⟩⟩,fun x I=>by simp[Value.ownBlock] at I,Zr⟩
 | some ad =>
   have L:Hid (∀ (j:Nat) (u:Value),(l.map (Value.int .i64))[j]?=some u->(w.alloc (.cells #[] 2)).cell? (ad.add j)=some u):=by
    intro j u t;rw[XS] at t
    obtain⟨y,O,rfl⟩:=Option.map_eq_some_iff.1 t
    have hj:=(Zi O).1;obtain⟨g,o,e,-,hg,X⟩:=ZW h hj
    cases e
    rw[Addr.add_lit]
    refine Lib.cell?_alloc_some _ ?_;rw[X]
    simp[List.getD,O]
   have N:Hid (∀ u∈l.map (Value.int .i64),u.oneCell'=true):=by intro u t;obtain⟨x,_,rfl⟩:=List.mem_map.1 t;rfl
   have U:Hid ((l.map (Value.int .i64)).length=l.length*1):=by show _=_;simp
   have f:=Qb (Zb w (.cells #[] 2));have S:Hid ((w.alloc (.cells #[] 2)).heap.size=w.heap.size+1):=by show _=_;simp
   clear h;generalize s:l.map (Value.int .i64)=T at *;have E:=Qb s;generalize r:l.length=nn at *;have H:=Qb r;clear s r;go_enter func48,ntmps48
   go_wp2_with (at_builtin;refine ZL _ Z _ _ 25 Z 2 i0 (Iv 0) 1 8 iUnder64 hi A v B Z (by decide) _ _ _ Z (World.ownsRow_made w #[] 0 (Xb _) (Xb _) Z) ad nn c T Z U.out L.out N.out (by unfold maxLen;omega) (by omega) ?_)
   intro M P C d K
   have R:Hid (QcK w l (.returned M) P):=by
    have b:P.ownsRow 0 2 1 M l.length (l.map (Value.int .i64)):=by rw[E.out,H.out];simpa using C
    obtain⟨J,z,rfl⟩:=Qba b
    have m:l.length<=z:=by
     rcases b.2 with ⟨e,e0⟩|⟨g,cp,W,e,_,hh,V,_⟩
     ·rw[Value.slice.injEq] at e;omega
     ·rw[Value.slice.injEq] at e;omega
    refine⟨J,z,Z,m,b,fun x I=>?_,?_⟩
    ·rcases K x I with e | e
     ·simp[Value.ownBlock] at e;omega
     ·have:=S.out;omega
    ·refine⟨d.os.trans f.out.os,d.tape.trans f.out.tape,d.output.trans f.out.output,Zt f.out.size d.size,fun k hk=>(d.block k (by have:=S.out;omega) (fun e=>by simp[Value.ownBlock] at e;omega)).trans (f.out.block k hk)⟩
   obtain⟨J,z,rfl⟩:=Qba C
   clear C d K L N U f;go_wp2
   go_ret;exact R.out
def QiR (lo:Nat) (l:List Int) (v:Value) (w:World):Prop:=∃ a cap,v=.slice a l.length cap/\l.length<=cap/\w.ownsRow 0 2 1 (.slice a l.length cap) l.length (l.map (Value.int .i64))/\∀ x,(Value.slice a l.length cap).ownBlock=some x->lo<=x
theorem QiR.below {lo:Nat}{w w':World}(h:QiR lo l v w) (b:Below w.heap.size w w'):QiR lo l v w':=by
 obtain⟨a,c,e,g,d,i⟩:=h
 exact⟨a,c,e,g,QM d (fun x f=>b.block x (XC (QT d f).choose_spec)),i⟩
def Qn8 (w6:World) (Z cb co:Nat) (pb po:Option Addr) (lb lo:List Int) (t:Tmp) (v:Value) (w:World):Prop :=
 match ([(10,QiR w6.heap.size lb),(13,QiR w6.heap.size lo)]:List (Tmp × (Value->World->Prop))).lookup t with
 | some p=>p v w
 | none=>v=(([(3,.pointer (some ⟨Z,0,none⟩)),(8,.pointer (some ⟨Z,1,none⟩)),(9,.slice pb lb.length cb),(11,.pointer (some ⟨Z,2,none⟩)),(12,.slice po lo.length co),(14,.pointer (some ⟨Z,1,none⟩))]:List (Tmp × Value)).lookup t).getD undef
theorem io2 {Z o y:Nat}{A s:Option Addr}{j lo:List Int}(E:w6.cell? ⟨Z,1,none⟩=some (.slice A j.length o)) (F:w6.cell? ⟨Z,2,none⟩=some (.slice s lo.length y)) (G:Hid (∀ wx,Below w6.heap.size w6 wx->Calls prog 48 #[.slice A j.length o] wx fun e w'=>QcK wx j e w')) (C:Hid (∀ wx,Below w6.heap.size w6 wx->Calls prog 48 #[.slice s lo.length y] wx fun e w'=>QcK wx lo e w'))
 (a:Act) (m:Nat) (hn:a.tmps.size=m) (k:17<=m) (g:a.tmps.getD 3 undef=Pv Z 0)
 (hend:∀ ops vs w',(QiR w6.heap.size j) (vs 10) w'->(QiR w6.heap.size lo) (vs 13) w'->vs 14=Pv Z 1->Below w6.heap.size w6 w'->wpList prog ops Q (QaI 7 ((Tryz.f23.body.bind (Qf 2)).getD .skip)) (QC a vs [8,9,10,11,12,13,14]) w') :
 Code.wp prog ((Tryz.f23.body.bind (Qf 2)).getD .skip) Q a w6:=by
 conv=>arg 2;whnf
 refine Qj 7 (Qn8 w6 Z o y A s j lo) (fun w=>Below w6.heap.size w6 w) (fun w w'=>Below w.heap.size w w') (outs:=[3]) (gs:=[]) (bs:=[true,true,true,true,true,true,true]) (by kernel_rfl) (n:=17) hn k (by kernel_rfl) (by kernel_rfl) ?hR ?hG (Qh Zr 1) ⟨g,Y⟩ ?hA ?hend
 case hR =>
  intro t v w w' B h;unfold Qn8 at h |-;split at h
  ·rename_i p d
   simp only[List.lookup_cons,List.lookup_nil] at d
   split at d
   ·cases d;exact h.below B
   ·split at d
    ·cases d;exact h.below B
    ·cases d
  ·exact h
 case hG=>exact Y
 case hend=>exact fun ops vs w' b c=>hend ops vs w' (c 10 (by kernel_rfl)) (c 13 (by kernel_rfl)) (c 14 (by kernel_rfl)) b
 case hA =>
  repeat
   refine⟨fun a w b c K z=>?_,?_⟩
   focus first
    | obtain⟨f,-⟩:=c
      conv at f=>whnf;rhs;whnf
      have J:=Qn E b;have I:=Qn F b;go_simp;exact z _ _ Zr b Yz
    | obtain⟨f,-⟩:=c
      conv at f=>whnf;rhs;whnf
      go_simp;refine Xm (G.out w b) ?_;rintro D H ⟨l,q,rfl,r,u,g,i⟩;go_simp;exact z _ _ i (b.trans (i.mono b.size)) ⟨l,q,Yz,r,u,fun x hx=>Zt b.size (g x hx)⟩
    | obtain⟨f,-⟩:=c
      conv at f=>whnf;rhs;whnf
      go_simp;refine Xm (C.out w b) ?_;rintro D H ⟨l,q,rfl,r,u,g,i⟩;go_simp;exact z _ _ i (b.trans (i.mono b.size)) ⟨l,q,Yz,r,u,fun x hx=>Zt b.size (g x hx)⟩
  trivial
section
variable {w w' w2:World}{b most n:Nat}{m:List (MFunc 6)}{M M' N:IM}{sc sa:Int}{g g1:MG}{e:Ending}
def Qn2 (lo:Nat) (M:IM) (v:Value) (w:World):Prop:=∃ vb vo,v=.agg #[Iv M.fin,vb,vo,Iv M.fuel]/\QiR lo M.back vb w/\QiR lo M.out vo w
theorem Qdt {w:World}{a0 e f g:Value}(h:w.heap[R]?=some (.cells #[a0,e,f,g] 44 (0,0))) (b c a d:Value) :
 ((((w.setCell ⟨R,0,none⟩ b).setCell ⟨R,1,none⟩ c).setCell ⟨R,2,none⟩ a).setCell ⟨R,3,none⟩ d).heap[R]?=some (.cells #[b,c,a,d] 44 (0,0)):=by
 have:=Qm (Qm (Qm (Qm h 0 b) 1 c) 2 a) 3 d
 simpa using this
theorem QfV (S:MAt w b most m M sc sa g) (ho:M.out.length<=1000000) (hb:M.back.length<=1000000) (ad:∀ x∈M.out,ZE x) :
 Calls prog 23 #[Pv b 0] w fun e w'=>∃ v,e=.returned v/\Qn2 w.heap.size M v w'/\Below w.heap.size w w':=by
 obtain⟨po,co,eo⟩:=Qba S.out
 obtain⟨Q,T,U,-⟩:=S.back
 have U:g.vb=.slice Q M.back.length T:=by simpa using U
 have K:=Qb (Zb w (.cells #[Iv 0,Nv,Nv,Iv 0] 44));have BR:=Qb (Qe w #[Iv 0,Nv,Nv,Iv 0] 44);have u:=S.below K.out;have q5:=Qa u.box 5 _ Yz;have q6:(w.alloc (.cells #[Iv 0,Nv,Nv,Iv 0] 44)).cell? ⟨b,6,none⟩=some g.vb:=Qa u.box 6 _ Yz;have q7:(w.alloc (.cells #[Iv 0,Nv,Nv,Iv 0] 44)).cell? ⟨b,7,none⟩=some g.vo:=Qa u.box 7 _ Yz;have q8:=Qa u.box 8 _ Yz;rw[U] at q6
 rw[eo] at q7
 have HB:=Qb u.back;have HO:=Qb u.out;rw[U] at HB
 rw[eo] at HO
 have ai:=Qb ad;clear S u eo U ad;go_enter func23,ntmps23
 go_upto_region 1 with fail
 generalize w.alloc (.cells #[Iv 0,Nv,Nv,Iv 0] 44)=I at K BR q5 q6 q7 q8 HB HO |-;generalize hR:w.heap.size=R at BR |-;have HR:=Qb hR;clear hR;have H:=Qb (Zb I (.cells #[Iv M.fin,.slice Q M.back.length T,.slice po M.out.length co,Iv M.fuel] 44));have E:=Qb (Qe I #[Iv M.fin,.slice Q M.back.length T,.slice po M.out.length co,Iv M.fuel] 44);go_upto_region 2 with fail
 have C:Hid (R≠I.heap.size):=by show _≠_;have:=XC BR.out;omega
 have B:Hid (w.heap.size<=I.heap.size):=K.out.size;generalize I.alloc (.cells #[Iv M.fin,.slice Q M.back.length T,.slice po M.out.length co,Iv M.fuel] 44)=J at H E |-;generalize I.heap.size=Z at E C B |-;have CB:Hid (∀ o,Below J.heap.size J o->Calls prog 48 #[.slice Q M.back.length T] o fun e w'=>QcK o M.back e w'):=fun o bx=>Qct (Ya (Ya HB.out H.out) bx) hb;have CO:Hid (∀ o,Below J.heap.size J o->Calls prog 48 #[.slice po M.out.length co] o fun e w'=>QcK o M.out e w'):=fun o bx=>Qct (Ya (Ya (Qg4 (O:=fun _=>True) HO.out ai.out (fun _ _=>trivial)) H.out) bx) ho;have G:=Qb (K.out.trans (H.out.mono K.out.size));have N:=Qb (Blk.below BR.out H.out);refine io2 (Qa E.out 1 _ Yz) (Qa E.out 2 _ Yz) CB CO _ _ Yz (Xg (by kernel_rfl)) Yz ?_;rintro ah vs n ⟨f,h,s,ae,ac,W⟩ ⟨i,a,q,af,L,V⟩ r b5;show wpList _ ah _ [_,_,_] (QC _ vs [8,9,10,11,12,13,14]) n;simp only[QC,Act.put,List.setIfInBounds_toArray,List.set_cons_zero,List.set_cons_succ,s,q,r]
 have c:=Blk.below E.out b5;have ak:=Qb (Blk.below N.out b5);have B5:=Qb (G.out.trans (b5.mono G.out.size));have aj:Hid (Z<J.heap.size):=XC E.out;have y:=Qb (Xh ac W);have D:=Qb (Xh L V);have aa:=Qb (Xh ae af);have k0:=Qa c 0 _ Yz;have k1:=Qa c 1 _ Yz;have k2:=Qa c 2 _ Yz;have k3:=Qa c 3 _ Yz;have y0:=Qd c 0;have y1:=Qd c 1;have y2:=Qd c 2;have y3:=Qd c 3;have A:=Qm (Qm c 1 (.slice f M.back.length h)) 2 (.slice i M.out.length a);have A:Hid (((n.setCell ⟨Z,1,none⟩ (.slice f M.back.length h)).setCell ⟨Z,2,none⟩ (.slice i M.out.length a)).heap[Z]?=some (.cells #[Iv M.fin,.slice f M.back.length h,.slice i M.out.length a,Iv M.fuel] 44 (0,0))):=A.trans (by simp);have F:Hid (∀ k,k≠Z->((n.setCell ⟨Z,1,none⟩ (.slice f M.back.length h)).setCell ⟨Z,2,none⟩ (.slice i M.out.length a)).heap[k]?=n.heap[k]?):=fun k z=>by rw[Xd _ _ _ _ z,Xd _ _ _ _ z]
 have ag:Hid (n.heap.size=((n.setCell ⟨Z,1,none⟩ (.slice f M.back.length h)).setCell ⟨Z,2,none⟩ (.slice i M.out.length a)).heap.size):=by show _=_;simp
 have P:Hid (Below w.heap.size w ((n.setCell ⟨Z,1,none⟩ (.slice f M.back.length h)).setCell ⟨Z,2,none⟩ (.slice i M.out.length a))):=(B5.out.setCell (p:=⟨Z,1,none⟩) B.out _).setCell (p:=⟨Z,2,none⟩) B.out _;clear s q r ae ac W af L V b5 CB CO c E q5 q6 q7 q8 HB HO K H;go_upto_region 3 with fail
 generalize (n.setCell ⟨Z,1,none⟩ (.slice f M.back.length h)).setCell ⟨Z,2,none⟩ (.slice i M.out.length a)=w6 at A F ag P |-;clear k0 k1 k2 k3 y0 y1 y2 y3;have d:=Qb ((F.out R C.out).trans ak.out);have e0:=Qa A.out 0 _ Yz;have e1:=Qa A.out 1 _ Yz;have e2:=Qa A.out 2 _ Yz;have e3:=Qa A.out 3 _ Yz;have r0:=Qa d.out 0 _ Yz;have r1:=Qa d.out 1 _ Yz;have r2:=Qa d.out 2 _ Yz;have r3:=Qa d.out 3 _ Yz;have z0:=Qd d.out 0;have z1:=Qd d.out 1;have z2:=Qd d.out 2;have z3:=Qd d.out 3;have al:¬ R=Z:=C.out;go_wp2_with fail
 have X9:=Qdt d.out (Iv M.fin) (.slice f M.back.length h) (.slice i M.out.length a) (Iv M.fuel);have l:w.heap.size<=R:=by rw[HR.out];exact Ze
 have B9:=(((P.out.setCell (p:=⟨R,0,none⟩) l (Iv M.fin)).setCell (p:=⟨R,1,none⟩) l (.slice f M.back.length h)).setCell (p:=⟨R,2,none⟩) l (.slice i M.out.length a)).setCell (p:=⟨R,3,none⟩) l (Iv M.fuel);have O9:∀ k,k≠R->((((w6.setCell ⟨R,0,none⟩ (Iv M.fin)).setCell ⟨R,1,none⟩ (.slice f M.back.length h)).setCell ⟨R,2,none⟩ (.slice i M.out.length a)).setCell ⟨R,3,none⟩ (Iv M.fuel)).heap[k]?=w6.heap[k]?:=fun k z=>by rw[Xd _ _ _ _ z,Xd _ _ _ _ z,Xd _ _ _ _ z,Xd _ _ _ _ z]
 generalize ((((w6.setCell ⟨R,0,none⟩ (Iv M.fin)).setCell ⟨R,1,none⟩ (.slice f M.back.length h)).setCell ⟨R,2,none⟩ (.slice i M.out.length a)).setCell ⟨R,3,none⟩ (Iv M.fuel))=w9 at X9 B9 O9 |-
 have j:∀ x,J.heap.size<=x->w9.heap[x]?=n.heap[x]?:=fun x t=>by
  have h1:=aj.out;have h2:=XC N.out;exact(O9 x (by omega)).trans (F.out x (by omega))
 have f0:=Qa X9 0 _ Yz;have f1:=Qa X9 1 _ Yz;have f2:=Qa X9 2 _ Yz;have f3:=Qa X9 3 _ Yz;have X:=G.out.size;exact Xy (v:=.agg #[Iv M.fin,.slice f M.back.length h,.slice i M.out.length a,Iv M.fuel]) (by simp[results,results23,go_sem,f0,f1,f2,f3]) Yz ⟨_,Yz,⟨_,_,Yz,⟨f,h,Yz,aa.out.1,QM y.out.1 (fun x t=>j x (y.out.2 x t)),fun x t=>Zt X (y.out.2 x t)⟩,⟨i,a,Yz,aa.out.2,QM D.out.1 (fun x t=>j x (D.out.2 x t)),fun x t=>Zt X (D.out.2 x t)⟩⟩,B9⟩
end
section
variable {m:List (MFunc 6)}{op:Int->Int->Int->Option Int}{most:Nat}
theorem steps_snoc:∀ (k:Nat) (M:IM),IM.steps m op most (k+1) M=(match IM.steps m op most k M with | none=>none | some N=>if N.done then some N else N.step m op most)
 | 0,M=>by
   show (if M.done then some M else match M.step m op most with | none=>none | some M'=>some M')=if M.done then some M else M.step m op most
   by_cases h:M.done=true
   ·rw[Xs h,Xs h]
   ·rw[Xr h,Xr h];cases M.step m op most<;>rfl
 | k+1,M=>by
   have b:IM.steps m op most (k+1+1) M=if M.done then some M else match M.step m op most with | none=>none | some M'=>M'.steps m op most (k+1):=rfl
   have a:IM.steps m op most (k+1) M=if M.done then some M else match M.step m op most with | none=>none | some M'=>M'.steps m op most k:=rfl
   rw[b,a]
   by_cases h:M.done=true
   ·rw[Xs h,Xs h];simp[h]
   ·rw[Xr h,Xr h]
    cases M.step m op most with
    | none=>rfl
    | some M'=>exact steps_snoc k M'
theorem QcP {M N:IM}(h:IM.steps m op most k M=some N) (a:N.done=false):IM.steps m op most (k+1) M=N.step m op most:=by
 rw[steps_snoc,h]
 simp[a]
theorem QbK {M:IM}:∀ {k j:Nat},IM.steps m op most k M=none->IM.steps m op most (k+j) M=none
 | k,0,h=>h
 | k,j+1,h=>by rw[<-Nat.add_assoc,steps_snoc,QbK (j:=j) h]
theorem Qbz {M N:IM}:∀ {k j:Nat},IM.steps m op most k M=some N->N.done=true->IM.steps m op most (k+j) M=some N
 | k,0,h,_=>h
 | k,j+1,h,hd=>by rw[<-Nat.add_assoc,steps_snoc,Qbz (j:=j) h hd];simp[hd]
theorem Qdc (g:(modFault m).1=0) (e:M64 m) (d:∀ k a b c,op k a b=some c->ZE a->ZE b->ZE c){M:IM}(I:IOk m 0 M):∀ (k:Nat){N:IM},k<=30000->IM.steps m op most k M=some N->IOk m (28*k) N
 | 0,N,_,h=>by cases h;exact I
 | k+1,N,hk,h=>by
   rw[steps_snoc] at h
   cases hs:IM.steps m op most k M with
   | none=>rw[hs] at h;cases h
   | some N' =>
     rw[hs] at h
     simp only at h
     have J:=Qdc g e d I k (by omega) hs;by_cases f:N'.done=true
     ·rw[Xs f] at h;cases h;exact J.mono (by omega)
     ·rw[Xr f] at h
      exact(QkX J (by omega) g e d N h).mono (by omega)
end
def Qn4 (w:World) (m:List (MFunc 6)) (inp:List Int) (fuel pages:Nat) (e:Ending) (w':World):Prop :=
 ∃ b g,e=.returned (.tuple #[Pv b 0,Qa8 0 0])/\MAt w' b fuel m (IM.start inp pages) 0 0 g/\(∀ x,g.A x->w.heap.size<=x)/\Below w.heap.size w w'
def Qeo (m:List (MFunc 6)) (most:Nat) (M0:IM) (sa:Int):Prop:=∃ k N,k<=most+1/\IM.steps m aOp most k M0=some N/\N.done=false/\IM.step m aOp most N=none/\sa=IM.place m N
structure QeL (wL w:World) (b F most:Nat) (m:List (MFunc 6)) (M0 N:IM) (sc sa:Int) (g:MG):Prop where
 at_:MAt w b most m N sc sa g
 far:∀ x,g.A x->wL.heap.size<=x
 bel:Below wL.heap.size wL w
 box:Blk w F #[Iv sc,Iv sa] 32
 apart:¬ g.A F
 farF:wL.heap.size<=F/\b<=F
 st:(sc=0/\sa=0/\∃ k M',k<=most+1/\IM.steps m aOp most k M0=some M'/\N.like M'/\(M'.done=false->N=M'/\M'.fuel=k))\/(sc=20/\Qeo m most M0 sa)
def boolOf:Value->Bool
 | .bool b=>b
 | _=>false
def Qf1 (b F most:Nat) (w:World):Nat:=if boolOf ((w.cell? ⟨b,9,none⟩).getD undef) then 0 else if intOf ((w.cell? ⟨F,0,none⟩).getD undef)=0 then most+1 - (intOf ((w.cell? ⟨b,8,none⟩).getD undef)).toNat+1 else 0
section
variable {wL w w':World}{b F most:Nat}{m:List (MFunc 6)}{M0 N:IM}{sc sa:Int}{g:MG}
theorem QeL.left (R:QeL wL w b F most m M0 N sc sa g):Qf1 b F most w=if N.done then 0 else if sc=0 then most+1 - N.fuel+1 else 0:=by
 unfold Qf1;have e:w.cell? ⟨b,9,none⟩=some (.bool N.done):=Qa R.at_.box 9 _ Z;have d:w.cell? ⟨b,8,none⟩=some (Iv N.fuel):=Qa R.at_.box 8 _ Z;have f:=Qa R.box 0 _ Z;rw[e,d,f]
 by_cases a:N.done=true
 ·simp[a,boolOf]
 ·by_cases c:sc=0
  ·simp[a,c,intOf,boolOf]
  ·simp[a,c,intOf,boolOf]
def Qd1 (w:World) (m:List (MFunc 6)) (inp:List Int) (most pages:Nat) (e:Ending) (w':World):Prop:=Below w.heap.size w w' /\
 ((∃ sa:Int,Qeo m most (IM.start inp pages) sa/\e=.returned (.tuple #[.agg #[Iv 0,Nv,Nv,Iv 0],Qa8 20 sa])) \/
  ∃ k M',k<=most+1/\IM.steps m aOp most k (IM.start inp pages)=some M'/\M'.done=true/\∃ v,Qn2 w.heap.size M' v w'/\e=.returned (.tuple #[v,Qa8 0 0]))
theorem QeL.go (T:MakeArr) (J:(modFault m).1=0) (u:M64 m) (U:most<=20000) (I0:IOk m 0 M0) (aa:M0.fuel=0) (R:QeL wL w b F most m M0 N 0 sa g) (v:N.done=false) :
 Calls prog 17 #[Pv b 0] w fun e w'=>∃ c a,e=.returned (Qa8 c a)/\Blk w' F #[Iv 0,Iv sa] 32/\(∃ N' g',QeL wL ((w'.setCell ⟨F,0,none⟩ (Iv c)).setCell ⟨F,1,none⟩ (Iv a)) b F most m M0 N' c a g'/\(N'.done=false->c=0->N'.fuel=N.fuel+1))/\N.fuel<=most:=by
 rcases R.st with ⟨-,E,k,q,y,z,Q,hn⟩|⟨h,-⟩
 rotate_left
 ·cases h
 subst E;have I:q.done=false:=by rw[<-Q.done];exact v
 obtain⟨X,ab⟩:=hn I
 subst X;have i:=(Qdl (op:=aOp) (m:=m) k (M:=M0) (by omega) z).2.1;have K:=Qdc J u (fun k a b c h V hb=>QiM V hb h) I0 k (by omega) z;refine(Qjj T (R.at_) K (by omega) J u i (by omega) v).mono (fun e w' h=>?_)
 have G:=XC R.box;have D:=QcP z v
 have r:∀ {N':IM} {c a:Int},XGo g w w' b most m N' c a->((c=0/\a=0/\∃ k q,k<=most+1/\IM.steps m aOp most k M0=some q/\N'.like q/\(q.done=false->N'=q/\q.fuel=k))\/(c=20/\Qeo m most M0 a))->Blk w' F #[Iv 0,Iv 0] 32/\∃ g',QeL wL ((w'.setCell ⟨F,0,none⟩ (Iv c)).setCell ⟨F,1,none⟩ (Iv a)) b F most m M0 N' c a g':=by
  intro N' c a j d;obtain⟨g',S,l⟩:=j
  have t:¬ g'.A F:=fun e=>by rcases l.own _ e with e | e;exact R.apart e;omega
  have o:=(l.block F G R.apart).trans R.box;refine⟨o,g',⟨?_,?_,?_,ZK o _ _,t,R.farF,d⟩⟩
  ·refine S.other t R.farF.2 (fun cc L=>?_) (by simp) (fun k y _=>by rw[Xd _ _ _ _ y,Xd _ _ _ _ y]);rw[o] at L
   simp at L
  ·intro x j;rcases l.own x j with e | e
   ·exact R.far x e
   ·have:=R.bel.size;omega
  ·have W:Below wL.heap.size wL w':=⟨l.os.trans R.bel.os,l.tape.trans R.bel.tape,l.output.trans R.bel.output,Zt R.bel.size l.size,fun x j=>(l.block x (by have:=R.bel.size;omega) (fun e=>by have:=R.far x e;omega)).trans (R.bel.block x j)⟩;exact(W.setCell (p:=⟨F,0,none⟩) R.farF.1 _).setCell (p:=⟨F,1,none⟩) R.farF.1 _
 cases d:IM.step m aOp most N with
 | none =>
   rw[d] at h D
   obtain⟨rfl,j⟩:=h
   obtain⟨B,g',C⟩:=r j (.inr ⟨Z,k,N,y,z,v,d,Z⟩)
   exact⟨20,_,Z,B,⟨_,g',C,fun _ f=>by cases f⟩,i⟩
 | some M1 =>
   rw[d] at h D
   obtain⟨rfl,N',j,n,H⟩:=h
   have P:=QgP i d
   have s:M1.done=false->M1.fuel=N.fuel+1:=fun f=>by
    rcases Nat.lt_or_ge N.fuel most with O | O
    ·exact P.2.1 O
    ·have:=P.1 (by omega)
     rw[this] at f
     cases f
   obtain⟨B,g',C⟩:=r j (.inl ⟨Z,Z,k+1,M1,by omega,D,n,fun f=>⟨H f,by rw[s f];omega⟩⟩)
   refine⟨0,0,Z,B,⟨N',g',C,fun f _=>?_⟩,i⟩
   rw[n.fuel]
   exact s (by rw[<-n.done];exact f)
theorem Qj9 {w:World}(CM:MakeArr) (hm:(modFault m).1=0) (au:M64 m) (M:most<=20000) (I0:IOk m 0 (IM.start inp pages))
 (CN:∀ wx,Below w.heap.size w wx->Calls prog 13 #[.agg #[.slice pm m.length cm],.slice pi inp.length ci,Iv (most:Int),Iv (pages:Int)] wx fun e w'=>Qn4 wx m inp most pages e w') :
 Calls prog 24 #[.agg #[.slice pm m.length cm],.slice pi inp.length ci,Iv (most:Int),Iv (pages:Int)] w fun e w'=>Qd1 w m inp most pages e w':=by
 have ax:Hid MakeArr:=CM;have HM:=Qb (Xh hm au);have HI:=Qb I0;have av:=Qb M;have a1:=Qb CN;have B3:=Qb ((QaT w (.cells #[.slice pm m.length cm] 24) (.cells #[Iv 0,Nv,Nv,Iv 0] 44)).alloc (by simp;omega) (.cells #[Iv 0,Iv 0] 32));clear CM hm au M I0 CN;go_enter func24,ntmps24
 go_upto_region 1 with fail
 have aa:((w.alloc (.cells #[.slice pm m.length cm] 24)).alloc (.cells #[Iv 0,Nv,Nv,Iv 0] 44)).heap.size=w.heap.size+1+1:=by simp
 have BX:Hid (Blk (((w.alloc (.cells #[.slice pm m.length cm] 24)).alloc (.cells #[Iv 0,Nv,Nv,Iv 0] 44)).alloc (.cells #[Iv 0,Iv 0] 32)) w.heap.size #[.slice pm m.length cm] 24):=Blk.below (Qh1 w #[.slice pm m.length cm] 24 _) (Zb _ _);have B8:Hid (Blk (((w.alloc (.cells #[.slice pm m.length cm] 24)).alloc (.cells #[Iv 0,Nv,Nv,Iv 0] 44)).alloc (.cells #[Iv 0,Iv 0] 32)) (w.heap.size+1) #[Iv 0,Nv,Nv,Iv 0] 44):=Blk.below (Qcr w _ #[Iv 0,Nv,Nv,Iv 0] 44) (Zb _ _)
 have T:Hid (Blk (((w.alloc (.cells #[.slice pm m.length cm] 24)).alloc (.cells #[Iv 0,Nv,Nv,Iv 0] 44)).alloc (.cells #[Iv 0,Iv 0] 32)) (w.heap.size+1+1) #[Iv 0,Iv 0] 32):=by
  have:=Qe ((w.alloc (.cells #[.slice pm m.length cm] 24)).alloc (.cells #[Iv 0,Nv,Nv,Iv 0] 44)) #[Iv 0,Iv 0] 32
  rw[aa] at this
  exact this
 clear aa;generalize ((w.alloc (.cells #[.slice pm m.length cm] 24)).alloc (.cells #[Iv 0,Nv,Nv,Iv 0] 44)).alloc (.cells #[Iv 0,Iv 0] 32)=w3 at B3 BX B8 T |-;have n:Hid (w.heap.size<=w.heap.size+1):=by show _<=_;omega
 have u:Hid (w.heap.size<=w.heap.size+1+1):=by show _<=_;omega
 generalize aq:w.heap.size+1+1=f at T u |-;generalize a0:w.heap.size+1=d at B8 n aq |-;have G:Hid (d≠f):=by show _≠_;omega
 clear aq a0;have x0:=Qa BX.out 0 _ Z;have CN:=Qb (a1.out w3 B3.out);generalize w.heap.size=X at x0 |-;go_upto_region 2 with (go_at_call 13;refine CN.out.mono ?_;rintro e' w4 ⟨b,g,rfl,S4,am,b4⟩)
 have B5:=Zb w4 (.cells #[Iv 0,Iv 0] 32);have BF:=Qe w4 #[Iv 0,Iv 0] 32;have RA:Hid (QeL w3 (w4.alloc (.cells #[Iv 0,Iv 0] 32)) b w4.heap.size most m (IM.start inp pages) (IM.start inp pages) 0 0 g):=⟨S4.below B5,am,b4.trans (B5.mono b4.size),BF,fun e=>by have:=S4.lt _ e;omega,⟨b4.size,Nat.le_of_lt (XC S4.box)⟩,.inl ⟨Z,Z,0,_,Xb _,Z,IM.like.refl _,fun _=>⟨Z,Z⟩⟩⟩;clear CN S4 am b4 B5 BF x0;generalize w4.alloc (.cells #[Iv 0,Iv 0] 32)=w5 at RA |-;generalize w4.heap.size=F at RA |-;go_loopw [] (fun wr=>∃ N sc q g,QeL w3 wr b F most m (IM.start inp pages) N sc q g) (fun wr=>Qf1 b F most wr)
 case atStart=>exact⟨_,_,_,_,RA.out⟩
 case round =>
  obtain⟨N,sc,q,g9,hR⟩:=hrel
  have R:=Qb hR;have c0:=Qa hR.box 0 _ Z;have c1:=Qa hR.box 1 _ Z;have S:=Qb (Qjf hR.at_);clear hR RA;by_cases V:sc=0
  ·subst V
   cases hdn:N.done with
   | false =>
     rw[hdn] at S
     have CS:=Qb (QeL.go ax.out HM.out.1 HM.out.2 av.out HI.out Z R.out hdn);have ak:=Qb R.out.left;rw[hdn] at ak
     go_wp2_with (go_at_call 19;refine S.out.mono ?_;rintro e' w' ⟨rfl,U⟩;have U:=U.symm;subst U)
     refine CS.out.mono ?_;rintro e' w8 ⟨c,a,rfl,y,⟨N',g',aw,aj⟩,al⟩;have R2:=Qb aw;have d0:=Qa y 0 _ Z;have d1:=Qa y 1 _ Z;have z0:=Qd y 0;have z1:=Qd y 1;have ap:=Qb (Xh aj al);clear y aw aj CS S c0 c1 al;go_wp2
     go_roundw
     case rel=>exact⟨_,_,_,_,R2.out⟩
     case measure =>
      have h1:=R2.out.left;have h2:=ak.out;rw[h1,h2]
      simp only[Bool.false_eq_true,if_false,if_true]
      by_cases Q:N'.done=true
      ·rw[Xs Q];omega
      ·rw[Xr Q]
       by_cases L:c=0
       ·rw[Xs L]
        have:=ap.out.1 (by simpa using Q) L
        have:=ap.out.2
        omega
       ·rw[Xr L];omega
   | true =>
     rw[hdn] at S
     have s:Hid (∃ k M',k<=most+1/\IM.steps m aOp most k (IM.start inp pages)=some M'/\N.like M'):=by
      rcases R.out.st with ⟨-,-,k,M',r,hs,A,hn⟩|⟨h,-⟩
      ·exact⟨k,M',r,hs,A⟩
      ·cases h
     have HK:Hid (N.out.length<=1000000/\N.back.length<=1000000/\∀ x∈N.out,ZE x):=by
      obtain⟨k,M',r,hs,A⟩:=s.out
      have M:=av.out;have J:=Qdc HM.out.1 HM.out.2 (fun k a b c h ha hb=>QiM ha hb h) HI.out k (by omega) hs;rw[A.out,A.back]
      exact⟨by have:=J.out.1;omega,by have:=J.out.2.2;omega,J.out.2.1⟩
     have CO:=Qb (QfV R.out.at_ HK.out.1 HK.out.2.1 HK.out.2.2);have i:=Qb ((R.out.bel.block d (XC B8.out)).trans B8.out);have o:=Qb ((R.out.bel.block f (XC T.out)).trans T.out);go_upto_region 6 with (go_at_call 19;refine S.out.mono ?_;rintro e' w' ⟨rfl,U⟩;have U:=U.symm;subst U)
     clear c0 c1 S;go_wp2_with fail
     refine CO.out.mono ?_;rintro e' w8 ⟨v,rfl,⟨vb,vo,rfl,⟨K,P,rfl,ai,ad,ah⟩,⟨ao,W,rfl,ar,ac,af⟩⟩,b8⟩;have l:=Qb (Blk.below i.out b8);have t:=Qb (Blk.below o.out b8);have r0:=Qa l.out 0 _ Z;have r1:=Qa l.out 1 _ Z;have r2:=Qa l.out 2 _ Z;have r3:=Qa l.out 3 _ Z;have z0:=Qd l.out 0;have z1:=Qd l.out 1;have z2:=Qd l.out 2;have z3:=Qd l.out 3;have s0:=Qa t.out 0 _ Z;have s1:=Qa t.out 1 _ Z;have y0:=Qd t.out 0;have y1:=Qd t.out 1;have D:¬ d=f:=G.out;have j:¬ f=d:=fun e=>G.out e.symm;have E:=Qb (Xh ai (Xh ad ah));have B:=Qb (Xh ar (Xh ac af));have B0:=Qb (B3.out.trans ((R.out.bel.mono Ze).trans (b8.mono R.out.bel.size) |>.mono B3.out.size));have a2:Hid (d<wr.heap.size/\f<wr.heap.size):=⟨XC i.out,XC o.out⟩;have ay:Hid (w.heap.size<=wr.heap.size):=Zt B3.out.size R.out.bel.size;clear ai ad ah ar ac af b8 CO i o;go_wp2_with fail
     have X8:=Qdt l.out (Iv N.fin) (.slice K N.back.length P) (.slice ao N.out.length W) (Iv N.fuel);have B1:=(((B0.out.setCell (p:=⟨d,0,none⟩) n.out (Iv N.fin)).setCell (p:=⟨d,1,none⟩) n.out (.slice K N.back.length P)).setCell (p:=⟨d,2,none⟩) n.out (.slice ao N.out.length W)).setCell (p:=⟨d,3,none⟩) n.out (Iv N.fuel);have O8:∀ k,k≠d->((((w8.setCell ⟨d,0,none⟩ (Iv N.fin)).setCell ⟨d,1,none⟩ (.slice K N.back.length P)).setCell ⟨d,2,none⟩ (.slice ao N.out.length W)).setCell ⟨d,3,none⟩ (Iv N.fuel)).heap[k]?=w8.heap[k]?:=fun k r=>by rw[Xd _ _ _ _ r,Xd _ _ _ _ r,Xd _ _ _ _ r,Xd _ _ _ _ r]
     generalize ((((w8.setCell ⟨d,0,none⟩ (Iv N.fin)).setCell ⟨d,1,none⟩ (.slice K N.back.length P)).setCell ⟨d,2,none⟩ (.slice ao N.out.length W)).setCell ⟨d,3,none⟩ (Iv N.fuel))=w9 at X8 B1 O8 |-;have X9:=ZK ((O8 f j).trans t.out) (Iv 0) (Iv 0);have B2:=(B1.setCell (p:=⟨f,0,none⟩) u.out (Iv 0)).setCell (p:=⟨f,1,none⟩) u.out (Iv 0);have O9:∀ k,k≠f->((w9.setCell ⟨f,0,none⟩ (Iv 0)).setCell ⟨f,1,none⟩ (Iv 0)).heap[k]?=w9.heap[k]?:=fun k r=>by rw[Xd _ _ _ _ r,Xd _ _ _ _ r]
     generalize (w9.setCell ⟨f,0,none⟩ (Iv 0)).setCell ⟨f,1,none⟩ (Iv 0)=wz at X9 B2 O9 |-;have H:=(O9 d D).trans X8
     have z:∀ x,wr.heap.size<=x->wz.heap[x]?=w8.heap[x]?:=fun x I=>by
      have h1:=a2.out;exact(O9 x (by omega)).trans (O8 x (by omega))
     have f0:=Qa H 0 _ Z;have f1:=Qa H 1 _ Z;have f2:=Qa H 2 _ Z;have f3:=Qa H 3 _ Z;have g0:=Qa X9 0 _ Z;have g1:=Qa X9 1 _ Z;have an:=ay.out;refine Xy (v:=.tuple #[.agg #[Iv N.fin,.slice K N.back.length P,.slice ao N.out.length W,Iv N.fuel],Qa8 0 0]) (by simp[results,results24,go_sem,f0,f1,f2,f3,g0,g1]) Z ⟨B2,?_⟩;obtain⟨k,M',r,hs,A⟩:=s.out
     refine .inr ⟨k,M',r,hs,?_⟩;refine⟨by rw[<-A.done];exact hdn,_,⟨.slice K N.back.length P,.slice ao N.out.length W,by rw[<-A.fin,<-A.fuel],?_,?_⟩,Z⟩
     ·rw[<-A.back]
      exact⟨K,P,Z,E.out.1,QM E.out.2.1 (fun x I=>z x (E.out.2.2 x I)),fun x I=>Zt an (E.out.2.2 x I)⟩
     ·rw[<-A.out]
      exact⟨ao,W,Z,B.out.1,QM B.out.2.1 (fun x I=>z x (B.out.2.2 x I)),fun x I=>Zt an (B.out.2.2 x I)⟩
  ·have s:Hid (sc=20/\Qeo m most (IM.start inp pages) q):=by
    rcases R.out.st with ⟨h,-⟩ | h
    ·exact absurd h V
    ·exact h
   have az:=s.out.1;subst az;have i:=Qb ((R.out.bel.block d (XC B8.out)).trans B8.out);have o:=Qb ((R.out.bel.block f (XC T.out)).trans T.out);have r0:=Qa i.out 0 _ Z;have r1:=Qa i.out 1 _ Z;have r2:=Qa i.out 2 _ Z;have r3:=Qa i.out 3 _ Z;have z0:=Qd i.out 0;have z1:=Qd i.out 1;have z2:=Qd i.out 2;have z3:=Qd i.out 3;have s0:=Qa o.out 0 _ Z;have s1:=Qa o.out 1 _ Z;have y0:=Qd o.out 0;have y1:=Qd o.out 1;have D:¬ d=f:=G.out;have j:¬ f=d:=fun e=>G.out e.symm;have a4:¬ F=d:=fun e=>by have h1:=R.out.farF.1;have h2:=XC B8.out;omega
   have a5:¬ F=f:=fun e=>by have h1:=R.out.farF.1;have h2:=XC T.out;omega
   have B0:=Qb (B3.out.trans (R.out.bel.mono B3.out.size));clear S V;go_upto_region 5 with fail
   have a3:Hid (∀ O:World,(∀ k:Nat,O.heap[k]?=wr.heap[k]?)->Below wr.heap.size wr O->Qd1 w m inp most pages (.returned (.tuple #[.agg #[Iv 0,Nv,Nv,Iv 0],Qa8 20 q])) ((((((O.setCell ⟨d,0,none⟩ (Iv 0)).setCell ⟨d,1,none⟩ (Nv)).setCell ⟨d,2,none⟩ (Nv)).setCell ⟨d,3,none⟩ (Iv 0)).setCell ⟨f,0,none⟩ (Iv 20)).setCell ⟨f,1,none⟩ (Iv q))/\((((((O.setCell ⟨d,0,none⟩ (Iv 0)).setCell ⟨d,1,none⟩ (Nv)).setCell ⟨d,2,none⟩ (Nv)).setCell ⟨d,3,none⟩ (Iv 0)).setCell ⟨f,0,none⟩ (Iv 20)).setCell ⟨f,1,none⟩ (Iv q)).heap[d]?=some (.cells #[Iv 0,Nv,Nv,Iv 0] 44 (0,0))/\((((((O.setCell ⟨d,0,none⟩ (Iv 0)).setCell ⟨d,1,none⟩ (Nv)).setCell ⟨d,2,none⟩ (Nv)).setCell ⟨d,3,none⟩ (Iv 0)).setCell ⟨f,0,none⟩ (Iv 20)).setCell ⟨f,1,none⟩ (Iv q)).heap[f]?=some (.cells #[Iv 20,Iv q] 32 (0,0))):=fun O ag b7=>by
    have X8:=Qdt ((ag d).trans i.out) (Iv 0) (Nv) (Nv) (Iv 0);have b0:=B0.out.trans (b7.mono B0.out.size);have B1:=(((((b0.setCell (p:=⟨d,0,none⟩) n.out (Iv 0)).setCell (p:=⟨d,1,none⟩) n.out (Nv)).setCell (p:=⟨d,2,none⟩) n.out (Nv)).setCell (p:=⟨d,3,none⟩) n.out (Iv 0)).setCell (p:=⟨f,0,none⟩) u.out (Iv 20)).setCell (p:=⟨f,1,none⟩) u.out (Iv q);have h9:((((O.setCell ⟨d,0,none⟩ (Iv 0)).setCell ⟨d,1,none⟩ (Nv)).setCell ⟨d,2,none⟩ (Nv)).setCell ⟨d,3,none⟩ (Iv 0)).heap[f]?=some (.cells #[Iv 0,Iv 0] 32 (0,0)):=by rw[Xd _ _ _ _ j,Xd _ _ _ _ j,Xd _ _ _ _ j,Xd _ _ _ _ j,ag f];exact o.out
    refine⟨⟨B1,?_⟩,?_,ZK h9 _ _⟩
    ·exact .inl ⟨q,s.out.2,Z⟩
    ·rw[Xd _ _ _ _ D,Xd _ _ _ _ D]
     exact X8
   go_region
   all_goals
    go_wp2_with fail
    have QQ:=a3.out wr (fun _=>rfl) Zr;generalize ((((((wr.setCell ⟨d,0,none⟩ (Iv 0)).setCell ⟨d,1,none⟩ (Nv)).setCell ⟨d,2,none⟩ (Nv)).setCell ⟨d,3,none⟩ (Iv 0)).setCell ⟨f,0,none⟩ (Iv 20)).setCell ⟨f,1,none⟩ (Iv q))=wq at QQ |-;obtain⟨⟨qb,qs⟩,q8,q9⟩:=QQ
    have C:wq.drew.heap[d]?=some (.cells #[Iv 0,Nv,Nv,Iv 0] 44 (0,0)):=q8;have ae:wq.drew.heap[f]?=some (.cells #[Iv 20,Iv q] 32 (0,0)):=q9;have f0:=Qa C 0 _ Z;have f1:=Qa C 1 _ Z;have f2:=Qa C 2 _ Z;have f3:=Qa C 3 _ Z;have g0:=Qa ae 0 _ Z;have g1:=Qa ae 1 _ Z;exact Xy (v:=.tuple #[.agg #[Iv 0,Nv,Nv,Iv 0],Qa8 20 q]) (by simp[results,results24,go_sem,f0,f1,f2,f3,g0,g1]) Z ⟨⟨qb.os,qb.tape,qb.output,qb.size,qb.block⟩,qs⟩
end
section
variable {Z:Type}{P:Program}(E:Tmp->Value->(World × Z)->Prop) (W:(World × Z)->Prop) (R:(World × Z)->(World × Z)->Prop)
def EOG:Option Tmp->Value->(World × Z)->Prop
 | some t=>E t
 | none=>fun _ _=>True
def QgV (a:Act) (w:(World × Z)):List Tmp->Prop
 | []=>True
 | t::r=>E t (a.tmps.getD t undef) w/\QgV a w r
def QiX (P:Program) (o:Oper):Prop :=
 ∀ a w,W w->QgV E a w (Qc3 o)->∀ K:Act->World->Prop,(∀ v w',R w w'->W w'->EOG E o.dst v w'->K (a.put o.dst v) w'.1)->o.wp P a w.1 K (fun _ _ _=>False)
def QgW (o:Oper):Prop:=∀ w,W w->EOG E o.dst undef w
def QfC (P:Program):List Oper->List Bool->Prop
 | o::l,true::bs=>QiX E W R P o/\QfC P l bs
 | o::l,false::bs=>QgW E W o/\QfC P l bs
 | _,_=>True
def QcS (ops:Array Oper):List (Nat × Option Bool)->Prop
 | []=>True
 | (g,c)::r=>(∀ t,(ops[g]?).bind (·.dst)=some t->∀ v w,W w->E t v w->match c with | some b=>v=.bool b | none=>v=undef)/\QcS ops r
def Qf3 (a:Act) (w:(World × Z)):List Tmp->Prop
 | []=>True
 | t::r=>E t (a.tmps.getD t undef) w/\Qf3 a w r
end
section
variable {Z:Type}{P:Program}{E:Tmp->Value->(World × Z)->Prop}{W:(World × Z)->Prop}{R:(World × Z)->(World × Z)->Prop}
theorem QfM {a:Act}{w:(World × Z)}:∀ (l:List Tmp),(∀ t∈l,E t (a.tmps.getD t undef) w)->QgV E a w l
 | [],_=>trivial
 | t::r,h=>⟨h t (by simp),QfM r fun x b=>h x (by simp[b])⟩
theorem Qe3 {a:Act}{w:(World × Z)}:∀ (l:List Tmp),Qf3 E a w l->∀ t∈l,E t (a.tmps.getD t undef) w
 | [],_,_,h=>by simp at h
 | x::r,h,t,b=>by
   rcases List.mem_cons.1 b with rfl | b
   ·exact h.1
   ·exact Qe3 r h.2 t b
theorem Qeh {a:Array Oper}:∀ (gs:List (Nat × Option Bool)),QcS E W a gs->∀ g c,gs.lookup g=some c->∀ t,(a[g]?).bind (·.dst)=some t->∀ v w,W w->E t v w->match c with | some b=>v=.bool b | none=>v=undef
 | [],_,_,_,h=>by simp at h
 | (g',c')::r,h,g,c,hl=>by
   by_cases e:g=g'
   ·subst e;simp at hl;subst hl;exact h.1
   ·have d:(g==g')=false:=by simpa using e
    simp[List.lookup_cons,d] at hl;exact Qeh r h.2 g c hl
theorem QgJ (gs:List (Nat × Option Bool)):∀ (l:List Oper) (bs:List Bool),Qjn gs l bs=true->QfC E W R P l bs->∀ (i:Nat) (o:Oper),l[i]?=some o->(onB gs o true=true/\QiX E W R P o)\/(onB gs o false=true/\QgW E W o)
 | [],_,_,_,_,_,h=>by simp at h
 | _::_,[],h,_,_,_,_=>by simp[Qjn] at h
 | x::l,b::bs,h,ha,i,o,ho=>by
   simp only[Qjn,Bool.and_eq_true] at h
   cases i with
   | zero =>
     simp at ho;subst ho
     cases b with
     | true=>exact .inl ⟨h.1,ha.1⟩
     | false=>exact .inr ⟨h.1,ha.1⟩
   | succ i =>
     simp at ho
     cases b with
     | true=>exact QgJ gs l bs h.2 ha.2 i o ho
     | false=>exact QgJ gs l bs h.2 ha.2 i o ho
structure QlA (E:Tmp->Value->(World × Z)->Prop) (W:(World × Z)->Prop) (l:List Oper) (outs:List Tmp) (a0:Act) (listed:Array Bool) (a:Act) (w:(World × Z)):Prop where
 world:W w
 defers:a.defers=a0.defers
 size:a.tmps.size=a0.tmps.size
 outer:∀ t,t ∉ Qp l->a.tmps[t]?=a0.tmps[t]?
 outs:∀ t∈outs,t ∉ Qp l->E t (a.tmps.getD t undef) w
 known:∀ j o t,l[j]?=some o->o.dst=some t->listed.getD j false=true->E t (a.tmps.getD t undef) w
theorem Qf6 {l:List Oper}{outs:List Tmp}{gs:List (Nat × Option Bool)}{a0:Act}
 (hB:Qbt l a0.tmps.size outs gs bs=true) (hR:∀ t v w w',R w w'->E t v w->E t v w') (hG:QcS E W l.toArray gs) (hA:QfC E W R P l bs)
 (ab:∀ (vs:Tmp->Value) w',W w'->(∀ t,(Qp l).contains t=true->E t (vs t) w')->Q .normal (QC a0 vs (Qp l)) w'.1) :
 ∀ (fuel:Nat) (listed:Array Bool) (a:Act) (w:(World × Z)),listed.size=l.length->(listed.toList.filter (·==false)).length<=fuel->QlA E W l outs a0 listed a w ->
  wpAny P .any l.toArray Q fuel listed a w.1:=by
 simp only[Qbt,Bool.and_eq_true] at hB
 obtain⟨⟨⟨⟨⟨am,aj⟩,L⟩,ap⟩,ak⟩,al⟩:=hB
 have aa:∀ (listed:Array Bool) (a:Act) (w:(World × Z)),listed.size=l.length->Region.ready .any l.toArray listed=[]->QlA E W l outs a0 listed a w->Q .normal a w.1:=by
  intro listed a w V J f
  have ae:∀ j,j<l.length->listed.getD j false=true:=by
   intro j
   induction j using Nat.strongRecOn with
   | _ j ih =>
     intro z
     cases r:listed.getD j false with
     | true=>rfl
     | false =>
       exfalso
       have:j∈Region.ready .any l.toArray listed:=by
        unfold Region.ready;refine List.mem_filter.2 ⟨by simpa using z,?_⟩
        have U:listed.getD j true=false:=by
         have aq:j<listed.size:=by omega
         simp[Array.getD,aq] at r |-;exact r
        have T:l.toArray[j]?=some l[j]:=by simp[z]
        rw[U,T]
        simp only[Bool.not_false,Bool.true_and,Option.map_some,Option.getD_some]
        rw[Array.all_eq_true_iff_forall_mem]
        intro e he
        cases hbd:Region.binds .any e with
        | false=>rfl
        | true =>
          have:=back_at l 0 j l[j] al (by simp[z]) e he hbd
          simp only[Bool.not_true,Bool.false_or]
          exact ih e.on (by omega) (by omega)
       rw[J] at this
       cases this
  have ah:∀ t∈Qp l,E t (a.tmps.getD t undef) w/\t<a0.tmps.size:=by
   intro t q;obtain⟨o,ho,s⟩:=List.mem_filterMap.1 q
   obtain⟨j,z⟩:=List.getElem?_of_mem ho
   have A:j<l.length:=by
    rcases Nat.lt_or_ge j l.length with h | h
    ·exact h
    ·rw[Xk h] at z;cases z
   exact⟨f.known j o t z s (ae j A),by simpa using Xe.1 L t q⟩
  have he:a=QC a0 (fun t=>a.tmps.getD t undef) (Qp l):=by
   have U:a.tmps=(QC a0 (fun t=>a.tmps.getD t undef) (Qp l)).tmps:=by
    refine Array.ext (by rw[Qbv,f.size]) fun t K M=>?_;have h3:t<a0.tmps.size:=by rw[<-f.size];exact K
    have:=Qc2 (fun t=>a.tmps.getD t undef) (Qp l) a0 t h3
    rw[Xj M] at this
    by_cases X:t∈Qp l
    ·rw[Xs X] at this
     simp only[Option.some.injEq] at this
     rw[this];simp[Array.getD,K]
    ·rw[Xr X,<-f.outer t X,Xj K] at this
     exact(Xn this).symm
   have T:a.defers=(QC a0 (fun t=>a.tmps.getD t undef) (Qp l)).defers:=by rw[Qaq,f.defers]
   cases a with
   | mk t d =>
     simp only at U T
     generalize hp:QC a0 (fun x=>t.getD x undef) (Qp l)=p at U T |-
     cases p;simp only at U T;rw[U,T]
  rw[he]
  exact ab _ _ f.world fun t q=>(ah t (by simpa using q)).1
 intro fuel
 induction fuel with
 | zero =>
   intro listed a w V hf f
   have J:Region.ready .any l.toArray listed=[]:=by
    rw[List.eq_nil_iff_forall_not_mem]
    intro i hi;obtain⟨K,M⟩:=List.mem_filter.1 hi
    have A:i<l.length:=by simpa using K
    simp only[Bool.and_eq_true,Bool.not_eq_true'] at M
    have:listed[i]'(by omega)=false:=by
     have:=M.1;simp[Array.getD,show i<listed.size by omega] at this;exact this
    have X:false∈listed.toList.filter (·==false):=List.mem_filter.2 ⟨by rw[<-this];simp,by simp⟩
    have:=List.length_pos_of_mem X
    omega
   exact⟨J,aa listed a w V J f⟩
 | succ fuel ih =>
   intro listed a w V hf f;refine⟨fun J=>aa listed a w V J f,fun i hi=>?_⟩
   obtain⟨K,M⟩:=List.mem_filter.1 hi
   have A:i<l.length:=by simpa using K
   simp only[Bool.and_eq_true,Bool.not_eq_true'] at M
   obtain⟨ac,m⟩:=M
   have ai:i<listed.size:=by omega
   have af:listed[i]=false:=by simp[Array.getD,ai] at ac;exact ac
   have ho:l.toArray[i]?=some l[i]:=by simp[A]
   have n:l[i]?=some l[i]:=by simp[A]
   generalize az:l[i]=o at ho n;rw[ho] at m
   simp only[Option.map_some,Option.getD_some] at m
   rw[Array.all_eq_true_iff_forall_mem] at m
   have u:∀ t∈o.looksAt l.toArray,E t (a.tmps.getD t undef) w:=by
    intro t q
    have:=Xe.1 (Xe.1 ap o (Zm n)) t q
    rw[Bool.or_eq_true] at this
    rcases this with h | h
    ·simp only[Bool.and_eq_true,Bool.not_eq_true'] at h
     exact f.outs t (by simpa using h.1) (by simpa using h.2)
    ·obtain⟨k,hk,h⟩:=Array.any_eq_true.1 h
     simp only[Bool.and_eq_true,beq_iff_eq] at h
     obtain⟨r,s⟩:=h
     have H:=m _ (Array.getElem_mem hk);rw[r] at H
     simp only[Bool.not_true,Bool.false_or] at H
     generalize o.after[k]=e at *;obtain⟨oj,ar,au⟩:=Option.bind_eq_some_iff.1 s
     exact f.known e.on oj t (by simpa using ar) au H
   have ax:QgV E a w (Qc3 o):=QfM _ fun t q=>u t (by
    unfold Oper.looksAt;exact List.mem_append_left _ q)
   have hw:∀ b,onB gs o b=true->Region.wanted o (yielded l.toArray a.tmps)=b:=by
    intro b r;unfold onB at r;unfold Region.wanted
    cases hg:o.guard with
    | none=>rw[hg] at r;simp only at r |-;exact r.symm
    | some gw =>
      obtain⟨g,ay⟩:=gw
      rw[hg] at r
      simp only at r |-
      cases H:gs.lookup g with
      | none=>rw[H] at r;cases r
      | some c =>
        rw[H] at r
        simp only[beq_iff_eq] at r
        have hy:yielded l.toArray a.tmps g=c:=by
         unfold yielded;have ao:(g,c)∈gs:=mem_of_lookup gs g c H;have B:=Xe.1 am _ ao
         cases s:(l.toArray[g]?).bind (·.dst) with
         | none=>rw[s] at B;cases B
         | some t =>
           have hE:=u t (by unfold Oper.looksAt;rw[hg];simp only[s];simp);have F:=Qeh gs hG g c H t s _ _ f.world hE;obtain⟨og,aw,an⟩:=Option.bind_eq_some_iff.1 s
           have N:t<a.tmps.size:=by
            rw[f.size]
            have:=Xe.1 L t (List.mem_filterMap.2 ⟨og,Zm (by simpa using aw),an⟩)
            simpa using this
           have q:a.tmps[t]?=some (a.tmps.getD t undef):=by simp[Array.getD,N]
           simp only[Option.bind_some,q]
           cases c with
           | none=>simp only at F;rw[F];rfl
           | some b=>simp only at F;rw[F]
        rw[hy,r]
   have G:((listed.setIfInBounds i true).toList.filter (·==false)).length<=fuel:=by
    have h3:=filter_set listed.toList i (by simpa using ai) (by simpa using af);rw[Array.toList_setIfInBounds]
    omega
   have I:∀ v w',W w'->(∀ t v,E t v w->E t v w')->EOG E o.dst v w'->QlA E W l outs a0 (listed.setIfInBounds i true) (a.put o.dst v) w':=by
    intro v w' O y F
    have C:∀ t,o.dst≠some t->(a.put o.dst v).tmps[t]?=a.tmps[t]?:=by
     intro t q
     cases s:o.dst with
     | none=>rfl
     | some d =>
       have:d≠t:=fun e=>q (by rw[s,e])
       simp[Act.put,this]
    have D:∀ (b c:Array Value) (t:Nat),b[t]?=c[t]?->b.getD t undef=c.getD t undef:=by
     intro b c t h;rw[Za,Za,h]
    refine⟨O,?_,?_,?_,?_,?_⟩
    ·rw[<-f.defers];cases o.dst<;>rfl
    ·rw[<-f.size];cases o.dst<;>simp[Act.put]
    ·intro t q;rw[C t (fun e=>q (List.mem_filterMap.2 ⟨o,Zm n,e⟩)),f.outer t q]
    ·intro t q hn;rw[D _ _ t (C t (fun e=>hn (List.mem_filterMap.2 ⟨o,Zm n,e⟩)))]
     exact y _ _ (f.outs t q hn)
    ·intro j oj t z s ag;by_cases S:j=i
     ·subst S;rw[n] at z
      obtain rfl:=Xn z
      have N:t<a.tmps.size:=by
       rw[f.size]
       have:=Xe.1 L t (List.mem_filterMap.2 ⟨o,Zm n,s⟩)
       simpa using this
      rw[s] at F |-
      have:(a.put (some t) v).tmps.getD t undef=v:=by simp[Act.put,Array.getD,N]
      rw[this];exact F
     ·have av:o.dst≠some t:=fun e=>S (nodup_apart l j i oj o t aj z n s e);rw[D _ _ t (C t av)]
      refine y _ _ (f.known j oj t z s ?_);have ad:i≠j:=fun e=>S e.symm;rw[Za,Array.getElem?_setIfInBounds_ne ad] at ag
      rw[Za];exact ag
   unfold wpOp;rw[ho]
   simp only
   rcases QgJ gs l bs ak hA i o n with ⟨h,y⟩|⟨h,y⟩
   ·rw[hw true h,Xs Yz]
    refine .inl (wpq (fun a' w' hh=>hh) (y a w f.world ax _ fun v w' J O F=>?_));exact ih _ _ _ (by simpa using V) G (I v w' O (fun t v he=>hR t v w w' J he) F)
   ·rw[hw false h]
    simp only[Bool.false_eq_true,if_false]
    exact ih _ _ _ (by simpa using V) G (I undef w f.world (fun _ _ h=>h) (y w f.world))
theorem Qdg {l:List Oper}{outs:List Tmp}{gs:List (Nat × Option Bool)}{a:Act}{z:Z}
 (E:Tmp->Value->(World × Z)->Prop) (W:(World × Z)->Prop) (R:(World × Z)->(World × Z)->Prop)
 (g:P.follows .mixedOrders=true)  (hn:a.tmps.size=m) (c:n<=m) (f:Qbt l n outs gs bs=true)
 (d:∀ t v w w',R w w'->E t v w->E t v w') (q:QcS E W l.toArray gs) (i:W (w.drew,z)) (p:Qf3 E a (w.drew,z) outs)
 (k:QfC E W R P l bs)
 (b:∀ (vs:Tmp->Value) w',W w'->(∀ t,(Qp l).contains t=true->E t (vs t) w')->Q .normal (QC a vs (Qp l)) w'.1) :
 (Code.region id l.toArray true).wp P Q a w:=by
 refine wp_region_any g ?_;refine Qf6 (QbA (hn ▸ c) f) d q k b _ _ _ (w.drew,z) (by simp) ?_ ⟨i,Yz,Yz,fun _ _=>rfl,fun t e _=>Qe3 outs p t e,?_⟩
 ·simp only[Array.toList_replicate]
  exact Zt (List.length_filter_le _ _) (by simp)
 ·intro j o t s r h;simp[Array.getD] at h
end
end Go.Proofs.YtiebmclhgebhpafGreat
