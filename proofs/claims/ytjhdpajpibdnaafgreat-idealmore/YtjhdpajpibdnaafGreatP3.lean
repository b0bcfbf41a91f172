import Derived.Test.YtjhdpajpibdnaafGreatP2
import Derived.Deep.RegionWith
set_option maxHeartbeats 16000000
set_option maxRecDepth 100000
namespace Go.Proofs.YtjhdpajpibdnaafGreat
open Go.ChangeShapes Go.WideShapes Go.ChangeAt Go.RowKit _root_.Go.Proofs.Tryz
set_option linter.unusedSimpArgs false
set_option linter.unusedVariables false
variable {w w' w6 wc wr w1 w2 w9:World}{b n c k X g m B i N rc ac cm fi bh R bi d j cap most q ca x ci na id f s cR cA rl al G o pages fl fm:Nat}{O A Q O' Q2 OO:Nat→Prop}{v u:Value}{a p ag pm pa pi pR pA ra aa:Option Addr}{t e:TypeId}{l inp:List Int}{P:Program}{xa xb xc xk words fu fr xn pg:Int}{L bs:List Bool}{cs xs ds:List Value}{ops:Array Oper}
theorem Xg:type_of% @Nat.le_of_ble_eq_true:=@Nat.le_of_ble_eq_true
section
variable {w w' w2:World}{b most:Nat}{m:List (MFunc 6)}{M M':IM}{sc sa:Int}{g g1:MG}
theorem MAt.callsForm (S:MAt w b most m M sc sa g):∃ gc cap,g.vc=.slice (some ⟨gc,0,none⟩) (M.rest.length+1) cap/\M.rest.length+1<=cap/\w.cell? ⟨gc,M.rest.length,none⟩=some (Pv g.t.c 0):=by
 rcases S.calls.2 with ⟨_,n⟩|⟨gc,cap,f,e,_,d,j,k,l,h⟩
 ·omega
 ·refine⟨gc,cap,e,j,?_⟩
  have i:=S.rows
  have a:(QaN (g.t::g.fs))[M.rest.length]?=some (Pv g.t.c 0):=by
   simp[QaN,<-i]
  rw[<-h,XR,Xs (by omega),Array.getElem?_toList] at a
  exact Qa d _ _ a
theorem Qcx (S:MAt w b most m M sc sa g) (j:M.rest.length<=1000) :
 Calls prog 85 #[Pv b 0] w fun e w'=>e=.returned (Pv g.t.c 0)/\Below w.heap.size w w':=by
 obtain⟨k,i,a,d,l⟩:=S.callsForm
 have f:w.cell? ⟨b,4,none⟩=some g.vc:=Qa S.box 4 _ Z;rw[a] at f
 clear a S;generalize M.rest.length=n at *;have o:(↑(n+1):Int) - 1=n:=by omega
 have h:(n:Int)<(n:Int)+1:=by omega
 go_enter func85,ntmps85
 go_upto_region 1 with fail
 go_quiet (fail)
 go_wp2
 go_ret;exact⟨Z,Qag Zr _⟩
end
abbrev QbB (x:MBlock 6) (b:BP):Array Value:=#[Iv x.regs,.slice b.pP x.params.length b.cP,.slice b.pC x.code.length b.cC,Iv x.fin.op,Iv x.fin.a,Iv x.fin.yes.block,.slice b.e.pYR x.fin.yes.regs.length b.e.cYR,.slice b.e.pYA x.fin.yes.args.length b.e.cYA,Iv x.fin.no.block,.slice b.e.pNR x.fin.no.regs.length b.e.cNR,.slice b.e.pNA x.fin.no.args.length b.e.cNA,.slice b.e.pA x.fin.args.length b.e.cA]
abbrev zeroB:Array Value:=#[Iv 0,Nv,Nv,Iv 0,Iv 0,Iv 0,Nv,Nv,Iv 0,Nv,Nv,Nv]
theorem QhR (x:MBlock 6) (b:BP):(QbB x b).all (·.oneCell')=true:=by
 show ([Iv x.regs,.slice b.pP x.params.length b.cP,.slice b.pC x.code.length b.cC,Iv x.fin.op,Iv x.fin.a,Iv x.fin.yes.block,.slice b.e.pYR x.fin.yes.regs.length b.e.cYR,.slice b.e.pYA x.fin.yes.args.length b.e.cYA,Iv x.fin.no.block,.slice b.e.pNR x.fin.no.regs.length b.e.cNR,.slice b.e.pNA x.fin.no.args.length b.e.cNA,.slice b.e.pA x.fin.args.length b.e.cA]:List Value).toArray.all (·.oneCell')=true;exact all_oneCell_toArray (Xe.1 Z)
theorem Qer {w:World}{c:Array Value}(h:Blk w R c 86) (a:c.size=12) (x:MBlock 6) (b:BP):w.there R 0 (QbB x b).size:=h.there (by rw[a];exact Nat.le_of_eq Z)
theorem Qid {w:World}(h:Blk w R zeroB 86) (x:MBlock 6) (b:BP):Blk (w.setCells R 0 (QbB x b).toList) R (QbB x b) 86:=Blk.sets (QbB x b).toList [] zeroB.toList w Z h
theorem QbR {B:Nat}{a:World}{R:Nat}(b:B<=R):∀ (vs:List Value) (o:Nat){w:World},Below B a w->Below B a (w.setCells R o vs)
 | [],_,_,h=>h
 | v::vs,o,w,h=>QbR b vs (o+1) (h.setCell (p:=⟨R,o,none⟩) b v)
def Qof (w6:World) (b c g1 o1 nm cm fi g2 o2 nb cb bi:Nat) (bl:MBlock 6) (p:BP) (t:Tmp) (v:Value) (w:World):Prop :=
 v=(([(0,Pv b 0),(3,Pv c 0),(6,Pv b 0),(7,Pv b 0),(8,Pv b 1),(9,Pv b 1),(10,.slice (some ⟨g1,o1,none⟩) nm cm),(11,Pv c 0),(12,Pv c 0),(13,Pv c 0),(14,Iv (fi:Int)),(15,Pv g1 (o1+fi*4)),(16,Pv g1 (o1+fi*4+3)),(17,.slice (some ⟨g2,o2,none⟩) nb cb),(18,Pv c 0),(19,Pv c 0),(20,Pv c 1),(21,Iv (bi:Int)),(22,Pv g2 (o2+bi*12)),(23,.agg (QbB bl p))]:List (Tmp × Value)).lookup t).getD undef
theorem ib2 {b l k s g i o u:Nat}{bl:MBlock 6}{p:BP}(H:w6.cell? ⟨b,1,none⟩=some (.slice (some ⟨l,k,none⟩) s cm)) (y:w6.cell? ⟨c,0,none⟩=some (Iv (fi:Int))) (E:w6.cell? ⟨c,1,none⟩=some (Iv (bi:Int))) (A:w6.cell? ⟨l,k+fi*4+3,none⟩=some (.slice (some ⟨g,i,none⟩) o u)) (D:Hid (w6.rangeAt g (i+bi*12) (QbB bl p).toList)) (G:(fi:Int)<s) (C:(bi:Int)<o){Q:Exit->Act->World->Prop}
 (a:Act) (m:Nat) (hn:a.tmps.size=m) (r:24<=m) (B:a.tmps.getD 0 undef=Pv b 0) (F:a.tmps.getD 3 undef=Pv c 0)
 (hend:∀ ops vs w',vs 23=.agg (QbB bl p)->Below w6.heap.size w6 w'->wpList prog ops Q (QaR 18 ((Tryz.f86.body.bind (Qg 2)).getD .skip)) (QI a vs [6,7,8,9,10,11,12,13,14,15,16,17,18,19,20,21,22,23]) w') :
 Code.wp prog ((Tryz.f86.body.bind (Qg 2)).getD .skip) Q a w6:=by
 conv=>arg 2;whnf
 refine Qm 18 (Qof w6 b c l k s cm fi g i o u bi bl p) (fun w=>Below w6.heap.size w6 w) (fun w w'=>Below w.heap.size w w') (outs:=[0,3]) (gs:=[]) (bs:=[true,true,true,true,true,true,true,true,true,true,true,true,true,true,true,true,true,true]) (by kernel_rfl) (n:=24) hn r (by kernel_rfl) (by kernel_rfl) ?hR ?hG (Qs Zr 1) ⟨B,F,Y⟩ ?hA ?hend
 case hR=>exact fun t v w w' _ h=>h
 case hG=>exact Y
 case hend=>exact fun ops vs w' d f=>hend ops vs w' (f 23 (by kernel_rfl)) d
 case hA =>
  repeat
   refine⟨fun a w d f K q=>?_,?_⟩
   focus first
    | obtain⟨e,-⟩:=f
      conv at e=>whnf;rhs;whnf
      have I:=Qo H d;have J:=Qo y d;have M:=Qo A d;have L:=Qo E d;go_simp;exact q _ _ Zr d Z
    | obtain⟨e,z,-⟩:=f
      conv at e=>whnf;rhs;whnf
      conv at z=>whnf;rhs;whnf
      go_simp;exact q _ _ Zr d Z
    | obtain⟨e,-⟩:=f
      conv at e=>whnf;rhs;whnf
      refine wp_load_mid 86 (.tmp 22) Z g (i+bi*12) e (QbB bl p).toList _ (fun j v x=>Qo (D.out j v x) d) underlying86 Z pSizeB ?_;exact q _ _ Zr d Z
  trivial
section
variable {w w' w2:World}{b most:Nat}{m:List (MFunc 6)}{M M':IM}{sc sa:Int}{g g1:MG}
def Qi9 (A:Nat->Prop) (bl:MBlock 6) (w:World) (e:Ending) (w':World):Prop:=∃ p:BP,e=.returned (.agg (QbB bl p))/\BIn w' (fun x=>¬ A x) bl p/\Below w.heap.size w w'
theorem QdM (S:MAt w b most m M sc sa g) (hd:M.rest.length<=1000){fn:MFunc 6}{bl:MBlock 6}(X:m[M.top.f]?=some fn) (hb:fn.blocks[M.top.b]?=some bl) (hs:m.length<=1000/\fn.blocks.length<=1000) :
 Calls prog 86 #[Pv b 0] w fun e w'=>Qi9 g.A bl w e w':=by
 have r:=Qc (QW w (.cells zeroB 86));have D:=Qc (Qf w zeroB 86);have B:=Qc (S.below r.out);have C:=Qc (Qcx B.out hd);have V:=(Zi X).1;have N:=(Zi hb).1;obtain⟨g1,o1,f,J,E1,q⟩:=Qdj S.mod X
 obtain⟨g2,o2,p,E,E2,s⟩:=Qcz q.blocks hb
 have i:w.cell? ⟨g1,o1+M.top.f*4+3,none⟩=some (.slice f.pB fn.blocks.length f.cB):=E1 3 _ Z;rw[E] at i
 have y:=Qc E2;have u:=Qc (s.mono (O':=fun x=>¬ g.A x) (fun k hk _=>hk.1));have t:=Qc J;have n:=Qc i;clear S X hb E1 q E2 s J i;go_enter func86,ntmps86
 go_upto_region 1 with fail
 generalize w.alloc (.cells zeroB 86)=w1 at B C r D |-;obtain⟨R,hR⟩:∃ R,R=w.heap.size:=⟨_,Z⟩
 have HR:Hid (w.heap.size<=R):=by show _<=_;omega
 rw[<-hR] at D |-
 clear hR;go_upto_region 2 with (go_at_call 85;refine C.out.mono ?_;rintro e' w2 ⟨rfl,G⟩)
 have H:=Qc (B.out.below G);have l:=Qc (r.out.trans (G.mono r.out.size));have z:=Qc (Blk.below D.out G);clear G B r D C;have W:w2.cell? ⟨b,1,none⟩=some (.slice g.pm m.length g.cm):=Qa H.out.box 1 _ Z;have f0:=Qa H.out.top.1 0 _ Z;have f1:=Qa H.out.top.1 1 _ Z;have i:=Qo n.out l.out;have o:Hid (w2.rangeAt g2 (o2+M.top.b*12) (QbB bl p).toList):=fun j v hj=>Qo (y.out j v hj) l.out;rw[t.out] at W
 have U:(M.top.f:Int)<m.length:=by omega
 have T:(M.top.b:Int)<fn.blocks.length:=by omega
 clear H V N y n t E;generalize M.top.f=fi at *;generalize M.top.b=bi at *;refine ib2 W f0 f1 i o U T _ _ Z (Xg (by kernel_rfl)) Z Z ?_;rintro Q vs w5 c K;show wpList _ Q _ [_] (QI _ vs [6,7,8,9,10,11,12,13,14,15,16,17,18,19,20,21,22,23]) w5;simp only[QI,Act.put,List.setIfInBounds_toArray,List.set_cons_zero,List.set_cons_succ,c]
 have d:=Qc (Blk.below z.out K);have a:=Qc (Qid d.out bl p);have F:=Qc (QbR HR.out (QbB bl p).toList 0 (l.out.trans (K.mono l.out.size)));have O:=Qc (u.out.below F.out);clear K c W f0 f1 i o u z l;have TH:=Qc (Qer d.out Z bl p);have SZ:=Qc (show (prog.info? 86).map (·.size)=some (QbB bl p).size from pSizeB);have ON:=Qc (QhR bl p);obtain⟨I,h⟩:∃ I,QbB bl p=I:=⟨_,Z⟩
 rw[h] at a F O TH SZ ON |-
 have EC:=Qc h;clear h;clear d;go_wp2_with (refine wpList_store_mid Z 86 (.tmp 2) (.tmp 23) Z R 0 I Z Z TH.out SZ.out ON.out ?_)
 generalize w5.setCells R 0 I.toList=w6 at a F O |-;obtain rfl:=EC.out;have e0:=Qa a.out 0 _ Z;have J:=Qa a.out 1 _ Z;have E:=Qa a.out 2 _ Z;have e3:=Qa a.out 3 _ Z;have e4:=Qa a.out 4 _ Z;have e5:=Qa a.out 5 _ Z;have e6:=Qa a.out 6 _ Z;have e7:=Qa a.out 7 _ Z;have e8:=Qa a.out 8 _ Z;have e9:=Qa a.out 9 _ Z;have L:=Qa a.out 10 _ Z;have P:=Qa a.out 11 _ Z;exact Xy (v:=.agg (QbB bl p)) (by simp[results,results86,go_sem,e0,J,E,e3,e4,e5,e6,e7,e8,e9,L,P]) Z ⟨p,Z,O.out,F.out⟩
end
theorem QmH (x:MBlock 6) (b:BP) (w:World):(Instr.field 86 (.agg (QbB x b)) 2).run prog w=.ok (.slice b.pC x.code.length b.cC) w:=by kernel_rfl
def QnV (w6:World) (b c i:Nat) (bl:MBlock 6) (t:Tmp) (v:Value) (w:World):Prop :=
 match ([(11,fun v w=>∃ p:BP,v=.agg (QbB bl p)),(12,fun v w=>∃ (a:Option Addr) (d:Nat),v=.slice a bl.code.length d)]:List (Tmp × (Value->World->Prop))).lookup t with
 | some p=>p v w
 | none=>v=(([(0,.pointer (some ⟨b,0,none⟩)),(3,.pointer (some ⟨c,0,none⟩)),(6,.pointer (some ⟨c,0,none⟩)),(7,.pointer (some ⟨c,0,none⟩)),(8,.pointer (some ⟨c,2,none⟩)),(9,.int .i64 (i:Int)),(10,.pointer (some ⟨b,0,none⟩)),(13,.int .i64 (bl.code.length:Int)),(14,.bool (decide ((i:Int)<bl.code.length)))]:List (Tmp × Value)).lookup t).getD undef
theorem ip2 {b:Nat}{bl:MBlock 6}(B:w6.cell? ⟨c,2,none⟩=some (Iv (i:Int))) (x:Hid (∀ wx,Below w6.heap.size w6 wx->Calls prog 86 #[Pv b 0] wx fun e w'=>Qi9 A bl wx e w'))
 (a:Act) (m:Nat) (hn:a.tmps.size=m) (q:37<=m) (y:a.tmps.getD 0 undef=Pv b 0) (z:a.tmps.getD 3 undef=Pv c 0) :
 Code.wp prog ((Tryz.f83.body.bind (Qg 2)).getD .skip) (fun e a' w'=>e=.normal/\∃ vs,a'=QI a vs [6,7,8,9,10,11,12,13,14]/\vs 14=.bool (decide ((i:Int)<bl.code.length))/\Below w6.heap.size w6 w') a w6:=by
 conv=>arg 2;whnf
 refine QV (QnV w6 b c i bl) (fun w=>Below w6.heap.size w6 w) (fun w w'=>Below w.heap.size w w') (outs:=[0,3]) (gs:=[]) (bs:=[true,true,true,true,true,true,true,true,true]) (by kernel_rfl) (n:=37) hn q (by kernel_rfl) ?hR ?hG (Qs Zr 1) ⟨y,z,Y⟩ ?hA ?hend
 case hR =>
  intro t v w w' H h;unfold QnV at h |-;split at h
  ·rename_i p k
   simp only[List.lookup_cons,List.lookup_nil] at k
   split at k
   ·cases k;exact h
   ·split at k
    ·cases k;exact h
    ·cases k
  ·exact h
 case hG=>exact Y
 case hend=>exact fun vs w' g j=>⟨Z,vs,Z,j 14 (by kernel_rfl),g⟩
 case hA =>
  repeat
   refine⟨fun a w g j K l=>?_,?_⟩
   focus first
    | obtain⟨f,-⟩:=j
      conv at f=>whnf;rhs;whnf
      have D:=Qo B g;go_simp;exact l _ _ Zr g Z
    | obtain⟨f,-⟩:=j
      have f:(fun v w=>∃ (a:Option Addr) (d:Nat),v=.slice a bl.code.length d) (a.tmps.getD 12 undef) w:=f;generalize o:a.tmps.getD 12 undef=r at f;obtain⟨E,F,rfl⟩:=f
      go_simp;exact l _ _ Zr g Z
    | obtain⟨f,-⟩:=j
      conv at f=>whnf;rhs;whnf
      go_simp;refine Xm (x.out w g) ?_;rintro I G ⟨p,rfl,-,s⟩;go_simp;exact l _ _ s (g.trans (s.mono g.size)) ⟨p,Z⟩
    | obtain⟨f,-⟩:=j
      have f:(fun v w=>∃ p:BP,v=.agg (QbB bl p)) (a.tmps.getD 11 undef) w:=f;generalize o:a.tmps.getD 11 undef=r at f;obtain⟨p,rfl⟩:=f
      have C:=QmH bl p;go_simp;exact l _ _ Zr g ⟨_,_,Z⟩
    | obtain⟨f,u,-⟩:=j
      conv at f=>whnf;rhs;whnf
      conv at u=>whnf;rhs;whnf
      go_simp;refine l _ _ Zr g ?_;show Value.bool _=Value.bool _;congr 1
      first | rfl | (rw[decide_eq_decide];omega)
  trivial
def Qos (c fi bi i:Nat) (t:Tmp) (v:Value) (w:World):Prop :=
 v=(([(3,Pv c 0),(15,Pv c 0),(16,Pv c 0),(17,Pv c 0),(18,Iv (fi:Int)),(19,Pv c 0),(20,Pv c 0),(21,Pv c 1),(22,Iv (bi:Int)),(23,Pv c 0),(24,Pv c 0),(25,Pv c 2),(26,Iv (i:Int)),(27,Iv (10000*(fi:Int)+100*(bi:Int)+(i:Int))),(2,Iv (10000*(fi:Int)+100*(bi:Int)+(i:Int)))]:List (Tmp × Value)).lookup t).getD undef
theorem ip3 (p:w6.cell? ⟨c,0,none⟩=some (Iv (fi:Int))) (q:w6.cell? ⟨c,1,none⟩=some (Iv (bi:Int))) (u:w6.cell? ⟨c,2,none⟩=some (Iv (i:Int))) (A:fi<1000/\bi<1000/\i<1000)
 (a:Act) (m:Nat) (hn:a.tmps.size=m) (k:37<=m) (s:a.tmps.getD 3 undef=Pv c 0) :
 Code.wp prog ((Tryz.f83.body.bind (Qg 3)).getD .skip) (fun e a' w'=>e=.normal/\∃ vs,a'=QI a vs [15,16,17,18,19,20,21,22,23,24,25,26,27,2]/\vs 2=Iv (10000*(fi:Int)+100*(bi:Int)+(i:Int))/\Below w6.heap.size w6 w') a w6:=by
 conv=>arg 2;whnf
 refine QV (Qos c fi bi i) (fun w=>Below w6.heap.size w6 w) (fun w w'=>Below w.heap.size w w') (outs:=[3]) (gs:=[]) (bs:=[true,true,true,true,true,true,true,true,true,true,true,true,true,true]) (by kernel_rfl) (n:=37) hn k (by kernel_rfl) ?hR ?hG (Qs Zr 1) ⟨s,Y⟩ ?hA ?hend
 case hR=>exact fun t v w w' _ h=>h
 case hG=>exact Y
 case hend=>exact fun vs w' d g=>⟨Z,vs,Z,g 2 (by kernel_rfl),d⟩
 case hA =>
  repeat
   refine⟨fun a w d g K o=>?_,?_⟩
   focus first
    | obtain⟨j,-⟩:=g
      conv at j=>whnf;rhs;whnf
      have y:=Qo p d;have z:=Qo q d;have D:=Qo u d;go_simp;exact o _ _ Zr d Z
    | obtain⟨j,x,r,-⟩:=g
      conv at j=>whnf;rhs;whnf
      conv at x=>whnf;rhs;whnf
      conv at r=>whnf;rhs;whnf
      go_simp;refine Xm (QdU (f:=fi) (b:=bi) (i:=i) (w:=w) ⟨by omega,by omega,by omega⟩) ?_;rintro B C ⟨rfl,l⟩;go_simp;exact o _ _ l (d.trans (l.mono d.size)) Z
  trivial
def Qob (c fi bi:Nat) (t:Tmp) (v:Value) (w:World):Prop :=
 v=(([(3,Pv c 0),(28,Pv c 0),(29,Pv c 0),(30,Pv c 0),(31,Iv (fi:Int)),(32,Pv c 0),(33,Pv c 0),(34,Pv c 1),(35,Iv (bi:Int)),(36,Iv (10000*(fi:Int)+100*(bi:Int)+91)),(2,Iv (10000*(fi:Int)+100*(bi:Int)+91))]:List (Tmp × Value)).lookup t).getD undef
theorem ip4 (o:w6.cell? ⟨c,0,none⟩=some (Iv (fi:Int))) (p:w6.cell? ⟨c,1,none⟩=some (Iv (bi:Int))) (x:fi<1000/\bi<1000)
 (a:Act) (m:Nat) (hn:a.tmps.size=m) (j:37<=m) (q:a.tmps.getD 3 undef=Pv c 0) :
 Code.wp prog ((Tryz.f83.body.bind (Qg 4)).getD .skip) (fun e a' w'=>e=.normal/\∃ vs,a'=QI a vs [28,29,30,31,32,33,34,35,36,2]/\vs 2=Iv (10000*(fi:Int)+100*(bi:Int)+91)/\Below w6.heap.size w6 w') a w6:=by
 conv=>arg 2;whnf
 refine QV (Qob c fi bi) (fun w=>Below w6.heap.size w6 w) (fun w w'=>Below w.heap.size w w') (outs:=[3]) (gs:=[]) (bs:=[true,true,true,true,true,true,true,true,true,true]) (by kernel_rfl) (n:=37) hn j (by kernel_rfl) ?hR ?hG (Qs Zr 1) ⟨q,Y⟩ ?hA ?hend
 case hR=>exact fun t v w w' _ h=>h
 case hG=>exact Y
 case hend=>exact fun vs w' d g=>⟨Z,vs,Z,g 2 (by kernel_rfl),d⟩
 case hA =>
  repeat
   refine⟨fun a w d g K l=>?_,?_⟩
   focus first
    | obtain⟨i,-⟩:=g
      conv at i=>whnf;rhs;whnf
      have s:=Qo o d;have u:=Qo p d;go_simp;exact l _ _ Zr d Z
    | obtain⟨i,r,-⟩:=g
      conv at i=>whnf;rhs;whnf
      conv at r=>whnf;rhs;whnf
      go_simp;refine Xm (QdK (f:=fi) (b:=bi) (w:=w) ⟨by omega,by omega⟩) ?_;rintro y z ⟨rfl,k⟩;go_simp;exact l _ _ k (d.trans (k.mono d.size)) Z
  trivial
section
variable {w w' w2:World}{b most:Nat}{m:List (MFunc 6)}{M M':IM}{sc sa:Int}{g g1:MG}
def IM.place (m:List (MFunc 6)) (M:IM):Int:=match m[M.top.f]? with
 | none=>0
 | some fn=>match fn.blocks[M.top.b]? with
   | none=>0
   | some bl=>if M.top.i<bl.code.length then 10000*(M.top.f:Int)+100*(M.top.b:Int)+M.top.i else 10000*(M.top.f:Int)+100*(M.top.b:Int)+91
theorem Qhl (S:MAt w b most m M sc sa g) (I:M.rest.length<=1000){fn:MFunc 6}{bl:MBlock 6}(u:m[M.top.f]?=some fn) (hb:fn.blocks[M.top.b]?=some bl) (B:m.length<=1000/\fn.blocks.length<=1000/\bl.code.length<=900) (hi:M.top.i<=bl.code.length) :
 Calls prog 83 #[Pv b 0] w fun e w'=>e=.returned (Iv (IM.place m M))/\Below w.heap.size w w':=by
 have E:Hid (IM.place m M=if M.top.i<bl.code.length then 10000*(M.top.f:Int)+100*(M.top.b:Int)+M.top.i else 10000*(M.top.f:Int)+100*(M.top.b:Int)+91):=by show _=_;unfold IM.place;rw[u];simp only;rw[hb]
 have O:=(Zi u).1;have L:=(Zi hb).1;have C:=Qc (Qcx S I);have G:=Qc (fun q (z:Below w.heap.size w q)=>QdM (S.below z) I u hb ⟨B.1,B.2.1⟩);have p:=Qa S.top.1 0 _ Z;have r:=Qa S.top.1 1 _ Z;have s:=Qa S.top.1 2 _ Z;generalize IM.place m M=K at E |-;clear S u hb;generalize M.top.f=J at *;generalize M.top.b=F at *;generalize M.top.i=i at *;generalize g.t.c=c at *;go_enter func83,ntmps83
 go_upto_region 2 with (go_at_call 85;refine C.out.mono ?_;rintro R H ⟨rfl,v⟩)
 have k:=Qc v;have o:=Qc (fun q (z:Below H.heap.size H q)=>G.out q (k.out.trans (z.mono k.out.size)));refine Code.wp_mono ?_ (ip2 (Qo s v) o _ _ Z (Xg (by kernel_rfl)) Z Z);rintro _ _ P ⟨rfl,Q,rfl,h,D⟩;have j:=Qc (k.out.trans (D.mono k.out.size));clear v D k G o C;have p:=Qo p j.out;have r:=Qo r j.out;have s:=Qo s j.out;simp only[QI,Act.put,List.setIfInBounds_toArray,List.set_cons_zero,List.set_cons_succ,h]
 clear h;by_cases l:i<bl.code.length
 ·have a:decide ((i:Int)<bl.code.length)=true:=Xt (by omega);rw[a]
  have x:Hid (K=10000*(J:Int)+100*(F:Int)+i):=by show _=_;rw[E.out,Xs l]
  clear a E;go_upto_region 3 with fail
  refine Code.wp_mono ?_ (ip3 p r s ⟨by omega,by omega,by omega⟩ _ _ Z (Xg (by kernel_rfl)) Z);rintro _ _ N ⟨rfl,A,rfl,d,n⟩;have y:=Qc (j.out.trans (n.mono j.out.size));simp only[QI,Act.put,List.setIfInBounds_toArray,List.set_cons_zero,List.set_cons_succ,d]
  clear n d;rw[<-x.out]
  go_wp2
  go_ret;exact⟨Z,y.out⟩
 ·have a:decide ((i:Int)<bl.code.length)=false:=Xu (by omega);rw[a]
  have x:Hid (K=10000*(J:Int)+100*(F:Int)+91):=by show _=_;rw[E.out,Xr l]
  clear a E;go_upto_region 4 with fail
  refine Code.wp_mono ?_ (ip4 p r ⟨by omega,by omega⟩ _ _ Z (Xg (by kernel_rfl)) Z);rintro _ _ N ⟨rfl,A,rfl,d,n⟩;have y:=Qc (j.out.trans (n.mono j.out.size));simp only[QI,Act.put,List.setIfInBounds_toArray,List.set_cons_zero,List.set_cons_succ,d]
  clear n d;rw[<-x.out]
  go_wp2
  go_ret;exact⟨Z,y.out⟩
end
theorem QcY {r:List Int}:∀ {l:List Int},(∀ k∈l,0<=k/\k<(r.length:Int))->∃ rs,Zh r l=some rs/\rs.length=l.length
 | [],_=>⟨[],Z,Z⟩
 | k::l,h=>by
   obtain⟨rs,e,b⟩:=QcY (l:=l) (fun x c=>h x (by simp[c]))
   have d:=h k (by simp);have a:k.toNat<r.length:=by omega
   refine⟨r[k.toNat]::rs,?_,by simp[b]⟩
   unfold Zh QiX;rw[Xr (by omega),Zg a,e]
theorem Qdc {r:List Int}:∀ {l:List Int}{k:Int},k∈l->¬ (0<=k/\k<(r.length:Int))->Zh r l=none
 | [],k,h,_=>by simp at h
 | x::l,k,h,hk=>by
   unfold Zh
   cases hx:QiX r x with
   | none=>rfl
   | some y =>
     simp only
     rcases List.mem_cons.1 h with rfl | h
     ·exfalso
      unfold QiX at hx;split at hx
      ·cases hx
      ·have:=(Zi hx).1
       omega
     ·rw[Qdc h hk]
def begunO (fr:IFr) (f:Nat) (t:MTo) (bl:MBlock 6):Option IFr :=
 if (t.regs.length:Int)=bl.regs/\t.args.length=bl.params.length then (match Zh fr.r t.regs with
  | none=>none
  | some rs=>match Qp fr.v t.args with
    | none=>none
    | some xs=>some ⟨f,t.block.toNat,0,xs,rs⟩) else none
def Qbh (w:World) (o:Option IFr) (e:Ending) (w':World):Prop:=Below w.heap.size w w'/\match o with
 | none=>e=.panicked stuckP
 | some fr=>∃ c gx n,e=.returned (.pointer (some ⟨c,0,none⟩))/\w.heap.size<=c/\w.heap.size<=gx/\Qdk w' c fr (.slice (some ⟨gx,0,none⟩) n n)
def QnG (w6:World) (X1 X2 g1 o1 nm cm fi g2 o2 nb cb bi:Nat) (bl:MBlock 6) (p:BP) (t:Tmp) (v:Value) (w:World):Prop :=
 match ([(9,fun v w=>∃ Z,v=.pointer (some ⟨Z,0,none⟩)/\w6.heap.size<=Z/\Blk w Z zeroB 86)]:List (Tmp × (Value->World->Prop))).lookup t with
 | some p=>p v w
 | none=>v=(([(2,.int .i64 (fi:Int)),(5,.pointer (some ⟨X1,0,none⟩)),(7,.pointer (some ⟨X2,0,none⟩)),(12,.pointer (some ⟨X1,0,none⟩)),(13,.slice (some ⟨g1,o1,none⟩) nm cm),(14,.int .i64 (fi:Int)),(15,.pointer (some ⟨g1,o1+fi*4,none⟩)),(16,.pointer (some ⟨g1,o1+fi*4+3,none⟩)),(17,.slice (some ⟨g2,o2,none⟩) nb cb),(18,.pointer (some ⟨X2,0,none⟩)),(19,.int .i64 (bi:Int)),(20,.pointer (some ⟨g2,o2+bi*12,none⟩)),(21,.agg (QbB bl p))]:List (Tmp × Value)).lookup t).getD undef
theorem ig1 {r s q o y f l u z:Nat}{bl:MBlock 6}{p:BP}(E:w6.cell? ⟨r,0,none⟩=some (.slice (some ⟨q,o,none⟩) y cm)) (G:w6.cell? ⟨s,0,none⟩=some (Iv (bi:Int))) (F:w6.cell? ⟨q,o+fi*4+3,none⟩=some (.slice (some ⟨f,l,none⟩) u z)) (J:Hid (w6.rangeAt f (l+bi*12) (QbB bl p).toList)) (M:(fi:Int)<y) (H:(bi:Int)<u){Q:Exit->Act->World->Prop}
 (a:Act) (m:Nat) (hn:a.tmps.size=m) (x:68<=m) (i:a.tmps.getD 2 undef=Iv (fi:Int)) (C:a.tmps.getD 5 undef=Pv r 0) (N:a.tmps.getD 7 undef=Pv s 0)
 (hend:∀ ops vs w',vs 21=.agg (QbB bl p)->(fun v w=>∃ Z,v=Pv Z 0/\w6.heap.size<=Z/\Blk w Z zeroB 86) (vs 9) w'->Below w6.heap.size w6 w'->wpList prog ops Q (QaR 11 ((Tryz.f189.body.bind (Qg 1)).getD .skip)) (QI a vs [12,13,14,15,16,17,18,19,20,21,9]) w') :
 Code.wp prog ((Tryz.f189.body.bind (Qg 1)).getD .skip) Q a w6:=by
 conv=>arg 2;whnf
 refine Qm 11 (QnG w6 r s q o y cm fi f l u z bi bl p) (fun w=>Below w6.heap.size w6 w) (fun w w'=>Below w.heap.size w w') (outs:=[2,5,7]) (gs:=[]) (bs:=[true,true,true,true,true,true,true,true,true,true,true]) (by kernel_rfl) (n:=68) hn x (by kernel_rfl) (by kernel_rfl) ?hR ?hG (Qs Zr 1) ⟨i,C,N,Y⟩ ?hA ?hend
 case hR =>
  intro t v w w' I h;unfold QnG at h |-;split at h
  ·rename_i p g
   simp only[List.lookup_cons,List.lookup_nil] at g
   split at g
   ·cases g;exact(by obtain⟨B,e,L,i⟩:=h;exact⟨B,e,L,(I.block B (XC i)).trans i⟩)
   ·cases g
  ·exact h
 case hG=>exact Y
 case hend=>exact fun ops vs w' b c=>hend ops vs w' (c 21 (by kernel_rfl)) (c 9 (by kernel_rfl)) b
 case hA =>
  repeat
   refine⟨fun a w b c K k=>?_,?_⟩
   focus first
    | obtain⟨d,-⟩:=c
      conv at d=>whnf;rhs;whnf
      have O:=Qo E b;have P:=Qo F b;have R:=Qo G b;go_simp;exact k _ _ Zr b Yz
    | obtain⟨d,D,-⟩:=c
      conv at d=>whnf;rhs;whnf
      conv at D=>whnf;rhs;whnf
      go_simp;exact k _ _ Zr b Yz
    | clear c
      go_simp;exact k _ _ (ZO _ _) (b.alloc b.size _) ⟨_,Yz,b.size,Qf _ _ _⟩
    | obtain⟨d,-⟩:=c
      conv at d=>whnf;rhs;whnf
      refine wp_load_mid 86 (.tmp 20) Yz f (l+bi*12) d (QbB bl p).toList _ (fun j v A=>Qo (J.out j v A) b) underlying86 Yz pSizeB ?_;exact k _ _ Zr b Yz
  trivial
def Qlo (w6:World) (o:Option (List Qj)) (na:Nat) (v:Value) (w:World):Prop:=∃ g xs,v=.slice (some ⟨g,0,none⟩) na na/\w6.heap.size<=g/\o=some xs/\w.rowIs g 211 (na*4) (Zc xs)
def Qmu (w6:World) (o:Option (List Qj)) (na fi bi:Nat) (br:Int) (v:Value) (w:World):Prop:=∃ g xs,v=.agg #[Iv (fi:Int),Iv (bi:Int),Iv 0,Iv br,.slice (some ⟨g,0,none⟩) na na]/\w6.heap.size<=g/\o=some xs/\w.rowIs g 211 (na*4) (Zc xs)
def QlW (w6:World) (o:Option (List Qj)) (na fi bi:Nat) (br:Int) (v:Value) (w:World):Prop:=∃ B g xs,v=Pv B 0/\w6.heap.size<=B/\Blk w B #[Iv (fi:Int),Iv (bi:Int),Iv 0,Iv br,.slice (some ⟨g,0,none⟩) na na] 100/\w6.heap.size<=g/\o=some xs/\w.rowIs g 211 (na*4) (Zc xs)
theorem Qlo.below {w:World}{o:Option (List Qj)}{v:Value}(h:Qlo w6 o na v w) (b:Below w.heap.size w w'):Qlo w6 o na v w':=by
 obtain⟨g,f,d,c,e,a⟩:=h
 exact⟨g,f,d,c,e,a.of_block (b.block g a.lt)⟩
theorem Qmu.below {w:World}{o:Option (List Qj)}{c:Int}{v:Value}(h:Qmu w6 o na fi bi c v w) (b:Below w.heap.size w w'):Qmu w6 o na fi bi c v w':=by
 obtain⟨g,i,e,d,f,a⟩:=h
 exact⟨g,i,e,d,f,a.of_block (b.block g a.lt)⟩
theorem QlW.below {w:World}{o:Option (List Qj)}{c:Int}{v:Value}(h:QlW w6 o na fi bi c v w) (b:Below w.heap.size w w'):QlW w6 o na fi bi c v w':=by
 obtain⟨B,g,k,i,d,j,e,f,a⟩:=h
 exact⟨B,g,k,i,d,j.below b,e,f,a.of_block (b.block g a.lt)⟩
def QnW (w6:World) (o:Option (List Qj)) (c X2 Z fi bi na ca:Nat) (br:Int) (pa:Option Addr) (t:Tmp) (v:Value) (w:World):Prop :=
 match ([(65,Qlo w6 o na),(66,Qmu w6 o na fi bi br),(67,QlW w6 o na fi bi br),(8,QlW w6 o na fi bi br)]:List (Tmp × (Value->World->Prop))).lookup t with
 | some p=>p v w
 | none=>v=(([(0,.pointer (some ⟨c,0,none⟩)),(2,.int .i64 (fi:Int)),(7,.pointer (some ⟨X2,0,none⟩)),(9,.pointer (some ⟨Z,0,none⟩)),(57,.int .i64 (fi:Int)),(58,.pointer (some ⟨X2,0,none⟩)),(59,.int .i64 (bi:Int)),(60,.pointer (some ⟨Z,0,none⟩)),(61,.int .i64 br),(62,.pointer (some ⟨c,0,none⟩)),(63,.pointer (some ⟨X2,2,none⟩)),(64,.slice pa na ca)]:List (Tmp × Value)).lookup t).getD undef
theorem ig8 {o:Option (List Qj)}{c A Z:Nat}{u:Int}(O:w6.cell? ⟨A,0,none⟩=some (Iv (bi:Int))) (M:w6.cell? ⟨Z,0,none⟩=some (Iv u)) (S:w6.cell? ⟨A,2,none⟩=some (.slice pa na ca)) (U:Hid (∀ wx,Below w6.heap.size w6 wx->Calls prog 142 #[Pv c 0,.slice pa na ca] wx fun e w'=>Qcj wx o na e w')){Q:Exit->Act->World->Prop}
 (a:Act) (m:Nat) (hn:a.tmps.size=m) (H:68<=m) (N:a.tmps.getD 0 undef=Pv c 0) (k:a.tmps.getD 2 undef=Iv (fi:Int)) (q:a.tmps.getD 7 undef=Pv A 0) (L:a.tmps.getD 9 undef=Pv Z 0)
 (T:∀ ch a' w',a'.defers=a.defers->(fun ch w=>ch=stuckP/\o=none/\Below w6.heap.size w6 w) ch w'->Q (.panic ch) a' w')
 (hend:∀ vs w',(QlW w6 o na fi bi u) (vs 8) w'->Below w6.heap.size w6 w'->Q .normal (QI a vs [57,58,59,60,61,62,63,64,65,66,67,8]) w') :
 Code.wp prog ((Tryz.f189.body.bind (Qg 8)).getD .skip) Q a w6:=by
 conv=>arg 2;whnf
 refine Zx (QnW w6 o c A Z fi bi na ca u pa) (fun w=>Below w6.heap.size w6 w) (fun w w'=>Below w.heap.size w w') (fun ch w=>ch=stuckP/\o=none/\Below w6.heap.size w6 w) T (outs:=[0,2,7,9]) (gs:=[]) (bs:=[true,true,true,true,true,true,true,true,true,true,true,true]) (by kernel_rfl) (n:=68) hn H (by kernel_rfl) ?hR ?hG (Qs Zr 1) ⟨N,k,q,L,Y⟩ ?hA ?hend
 case hR =>
  intro t v w w' z h;unfold QnW at h |-;split at h
  ·rename_i p f
   simp only[List.lookup_cons,List.lookup_nil] at f
   split at f
   ·cases f;exact h.below z
   ·split at f
    ·cases f;exact h.below z
    ·split at f
     ·cases f;exact h.below z
     ·split at f
      ·cases f;exact h.below z
      ·cases f
  ·exact h
 case hG=>exact Y
 case hend=>exact fun vs w' b i=>hend vs w' (i 8 (by kernel_rfl)) b
 case hA =>
  repeat
   refine⟨fun a w b i K r=>?_,?_⟩
   focus first
    | obtain⟨d,-⟩:=i
      conv at d=>whnf;rhs;whnf
      have V:=Qo O b;have W:=Qo M b;have X:=Qo S b;go_simp;exact r _ _ Zr b Yz
    | obtain⟨d,-⟩:=i
      have d:(Qmu w6 o na fi bi u) (a.tmps.getD 66 undef) w:=d;generalize j:a.tmps.getD 66 undef=G at d;obtain⟨g,l,rfl,k,F,y⟩:=d
      go_simp;exact r _ _ (QW _ _) (b.alloc b.size _) ⟨_,g,l,Yz,b.size,Qf _ _ _,k,F,y.of_block ((QW _ _).block g y.lt)⟩
    | obtain⟨d,-⟩:=i
      have d:(QlW w6 o na fi bi u) (a.tmps.getD 67 undef) w:=d;generalize j:a.tmps.getD 67 undef=G at d;subst j;rw[Za] at d
      go_simp;exact r _ _ Zr b d
    | obtain⟨d,x,-⟩:=i
      conv at d=>whnf;rhs;whnf
      conv at x=>whnf;rhs;whnf
      go_simp;refine Xm (U.out w b) ?_;rintro r7 w7 q;obtain⟨D,q⟩:=q.split
      rcases q with ⟨l,P,C,rfl,I,s⟩|⟨C,rfl⟩
      rotate_left
      ·exact⟨_,Yz,Yz,C,b.trans (D.mono b.size)⟩
      go_simp;exact r _ _ D (b.trans (D.mono b.size)) ⟨P,l,Yz,Zt b.size I,C,s⟩
    | obtain⟨d,x,J,B,-⟩:=i
      conv at d=>whnf;rhs;whnf
      rw[Za] at d
      conv at x=>whnf;rhs;whnf
      rw[Za] at x
      conv at J=>whnf;rhs;whnf
      rw[Za] at J
      have B:(Qlo w6 o na) (a.tmps.getD 65 undef) w:=B;generalize E:a.tmps.getD 65 undef=R at B;rw[Za] at E
      obtain⟨g,l,rfl,k,F,y⟩:=B
      go_simp;exact r _ _ Zr b ⟨g,l,Yz,k,F,y⟩
  trivial
section
variable {w:World}{c:Nat}{fr:IFr}{v:Value}
theorem QdQ (FR:Qdk w c fr v) (hl:fr.v.length<=1000000) (aq:fr.r.length<=1000000){m:List (MFunc 6)}(hm:(ZZ 6).In w Q m [.slice pm m.length cm]){fn:MFunc 6}{bl:MBlock 6}(hf:m[fi]?=some fn) (hb:fn.blocks[bi]?=some bl) (hs:m.length<=1000/\fn.blocks.length<=1000/\bl.params.length<=1000)
 {t:MTo} (O:t.block=(bi:Int)) {G:Option Addr} {H:Nat} (hR:intsL.In w Q2 t.regs [.slice G t.regs.length H]) (hA:intsL.In w Q2 t.args [.slice pa t.args.length ca]) (hn:t.regs.length<=1000/\t.args.length<=1000) :
 Calls prog 189 #[Pv c 0,.agg #[.slice pm m.length cm],Iv (fi:Int),.agg #[Iv (bi:Int),.slice G t.regs.length H,.slice pa t.args.length ca]] w fun e w'=>Qbh w (begunO fr fi t bl) e w':=by
 have F:=Qc (Qak w (.cells #[.slice pm m.length cm] 24) (.cells #[Iv (bi:Int),.slice G t.regs.length H,.slice pa t.args.length ca] 82));have BX:=Qc (QhC w #[.slice pm m.length cm] 24 (.cells #[Iv (bi:Int),.slice G t.regs.length H,.slice pa t.args.length ca] 82));have BT:=Qc (Qb7 w (.cells #[.slice pm m.length cm] 24) #[Iv (bi:Int),.slice G t.regs.length H,.slice pa t.args.length ca] 82);have al:=(Zi hf).1;have an:=(Zi hb).1;obtain⟨g1,o1,f,e1,q,W⟩:=Qdj hm hf
 obtain⟨g2,o2,p,e2,d,aa⟩:=Qcz W.blocks hb
 have r3:w.cell? ⟨g1,o1+fi*4+3,none⟩=some (.slice f.pB fn.blocks.length f.cB):=q 3 _ Yz;rw[e2] at r3
 have T:=Qc d;have av:=Qc aa;have ab:=Qc r3;have K:Hid (begunO fr fi t bl=if (t.regs.length:Int)=bl.regs/\t.args.length=bl.params.length then (match Zh fr.r t.regs with | none=>none | some rs=>match Qp fr.v t.args with | none=>none | some I=>some ⟨fi,bi,0,I,rs⟩) else none):=by show _=_;unfold begunO;rw[O];rfl
 have HF:=Qc FR;have N:=Qc hR;have am:=Qc hA;subst e1;have ap:(fi:Int)<m.length:=by omega
 have ad:(bi:Int)<fn.blocks.length:=by omega
 generalize begunO fr fi t bl=oo at K |-;clear hm hf hb q d W aa r3 e2 FR hR hA O al an;go_enter func189,ntmps189
 go_upto_region 1 with fail
 generalize (w.alloc (.cells #[.slice (some ⟨g1,o1,none⟩) m.length cm] 24)).alloc (.cells #[Iv (bi:Int),.slice G t.regs.length H,.slice pa t.args.length ca] 82)=w1 at F BX BT |-;generalize w.heap.size+1=X2 at BT |-;generalize X:w.heap.size=X1 at BX |-;have ar:=Qc X;clear X;refine ig1 (Qa BX.out 0 _ Yz) (Qa BT.out 0 _ Yz) (Qo ab.out F.out) (fun j v J=>Qo (T.out j v J) F.out) ap ad _ _ Yz (Xg (by kernel_rfl)) Yz Yz Yz ?_;rintro ak vs w5 s ⟨Z,V,hZ,z⟩ b5;show wpList _ ak _ [_] (QI _ vs [12,13,14,15,16,17,18,19,20,21,9]) w5;simp only[QI,Act.put,List.setIfInBounds_toArray,List.set_cons_zero,List.set_cons_succ,s,V]
 have BZ:=Qc (Qid z bl p);have B6:=Qc (QbR hZ (QbB bl p).toList 0 b5);have TH:=Qc (Qer z Yz bl p);have SZ:=Qc (show (prog.info? 86).map (·.size)=some (QbB bl p).size from pSizeB);have ON:=Qc (QhR bl p);obtain⟨cs,A⟩:∃ cs,QbB bl p=cs:=⟨_,Yz⟩
 rw[A] at BZ B6 TH SZ ON |-
 have EC:=Qc A;clear A s V hZ z b5 ab T;go_upto_region 2 with (refine wpList_store_mid Yz 86 (.tmp 9) (.tmp 21) Yz Z 0 cs Yz Yz TH.out SZ.out ON.out ?_)
 generalize w5.setCells Z 0 cs.toList=w6 at BZ B6 |-;obtain rfl:=EC.out;clear TH SZ ON EC;have D:=Qc (Blk.below BT.out B6.out);have a:=Qc (F.out.trans (B6.out.mono F.out.size));clear BX BT B6 F;have t0:=Qa D.out 0 _ Yz;have t1:=Qa D.out 1 _ Yz;have t2:=Qa D.out 2 _ Yz;have z0:=Qa BZ.out 0 _ Yz;have z1:=Qa BZ.out 1 _ Yz;by_cases g:(t.regs.length:Int)=bl.regs/\t.args.length=bl.params.length
 rotate_left
 ·have d:Hid (oo=none):=by show _=_;rw[K.out,Xr g]
  by_cases h1:(t.regs.length:Int)=bl.regs
  ·have x:((t.regs.length:Int)==bl.regs)=true:=by simpa using h1
   have ae:((t.args.length:Int)==(bl.params.length:Int))=false:=by
    have:¬ t.args.length=bl.params.length:=fun e=>g ⟨h1,e⟩
    simp;omega
   clear g h1 K;go_wp2_with fail
   refine(Zj _).mono ?_
   rintro e' w' ⟨rfl,b⟩;subst b;exact⟨Yz,a.out,by rw[d.out]⟩
  ·have x:((t.regs.length:Int)==bl.regs)=false:=by simpa using h1
   clear g h1 K;go_wp2_with fail
   refine(Zj _).mono ?_
   rintro e' w' ⟨rfl,b⟩;subst b;exact⟨Yz,a.out,by rw[d.out]⟩
 have x:((t.regs.length:Int)==bl.regs)=true:=by simpa using g.1
 have ae:((t.args.length:Int)==(bl.params.length:Int))=true:=by simp[g.2]
 have q:Hid (oo=match Zh fr.r t.regs with | none=>none | some rs=>match Qp fr.v t.args with | none=>none | some I=>some ⟨fi,bi,0,I,rs⟩):=by show _=_;rw[K.out,Xs g]
 have ah:Hid (bl.regs=t.regs.length):=g.1.symm;clear g K;go_upto_region 3 with (go_at_call 138;refine(ZF _).mono ?_;rintro e' w' ⟨rfl,b⟩;have b:=b.symm;subst b)
 clear x ae z1;have F6:=Qc (HF.out.below a.out);have f3:=Qa F6.out.1 3 _ Yz;have au:=Qc t1;go_wp2_with fail
 go_loopw [41] (fun i wr=>∃ k:Nat,k<=t.regs.length/\i=Iv k/\wr=w6/\∀ (j:Nat) (y:Int),j<k->t.regs[j]?=some y->0<=y/\y<(fr.r.length:Int)) (fun i _=>t.regs.length - (intOf i).toNat)
 case atStart=>exact⟨0,Xb _,Yz,Yz,fun j y J=>by omega⟩
 case round =>
  obtain⟨k,hk,rfl,b,hz⟩:=hrel
  have b:=b.symm;subst b;have HZ:=Qc hz;clear hz t1;by_cases n:k<t.regs.length
  ·have af:(k:Int)<t.regs.length:=by omega
   obtain⟨y,U⟩:∃ y,t.regs[k]?=some y:=⟨_,Zg n⟩
   obtain⟨g9,o9,rfl,-,hg,E⟩:=ZJ N.out n
   rw[show t.regs.getD k 0=y by rw[List.getD_eq_getElem?_getD,U];rfl] at E
   have y0:=Qo E a.out;have HY:=Qc U;clear E hg U;by_cases o:0<=y/\y<(fr.r.length:Int)
   ·have d1:decide (y>=0)=true:=by simpa using o.1
    have d2:decide (y<(fr.r.length:Int))=true:=by simpa using o.2
    have ao:=Qc o;clear o;go_wp2_with (go_at_call 138;refine(ZF _).mono ?_;rintro e' w' ⟨rfl,b⟩;have b:=b.symm;subst b)
    go_roundw
    case rel =>
     refine⟨k+1,n,by go_num,by first | rfl | trivial,fun j y' J C=>?_⟩
     rcases Nat.lt_or_ge j k with h | h
     ·exact HZ.out j y' h C
     ·have:j=k:=by omega
      subst this;rw[HY.out] at C
      cases C
      exact ao.out
    case measure=>simp[intOf];omega
   ·have d:Hid (oo=none):=by show _=_;rw[q.out,Qdc (Zm HY.out) o]
    by_cases M:0<=y
    ·have d1:decide (y>=0)=true:=by simpa using M
     have d2:decide (y<(fr.r.length:Int))=false:=Xu (fun h=>o ⟨M,h⟩);clear o M q;go_wp2_with fail
     refine(Zj _).mono ?_
     rintro e' w' ⟨rfl,b⟩;subst b;exact⟨Yz,a.out,by rw[d.out]⟩
    ·have d1:decide (y>=0)=false:=by simpa using M
     clear o M q;go_wp2_with fail
     refine(Zj _).mono ?_
     rintro e' w' ⟨rfl,b⟩;subst b;exact⟨Yz,a.out,by rw[d.out]⟩
  ·have af:¬ (k:Int)<t.regs.length:=by omega
   obtain⟨rs,ac,R⟩:=QcY (r:=fr.r) (l:=t.regs) (fun y U=>by
    obtain⟨j,J⟩:=List.getElem?_of_mem U
    exact HZ.out j y (by have:=(Zi J).1;omega) J)
   have d:Hid (oo=match Qp fr.v t.args with | none=>none | some I=>some ⟨fi,bi,0,I,rs⟩):=by show _=_;rw[q.out,ac]
   have ag:=Qc R;have CA:Hid (∀ wx,Below w6.heap.size w6 wx->Calls prog 142 #[Pv c 0,.slice pa t.args.length ca] wx fun e w'=>Qcj wx (Qp fr.v t.args) t.args.length e w'):=fun wx bx=>Qeh (F6.out.below bx) hl Yz (by omega) (Ya am.out (a.out.trans (bx.mono a.out.size)));clear HZ n q R ac N;go_upto_region 8 with fail
   refine ig8 t0 z0 t2 CA _ _ Yz (Xg (by kernel_rfl)) Yz Yz Yz Yz ?_ ?_
   ·rintro ch a' w9 ai ⟨rfl,hv,b9⟩;exact⟨ai,a.out.trans (b9.mono a.out.size),by rw[d.out,hv]⟩
   ·rintro aw w9 ⟨B,g9,I,S,hB,L,P,ex,u⟩ b9;have bb:=a.out.trans (b9.mono a.out.size)
    have QQ:Hid (Qbh w oo (.returned (Pv B 0)) w9):=by
     refine⟨bb,?_⟩
     rw[d.out,ex]
     have aj:=Q8 _ _ ex;refine⟨B,g9,t.args.length,Yz,Zt a.out.size hB,Zt a.out.size P,?_,Qhf.of aj (by omega) u⟩
     rw[L,ah.out,<-ag.out]
     rfl
    simp only[QI,Act.put,List.setIfInBounds_toArray,List.set_cons_zero,List.set_cons_succ,S]
    clear S hB L P ex u b9 bb d ag CA;go_wp2
    go_ret;exact QQ.out
end
theorem Qf4 {l l2:List Oper}{outs:List Tmp}{gs:List (Nat × Option Bool)}{a:Act}{Q:Exit->Act->World->Prop}
 (E:Tmp->Value->World->Prop) (W:World->Prop) (R:World->World->Prop) (PX:List PanicEntry->World->Prop) (B:∀ ch a' w,a'.defers=a.defers->PX ch w->Q (.panic ch) a' w)
 (r:P.follows .mixedOrders=true)  (hn:a.tmps.size=m) (i:n<=m) (x:QaS l n outs gs bs=true)
 (p:(Qdv 0 (l++l2)&&(QcE l.length l&&Qbl (l++l2) l.length l2))=true)
 (z:∀ t v w w',R w w'->E t v w->E t v w') (y:Qah E l.toArray gs) (d:W w.drew) (H:Qa3 E a w.drew outs)
 (C:AllOkC E W R PX P l bs)
 (b:∀ (vs:Tmp->Value) w',W w'->(∀ t,(Qn l).contains t=true->E t (vs t) w')->wpList P (l++l2).toArray Q l2 (QI a vs (Qn l)) w') :
 (Code.region id (l++l2).toArray true).wp P Q a w:=by
 simp only[Bool.and_eq_true] at p
 obtain⟨f,c,g⟩:=p
 refine wp_region_any r ?_
 have k:wpAny P .any l.toArray (Exit.then (fun a w=>wpList P (l++l2).toArray Q l2 a w) Q) l.length (Array.replicate l.length false) a w.drew:=by
  have G:(fun j=>(Array.replicate l.length false).getD j false)=fun _=>false:=by
   funext j
   rw[Za,Array.getElem?_replicate]
   split<;>rfl
  refine Qda (E:=fun _=>E) (W:=fun _=>W) (PX:=PX) (Q:=Exit.then (fun a w=>wpList P (l++l2).toArray Q l2 a w) Q) (a0:=a) (outs:=outs) (gs:=gs) (bs:=bs) (fun ch a' w' D A=>B ch a' w' D A) (Qbc (hn ▸ i) x) (fun _=>y) (Qg8 z l bs 0 C) (fun vs S w' _ d J=>b vs w' d J) _ _ _ _ (by simp) ?_ ⟨d,(by rw[G];intro j o _ h;cases h),Z,Z,fun _ _=>rfl,fun t F _=>Qcw outs H t F,?_⟩
  ·simp only[Array.toList_replicate]
   exact Zt (List.length_filter_le _ _) (by simp)
  ·intro j o t K M s;simp[Array.getD] at s
 have:=Qc8 (Q:=Q) f c g l.length (Array.replicate l.length false) a w.drew (by simp) (fun q o L I=>by simp[Array.getD] at I) k
 have e:(Array.replicate l.length false++Array.replicate l2.length false:Array Bool)=Array.replicate (l++l2).toArray.size false:=by
  simp
 have u:l.length+l2.length=(l++l2).toArray.size:=by simp
 rw[e,u] at this
 exact this
theorem Q1 {lo:List Oper}{outs:List Tmp}{gs:List (Nat × Option Bool)}{a:Act}{Q:Exit->Act->World->Prop}
 (k:Nat) (E:Tmp->Value->World->Prop) (W:World->Prop) (R:World->World->Prop) (PX:List PanicEntry->World->Prop) (i:∀ ch a' w,a'.defers=a.defers->PX ch w->Q (.panic ch) a' w)
 (d:P.follows .mixedOrders=true)  (hn:a.tmps.size=m) (c:n<=m) (q:QaS (lo.take k) n outs gs bs=true)
 (g:(Qdv 0 lo&&(QcE (lo.take k).length (lo.take k)&&Qbl lo (lo.take k).length (lo.drop k)))=true)
 (p:∀ t v w w',R w w'->E t v w->E t v w') (o:Qah E (lo.take k).toArray gs) (f:W w.drew) (e:Qa3 E a w.drew outs)
 (j:AllOkC E W R PX P (lo.take k) bs)
 (b:∀ ops (vs:Tmp->Value) w',W w'->(∀ t,(Qn (lo.take k)).contains t=true->E t (vs t) w')->wpList P ops Q (lo.drop k) (QI a vs (Qn (lo.take k))) w') :
 (Code.region id lo.toArray true).wp P Q a w:=by
 have h:=Qf4 (id:=id) (l:=lo.take k) (l2:=lo.drop k) (Q:=Q) E W R PX i d hn c q (by rw[List.take_append_drop];exact g) p o f e j (b _);rwa [List.take_append_drop] at h
def Ql (g:MG) (w:World) (b most:Nat) (m:List (MFunc 6)) (M:IM) (sc sa:Int) (r:Option IM) (e:Ending) (w':World):Prop:=match r with
 | none=>e=.panicked stuckP/\XTo g w w' b most m M sc sa
 | some M'=>(e=.returned (.tuple #[])/\XTo g w w' b most m M' sc sa)\/(∃ N k,M'=N.over k/\e=.panicked (QkR k)/\XTo g w w' b most m N sc sa)
section
variable {w w' w2:World}{b most:Nat}{m:List (MFunc 6)}{M M' N:IM}{sc sa:Int}{g g1:MG}{e:Ending}
theorem Ql.go (h:XTo g w w' b most m M' sc sa):Ql g w b most m M sc sa (some M') (.returned (.tuple #[])) w':=.inl ⟨Z,h⟩
theorem Ql.end_ {k:Int}(h:XTo g w w' b most m N sc sa):Ql g w b most m M sc sa (some (N.over k)) (.panicked (QkR k)) w':=.inr ⟨N,k,Z,Z,h⟩
theorem Ql.stuck (h:XTo g w w' b most m M sc sa):Ql g w b most m M sc sa none (.panicked stuckP) w':=⟨Z,h⟩
theorem MAt.regs (S:MAt w b most m M sc sa g) (k:Int):XTo g w (w.setCell ⟨g.t.c,3,none⟩ (Iv ((M.top.r.length:Int)+1))) b most m { M with top:={ M.top with r:=M.top.r++[k] } } sc sa:=by
 have F:=S.top;refine S.setTop Z Z Z (by simp) (fun x a d f=>Xd _ _ _ _ d) (v:=g.t.v) ⟨?_,?_⟩ (fun x a=>.inl a)
 ·have:=Qh F.1 3 (Iv ((M.top.r.length:Int)+1))
  rw[this]
  simp
 ·exact F.2.keep (fun x a=>Xd _ _ _ _ (fun (e:x=g.t.c)=>F.ne (e ▸ a)))
theorem MAt.next (S:MAt w b most m M sc sa g):XTo g w (w.setCell ⟨g.t.c,2,none⟩ (Iv ((M.top.i:Int)+1))) b most m { M with top:={ M.top with i:=M.top.i+1 } } sc sa:=by
 have F:=S.top;refine S.setTop Z Z Z (by simp) (fun x a d f=>Xd _ _ _ _ d) (v:=g.t.v) ⟨?_,?_⟩ (fun x a=>.inl a)
 ·have:=Qh F.1 2 (Iv ((M.top.i:Int)+1))
  rw[this]
  simp
 ·exact F.2.keep (fun x a=>Xd _ _ _ _ (fun (e:x=g.t.c)=>F.ne (e ▸ a)))
theorem MAt.heapC (S:MAt w b most m M sc sa g):w.cell? ⟨b,0,none⟩=some (Pv g.bh 0):=Qa S.box 0 _ Z
theorem XTo.below {c:World}(h:XTo g w w2 b most m M sc sa) (k:Below w2.heap.size w2 c):XTo g w c b most m M sc sa:=by
 obtain⟨e,a,s,d,f⟩:=h
 exact⟨e,a.below k,s.trans (a.stepB k),d,f⟩
theorem Qh8 (S:MAt w b most m M sc sa g) (B:HB n M.h) (hn:n<=1000000) (hv:M.top.v.length+1<=1000000) (hr:M.top.r.length<=1000000) :
 Calls prog 137 #[Pv b 0,Pv g.t.c 0] w fun e w'=>Ql g w b most m M sc sa (if M.h.open_.2.1 then some (IM.push { M with h:=M.h.open_.2.2,top:={ M.top with r:=M.top.r++[M.h.open_.1.region] } } [M.h.open_.1]) else some (M.over 6)) e w':=by
 have q0:=S.heapC;have C:=Qc (Qh2 S.heap (by have:=B.ok.len;omega) B.live);have T:=Qc S
 have x:Hid (M.h.open_.2.1=false->M.h.open_.2.2=M.h):=by
  show _->_;unfold Qd.open_;split
  ·exact fun _=>rfl
  ·exact fun h=>by cases h
 clear S B;generalize M.h.open_=op at C x |-;obtain⟨⟨s,a,p,q⟩,ob,oh⟩:=op
 simp only at C x |-
 go_enter func137,ntmps137
 go_upto_region 1 with (go_at_call 195;refine C.out.mono ?_;rintro H y ⟨rfl,U⟩)
 obtain⟨g2,F,Q,L,W⟩:=T.out.toHeap U
 have A:=QW y (.cells #[Iv s,Iv a,Iv p,Iv q] 211);have Y:=Qc (Qf y #[Iv s,Iv a,Iv p,Iv q] 211);have f:=Qc (F.below A);have z:=Qc (Q.trans (F.stepB A));have k:=Qc (Xh L W);clear C U Q A F q0 L W;generalize y.alloc (.cells #[Iv s,Iv a,Iv p,Iv q] 211)=O at Y f z |-;generalize y.heap.size=X at Y |-
 cases ob with
 | false =>
   have E:=Qc (x.out Z);go_wp2_with fail
   refine(QaK _ _).mono ?_
   rintro H w' ⟨rfl,u⟩;subst u;refine⟨Z,Ql.end_ ⟨g2,?_,z.out,k.out.1,k.out.2⟩⟩
   have:=f.out
   rw[E.out] at this
   exact this
 | true =>
   have f3:=Qa f.out.top.1 3 _ Z;have J:=Qe f.out.top.1 3;rw[k.out.1] at f3 J
   go_upto_region 2 with (go_at_call 84;refine(Qa0 _ _).mono ?_;rintro H w' ⟨rfl,u⟩;have u:=u.symm;subst u)
   obtain⟨I,d,i,c4,f4⟩:=f.out.regs a
   rw[k.out.1] at d i
   have o:Hid ((O.setCell ⟨g.t.c,3,none⟩ (Iv ((M.top.r.length:Int)+1))).heap[X]?=_):=(Xd _ _ _ _ (fun e=>by
    have V:=Y.out;rw[e,<-k.out.1,f.out.top.1] at V
    simp at V)).trans Y.out
   have d:=Qc d;have i:=Qc (z.out.trans i);have j:Hid (I.t.c=g.t.c/\I.fs=g.fs):=⟨c4.trans k.out.1,f4.trans k.out.2⟩;simp only at d i
   have ab:M.top.r.length+1<=1000001:=by omega
   clear f z Y c4 f4 x T;generalize aa:M.top.r.length=nr at *;go_upto_region 3 with fail
   generalize O.setCell ⟨g.t.c,3,none⟩ (Iv ((nr:Int)+1))=N at d i o |-;have y0:=Qa o.out 0 _ Z;have y1:=Qa o.out 1 _ Z;have y2:=Qa o.out 2 _ Z;have y3:=Qa o.out 3 _ Z;have D:=QW N (.cells #[Iv s,Iv a,Iv p,Iv q] 211);have G:=Qc (fun cp=>ZR (d.out.below D) (l:=[⟨s,a,p,q⟩]) (cp:=cp) Z (Qhk N s a p q) hv);have K:=Qc (i.out.trans (d.out.stepB D));rw[j.out.1] at G
   clear D o d i f3 J;go_wp2_with fail
   refine(G.out _).mono ?_
   rintro H w6 ⟨rfl,P⟩;have R:=Qc (XTo.then K.out j.out.1 j.out.2 P);clear P G K y0 y1 y2 y3;go_wp2
   exact Xz (v:=.tuple #[]) (by simp[results,results137,go_sem]) Z (Ql.go R.out)
theorem iInfo64:∃ i,prog.info? 2=some i/\i.zero=some (Iv 0)/\i.size=1/\i.bytes=8:=by
 have h:(prog.info? 2).map (fun i=>(i.zero,i.size,i.bytes))=some (some (Iv 0),1,8):=by kernel_rfl
 cases e:prog.info? 2 with
 | none=>rw[e] at h;cases h
 | some i =>
   rw[e] at h
   simp only[Option.map_some,Option.some.injEq,Prod.mk.injEq] at h
   exact⟨i,Z,h.1,h.2.1,h.2.2⟩
theorem iUnder64:prog.underlying 25=some (.slice 2):=by kernel_rfl
theorem MAt.setOut (S:MAt w b most m M sc sa g){v9:Value}{n:Int}(z:w9.ownsRow 0 2 1 v9 (M.out.length+1) (M.out.map (Value.int .i64)++[Iv n])) (j:w.grownBy w9 g.vo.ownBlock) (u:∀ k,v9.ownBlock=some k->g.vo.ownBlock=some k\/k=w.heap.size) :
 XTo g w (w9.setCell ⟨b,7,none⟩ v9) b most m { M with out:=M.out++[n] } sc sa:=by
 have r:=XC S.box;have v:w9.heap[b]?=_:=(j.block b r (fun e=>S.outNe e.symm Z)).trans S.box
 have o:∀ k,k<w.heap.size->k≠b->g.vo.ownBlock≠some k->(w9.setCell ⟨b,7,none⟩ v9).heap[k]?=w.heap[k]?:=fun k c d i=>by
  rw[Xd _ _ _ _ d]
  exact j.block k c (fun e=>i e.symm)
 have p:w.heap.size<=(w9.setCell ⟨b,7,none⟩ v9).heap.size:=by simpa using j.size
 have l:∀ k,v9.ownBlock=some k->k<w.heap.size->g.A k/\¬ g.O k:=fun k c C=>by
  rcases u k c with e | e
  ·exact S.oo k e
  ·omega
 have s:∀ k,¬ g.A k->k<w.heap.size->¬ (g.A k\/v9.ownBlock=some k):=fun k d i F=>by rcases F with e | e;exact d e;exact d (l k e i).1
 have q:∀ k,¬ g.A k->k<w.heap.size->(w9.setCell ⟨b,7,none⟩ v9).heap[k]?=w.heap[k]?:=fun k d i=>o k i (fun e=>d (e ▸ S.ob.1)) (fun e=>d (S.oo k e).1)
 have t:∀ k,v9.ownBlock=some k->k≠b:=fun k c e=>by
  rcases u k c with h | h
  ·exact S.outNe h e
  ·omega
 refine⟨{ g with vo:=v9,A:=fun x=>g.A x\/v9.ownBlock=some x },⟨?_,?_,?_,?_,S.inpC,?_,?_,?_,?_,⟨.inl S.ob.1,S.ob.2⟩,fun x a=>⟨.inl (S.oc x a).1,(S.oc x a).2⟩,fun x a=>⟨.inr a,fun e=>?_⟩,fun x a=>.inl (S.oa x a),?_,Zt S.low p⟩,?_,Z,Z⟩
 ·have:=Qh v 7 v9
  simpa using this
 ·exact S.heap.keep p (fun x a C=>o x C (fun e=>S.ob.2 (e ▸ a)) (fun e=>(S.oo x e).2 a))
 ·exact Zf (ZZ 6) q s S.mod
 ·exact Zf intsL q s S.inp
 ·exact QH S.calls (fun x a=>o x (S.lt x (S.oc x a).1) (S.callsNe a).1 (S.callsNe a).2)
 ·exact Zw q s S.back
 ·show World.ownsRow _ 0 _ 1 v9 (M.out++[n]).length ((M.out++[n]).map _);rw[List.length_append,List.map_append]
  exact QH z (fun x a=>Xd _ _ _ _ (t x a))
 ·refine S.frs.keep (fun k c d i=>⟨.inl d,i⟩) (fun y B=>?_);obtain⟨E,D,G,H⟩:=S.frs.mem y B
  have f:=S.frNe B;exact⟨o _ (XC D.1) f.1 (fun e=>(f.2.2.2 _ e).1 Z),fun x a=>o x (D.2.lt a) (fun e=>f.2.1 (e ▸ a)) (fun e=>(f.2.2.2 _ e).2 a)⟩
 ·exact(l x a (S.heap.lt x e)).2 e
 ·rintro x (a | a)
  ·exact Zl (S.lt x a) p
  ·have:=XC (QJ z a).choose_spec
   simpa using this
 ·refine⟨j.os,j.tape,j.output,p,fun k c d=>q k d c,?_⟩
  rintro k (c | c)
  ·exact .inl c
  ·rcases u k c with e | e
   ·exact .inl (S.oo k e).1
   ·exact .inr (by omega)
theorem Qf5 (S:MAt w b most m M sc sa g) (n:Int) (N:M.out.length<=2000) :
 Calls prog 147 #[Pv b 0,Iv n] w fun e w'=>Ql g w b most m M sc sa (if M.out.length=2000 then some (M.over 8) else some { M with out:=M.out++[n] }) e w':=by
 obtain⟨I,J,s,z,t⟩:=iInfo64
 obtain⟨U,W,j⟩:=Qa1 S.out
 have F:w.cell? ⟨b,7,none⟩=some g.vo:=Qa S.box 7 _ Z;rw[j] at F
 have C:=Qc S;have r:=Qc j;by_cases l:M.out.length=2000
 ·rw[Xs l]
  have H:decide ((M.out.length:Int)<2000)=false:=Xu (by omega);clear S j l;go_enter func147,ntmps147
  generalize M.out.length=P at *;go_wp2_with fail
  refine(QaK _ _).mono ?_
  rintro L w' ⟨rfl,h⟩;subst h;exact⟨Z,Ql.end_ (XTo.same C.out Zr)⟩
 ·rw[Xr l]
  have H:decide ((M.out.length:Int)<2000)=true:=Xt (by omega);have y:=QW w (.cells #[Iv n] 2);have i:=Qc (S.below y);have E:=Qc (S.stepB y);have q:=Qc i.out.out;have A:=Qc (QkF w [Iv n] 2);have G:Hid ((w.alloc (.cells #[Iv n] 2)).heap.size=w.heap.size+1):=by show _=_;simp
  have d:=Qc (fun v9 w9=>i.out.setOut (v9:=v9) (w9:=w9) (n:=n));have a:=Qc i.out.box;have c:=Qc (fun x=>i.out.outNe (x:=x));clear S j l y C;rw[r.out] at q d c
  go_enter func147,ntmps147
  go_upto_region 1 with (go_at_call 84;refine(Qa0 _ _).mono ?_;rintro L w' ⟨rfl,h⟩;have h:=h.symm;subst h)
  go_wp2_with (at_builtin;refine ZD _ Z _ _ 25 Z 2 I (Iv 0) 1 8 iUnder64 J s z t Z (by decide) _ _ _ Z q.out ⟨w.heap.size,0,none⟩ 1 1 [Iv n] Z Z A.out (by intro u D;simp at D;subst D;rfl) (by unfold maxLen;omega) (by omega) ?_)
  intro v9 w9 o p B;have R:=Qc (XTo.then E.out Z Z (d.out v9 w9 o p (fun k K=>(B k K).imp id (fun e=>by rw[G.out];exact e))));have f:=(p.block b (XC a.out) (fun e=>c.out b e.symm Z)).trans a.out;have T:w9.cell? ⟨b,7,none⟩=some g.vo:=Qa f 7 _ Z;have V:=Qe f 7;obtain⟨O,Q,rfl⟩:=Qa1 o
  clear o p B d f a q F A E i c;go_wp2
  exact Xz (v:=.tuple #[]) (by simp[results,results147,go_sem]) Z (Ql.go R.out)
theorem QfI (S:MAt w b most m M sc sa g) (E:M.inp.length<=1000000) (hv:M.top.v.length+1<=1000000) :
 Calls prog 146 #[Pv b 0,Pv g.t.c 0] w fun e w'=>Ql g w b most m M sc sa (match M.inp with | []=>some (M.over 4) | n::l=>some (IM.push { M with inp:=l } [Qa9 n])) e w':=by
 have o:w.cell? ⟨b,2,none⟩=some (.slice g.pi M.inp.length g.ci):=Qa S.box 2 _ Z;have Q:=Qc S
 cases hi:M.inp with
 | nil =>
   rw[hi] at o
   clear S;go_enter func146,ntmps146
   go_wp2_with fail
   refine(QaK _ _).mono ?_
   rintro W w' ⟨rfl,r⟩;subst r;exact⟨Z,Ql.end_ (XTo.same Q.out Zr)⟩
 | cons n l =>
   have a:=S.inp;rw[hi] at o a
   obtain⟨gi,oi,J,-,F,L⟩:=ZJ a (i:=0) (by simp)
   simp only[List.getD_cons_zero,Nat.add_zero] at L
   rw[J] at o
   have C:=Qc (Z2 S n hv);have U:=Qc hi;have H:=Qc J;have G:=Qc S.inpC;have ac:l.length+1<=g.ci:=by have:=S.inpC;rw[hi] at this;simpa using this
   have ab:l.length+1<=1000000:=by rw[hi] at E;simpa using E
   simp only[List.length_cons] at o
   clear S J a hi E;go_enter func146,ntmps146
   have d1:decide (((l.length+1:Nat):Int)>0)=true:=Xt (by omega);go_upto_region 2 with (first | (go_at_call 84;refine(Qa0 _ _).mono ?_;rintro W w' ⟨rfl,r⟩;have r:=r.symm;subst r) | (go_at_call 135;refine C.out.mono ?_;rintro W q ⟨rfl,B⟩))
   obtain⟨d,f,O,N,T⟩:=B
   have P:(M.push [Qa9 n]).inp=n::l:=U.out;have o:q.cell? ⟨b,2,none⟩=some (.slice d.pi (M.push [Qa9 n]).inp.length d.ci):=Qa f.box 2 _ Z;have a:=f.inp;have z:=f.inpC;rw[P] at o a z
   obtain⟨I,p,u,-,s,-⟩:=ZJ a (i:=0) (by simp)
   rw[u] at o a
   simp only[List.length_cons] at o z
   have z2:=Qe f.box 2
   have K:Hid (intsL.In q (Imm d.A b) l [.slice (some ⟨I,p+1,none⟩) l.length (d.ci - 1)]):=by
    refine⟨_,_,Z,fun i x hx=>?_⟩
    obtain⟨g9,o9,ds,y,D,B,h3,h4⟩:=Yf a (i:=i+1) (x:=x) (by simpa using hx)
    injection y with y
    injection y with y e10
    subst y;subst e10;refine⟨_,_,ds,Z,D,B,fun j X=>?_,h4⟩
    have:=h3 j X
    rw[show p+1+i*Lay.int.size+j=p+(i+1)*Lay.int.size+j by simp[Lay.int];omega]
    exact this
   have R:Hid (∀ (pi:Option Addr) (ci:Nat),intsL.In q (Imm d.A b) l [.slice pi l.length ci]->l.length<=ci->XTo g w (q.setCell ⟨b,2,none⟩ (.slice pi l.length ci)) b most m (IM.push { M with inp:=l } [Qa9 n]) sc sa):=fun pi ci D B=>XTo.then O N T (f.reBox (M':=IM.push { M with inp:=l } [Qa9 n]) (w':=q.setCell ⟨b,2,none⟩ (.slice pi l.length ci)) (sc':=sc) (sa':=sa) Z Z Z (by simp) (fun k V D=>Xd _ _ _ _ D) ⟨Z,Z,Z,Z⟩ (pi:=pi) (ci:=ci) (vb:=d.vb) ⟨D,B⟩ (Zw (fun k V E=>Xd _ _ _ _ (fun (e:k=b)=>V (e ▸ f.ob.1))) (fun _ h _=>h) f.back) (by
    rw[Qh f.box 2 _]
    rfl))
   have R1:=Qc (R.out _ _ K.out (by omega))
   have R0:Hid (l.length=0->∀ pi ci,XTo g w (q.setCell ⟨b,2,none⟩ (.slice pi l.length ci)) b most m (IM.push { M with inp:=l } [Qa9 n]) sc sa):=fun e pi ci=>R.out pi ci (by
    have:l=[]:=Xf.1 e
    subst this;exact Yg _ _ _ _ _) (by omega)
   have aa:((d.ci:Int) - 1)=((d.ci - 1:Nat):Int):=by omega
   clear f O a K C Q U H G L u P d1 F s N T R;generalize d.ci=ci at *;go_wp2
   ·exact Xz (v:=.tuple #[]) (by simp[results,results146,go_sem]) Z (Ql.go (R0.out (by omega) _ _))
   ·exact Xz (v:=.tuple #[]) (by simp[results,results146,go_sem]) Z (Ql.go R1.out)
end
section
variable {w w' w5 w9:World}{b most:Nat}{m:List (MFunc 6)}{M M' N:IM}{sc sa:Int}{g g1:MG}{e:Ending}
theorem Qg0 {xs:List FB}{frs:List IFr}(h:QaI w A O xs frs){y z:FB}(a:y∈xs) (g:z∈xs):y.v.ownBlock≠some z.c:=by
 obtain⟨i,f,-⟩:=h.mem y a
 obtain⟨j,d,-⟩:=h.mem z g
 intro e;obtain⟨c,b⟩:=QJ f.2 e
 exact QK b d.1 (by decide) Z
theorem MAt.pushFr (S:MAt w b most m M sc sa g) (p:Below w.heap.size w w5){f:Nat}{n:Value}{L:IFr}(F:Qdk w5 f L n) (H:w.heap.size<=f) (r:∀ k,n.ownBlock=some k->w.heap.size<=k)
 {v9:Value} (N:w9.ownsRow 0 97 1 v9 (M.rest.length+1+1) (QaN (g.t::g.fs)++[Pv f 0])) (q:w5.grownBy w9 g.vc.ownBlock) (I:∀ k,v9.ownBlock=some k->g.vc.ownBlock=some k\/k=w5.heap.size) :
 ∃ g',MAt (w9.setCell ⟨b,4,none⟩ v9) b most m { M with top:=L,rest:=M.top::M.rest } sc sa g'/\QE g.A g'.A w (w9.setCell ⟨b,4,none⟩ v9)/\g'.fs=g.t::g.fs:=by
 have s:=XC S.box
 have z:∀ k,k<w.heap.size->k≠b->g.vc.ownBlock≠some k->(w9.setCell ⟨b,4,none⟩ v9).heap[k]?=w.heap[k]?:=fun k d i o=>by
  rw[Xd _ _ _ _ i]
  exact(q.block k (Zl d p.size) (fun e=>o e.symm)).trans (p.block k d)
 have K:w9.heap[b]?=_:=(q.block b (Zl s p.size) (fun e=>(S.callsNe e.symm).1 Z)).trans ((p.block b s).trans S.box);have W:=p.size;have C:w.heap.size<=(w9.setCell ⟨b,4,none⟩ v9).heap.size:=by have:=q.size;simp;omega
 have u:∀ k,v9.ownBlock=some k->k<w.heap.size->g.A k/\¬ g.O k:=fun k d P=>by
  rcases I k d with e | e
  ·exact S.oc k e
  ·omega
 have Q:∀ k,(k=f\/n.ownBlock=some k)->w.heap.size<=k/\k<w5.heap.size:=fun k d=>by
  rcases d with e | e
  ·subst e;exact⟨H,XC F.1⟩
  ·exact⟨r k e,F.2.lt e⟩
 have R:∀ k,w.heap.size<=k->¬ g.O k:=fun k d h=>by have:=S.heap.lt k h;omega
 have j:∀ k,w.heap.size<=k->k<w5.heap.size->(w9.setCell ⟨b,4,none⟩ v9).heap[k]?=w5.heap[k]?:=fun k i o=>by
  rw[Xd _ _ _ _ (fun (e:k=b)=>by omega)]
  exact q.block k o (fun e=>by have:=S.lt k (S.oc k e.symm).1;omega)
 have E:∀ k,¬ g.A k->k<w.heap.size->¬ (g.A k\/k=f\/n.ownBlock=some k\/v9.ownBlock=some k):=fun k i o U=>by
  rcases U with e | e | e | e
  ·exact i e
  ·omega
  ·have:=r k e;omega
  ·exact i (u k e o).1
 have D:∀ k,¬ g.A k->k<w.heap.size->(w9.setCell ⟨b,4,none⟩ v9).heap[k]?=w.heap[k]?:=fun k i o=>z k o (fun e=>i (e ▸ S.ob.1)) (fun e=>i (S.oc k e).1)
 have G:∀ k,v9.ownBlock=some k->k≠b:=fun k d e=>by
  rcases I k d with h | h
  ·exact(S.callsNe h).1 e
  ·omega
 have T:Qdk (w9.setCell ⟨b,4,none⟩ v9) f L n:=F.keep (j f H (XC F.1)) (fun x a=>j x (r x a) (F.2.lt a));refine⟨{ g with vc:=v9,t:=⟨f,n⟩,fs:=g.t::g.fs,A:=fun k=>g.A k\/k=f\/n.ownBlock=some k\/v9.ownBlock=some k },⟨?_,?_,?_,?_,S.inpC,?_,?_,?_,?_,⟨.inl S.ob.1,S.ob.2⟩,fun x a=>⟨.inr (.inr (.inr a)),fun e=>?_⟩,fun x a=>⟨.inl (S.oo x a).1,(S.oo x a).2⟩,fun x a=>.inl (S.oa x a),?_,Zt S.low C⟩,?_,Z⟩
 ·have:=Qh K 4 v9
  simpa using this
 ·exact S.heap.keep C (fun x a P=>z x P (fun e=>S.ob.2 (e ▸ a)) (fun e=>(S.oc x e).2 a))
 ·exact Zf (ZZ 6) D E S.mod
 ·exact Zf intsL D E S.inp
 ·have e:QaN (⟨f,n⟩::g.t::g.fs)=QaN (g.t::g.fs)++[Pv f 0]:=by simp[QaN]
  show World.ownsRow _ 0 _ 1 v9 ((M.top::M.rest).length+1) (QaN (⟨f,n⟩::g.t::g.fs));rw[e]
  exact QH N (fun x a=>Xd _ _ _ _ (G x a))
 ·exact Zw D E S.back
 ·exact QH S.out (fun x a=>z x (S.lt x (S.oo x a).1) (S.outNe a) (fun e=>(S.callsNe e).2 a))
 ·refine⟨⟨T,⟨.inr (.inl Z),R f H⟩,fun k d=>⟨.inr (.inr (.inl d)),R k (r k d)⟩⟩,fun y B=>?_,?_⟩
  ·obtain⟨J,v,V,X⟩:=S.frs.mem y B
   refine⟨fun e=>?_,fun k d e=>?_⟩
   ·have i:=XC v.1;have e:y.c=f:=e;omega
   ·have:=v.2.lt e
    have:=r k d
    omega
  ·refine S.frs.keep (fun k d i o=>⟨.inl i,o⟩) (fun y B=>?_);obtain⟨J,v,V,X⟩:=S.frs.mem y B
   have l:=S.frNe B;exact⟨z _ (XC v.1) l.1 (fun e=>(l.2.2.1 _ e).1 Z),fun x a=>z x (v.2.lt a) (fun e=>l.2.1 (e ▸ a)) (fun e=>(l.2.2.1 _ e).2 a)⟩
 ·exact(u x a (S.heap.lt x e)).2 e
 ·have h9:=q.size;rintro x (a | rfl | a | a)
  ·exact Zl (S.lt x a) C
  ·have:=XC F.1;simp;omega
  ·have:=F.2.lt a;simp;omega
  ·have:=XC (QJ N a).choose_spec
   simpa using this
 ·refine⟨q.os.trans p.os,q.tape.trans p.tape,q.output.trans p.output,C,fun k d i=>D k i d,?_⟩
  rintro k (d | d | d | d)
  ·exact .inl d
  ·exact .inr (by omega)
  ·exact .inr (r k d)
  ·rcases I k d with e | e
   ·exact .inl (S.oc k e).1
   ·exact .inr (by omega)
theorem MAt.next2 (S:MAt w b most m M sc sa g){y:FB}{D:List FB}{d:IFr}{rest:List IFr}(n:g.fs=y::D) (C:M.rest=d::rest) :
 ∃ g',MAt (w.setCell ⟨y.c,2,none⟩ (Iv ((d.i:Int)+1))) b most m { M with rest:={ d with i:=d.i+1 }::rest } sc sa g'/\QE g.A g'.A w (w.setCell ⟨y.c,2,none⟩ (Iv ((d.i:Int)+1))):=by
 have G:=S.frs;rw[n,C] at G
 obtain⟨⟨J,I,K⟩,B,⟨⟨r,s,L⟩,E,F⟩⟩:=G
 have p:y∈g.t::g.fs:=by rw[n];simp
 have j:=S.frNe p;have f:∀ k,k≠y.c->(w.setCell ⟨y.c,2,none⟩ (Iv ((d.i:Int)+1))).heap[k]?=w.heap[k]?:=fun k l=>Xd _ _ _ _ l;have o:∀ k,¬ g.A k->k<w.heap.size->(w.setCell ⟨y.c,2,none⟩ (Iv ((d.i:Int)+1))).heap[k]?=w.heap[k]?:=fun k l _=>f k (fun e=>l (e ▸ s.1));have v:w.heap.size<=(w.setCell ⟨y.c,2,none⟩ (Iv ((d.i:Int)+1))).heap.size:=by simp
 refine⟨g,⟨?_,?_,?_,?_,S.inpC,?_,?_,?_,?_,S.ob,S.oc,S.oo,S.oa,fun x a=>by simpa using S.lt x a,by simpa using S.low⟩,⟨Z,Z,Z,v,fun k l h=>o k h l,fun k l=>.inl l⟩⟩
 ·exact(f b (Ne.symm j.1)).trans S.box
 ·exact S.heap.keep v (fun x a N=>f x (fun e=>s.2 (e ▸ a)))
 ·exact Zf (ZZ 6) o (fun _ h _=>h) S.mod
 ·exact Zf intsL o (fun _ h _=>h) S.inp
 ·have:=QH S.calls (w':=w.setCell ⟨y.c,2,none⟩ (Iv ((d.i:Int)+1))) (fun x a=>f x (fun e=>(j.2.2.1 x a).1 e.symm))
  rw[C] at this
  exact this
 ·exact Zw o (fun _ h _=>h) S.back
 ·exact QH S.out (fun x a=>f x (fun e=>(j.2.2.2 x a).1 e.symm))
 ·rw[n]
  have q:y∈y::D:=by simp
  refine⟨⟨J.keep (f _ (fun e=>(B y q).1 e.symm)) (fun x a=>f x (fun e=>?_)),I,K⟩,B,⟨⟨⟨?_,?_⟩,s,L⟩,E,?_⟩⟩
  ·subst e;exact Qg0 S.frs (y:=g.t) (z:=y) (by simp) p a
  ·have:=Qh r.1 2 (Iv ((d.i:Int)+1))
   rw[this]
   simp
  ·exact r.2.keep (fun x a=>f x (fun e=>r.ne (e ▸ a)))
  ·refine QaI.keep (fun k _ h H=>⟨h,H⟩) F (fun z u=>?_);obtain⟨O,P,Q,R⟩:=QaI.mem F z u
   refine⟨f _ (E z u).1,fun x a=>f x (fun e=>?_)⟩
   subst e;exact Qg0 S.frs (y:=z) (z:=y) (by rw[n];simp[u]) p a
theorem MAt.pop (S:MAt w b most m M sc sa g){y:FB}{o:List FB}{d:IFr}{rest:List IFr}(q:g.fs=y::o) (E:M.rest=d::rest)(D:g.vc=.slice a (M.rest.length+1) cap) :
 ∃ g',MAt (w.setCell ⟨b,4,none⟩ (.slice a M.rest.length cap)) b most m { M with top:=d,rest:=rest } sc sa g'/\QE g.A g'.A w (w.setCell ⟨b,4,none⟩ (.slice a M.rest.length cap))/\g'.t=y:=by
 have r:=S.frs;rw[q,E] at r
 obtain⟨⟨W,V,X⟩,U,r⟩:=r
 have l:∀ k,k≠b->(w.setCell ⟨b,4,none⟩ (.slice a M.rest.length cap)).heap[k]?=w.heap[k]?:=fun k i=>Xd _ _ _ _ i;have p:∀ k,¬ g.A k->k<w.heap.size->(w.setCell ⟨b,4,none⟩ (.slice a M.rest.length cap)).heap[k]?=w.heap[k]?:=fun k i _=>l k (fun e=>i (e ▸ S.ob.1));have C:w.heap.size<=(w.setCell ⟨b,4,none⟩ (.slice a M.rest.length cap)).heap.size:=by simp
 have Q:(Value.slice a M.rest.length cap).ownBlock=g.vc.ownBlock:=by rw[D];cases a<;>rfl
 refine⟨{ g with vc:=.slice a M.rest.length cap,t:=y,fs:=o },⟨?_,?_,?_,?_,S.inpC,?_,?_,?_,?_,S.ob,fun x f=>S.oc x (by rw[<-Q];exact f),S.oo,S.oa,fun x f=>by simpa using S.lt x f,by simpa using S.low⟩,⟨Z,Z,Z,C,fun k i h=>p k h i,fun k i=>.inl i⟩,Z⟩
 ·have:=Qh S.box 4 (.slice a M.rest.length cap)
  simpa using this
 ·exact S.heap.keep C (fun x f R=>l x (fun e=>S.ob.2 (e ▸ f)))
 ·exact Zf (ZZ 6) p (fun _ h _=>h) S.mod
 ·exact Zf intsL p (fun _ h _=>h) S.inp
 ·have i:=QH S.calls (w':=w.setCell ⟨b,4,none⟩ (.slice a M.rest.length cap)) (fun x f=>l x (S.callsNe f).1);obtain⟨q1,I⟩:=i
  have N:QaN (g.t::g.fs)=QaN (y::o)++[Pv g.t.c 0]:=by rw[q];simp[QaN]
  have v:(QaN (y::o)).length=M.rest.length:=by have:=S.rows;rw[q] at this;simpa[QaN] using this
  show World.ownsRow _ 0 _ 1 (.slice a M.rest.length cap) (rest.length+1) (QaN (y::o));have s:rest.length+1=M.rest.length:=by rw[E];simp
  rw[s]
  refine⟨by rw[v];simp,?_⟩
  rcases I with ⟨B,H⟩|⟨F,cp,j,B,H,J,T,P,L,K⟩
  ·omega
  ·rw[D] at B
   cases B
   refine .inr ⟨F,cap,j,Z,Xb _,J,by omega,P,L,?_⟩
   have:j.toList.take (M.rest.length*1)=(j.toList.take ((M.rest.length+1)*1)).take (M.rest.length*1):=by rw[List.take_take,Nat.min_eq_left (by omega)]
   rw[this,K,N,List.take_append_of_le_length (by omega),XO (by omega)]
 ·exact Zw p (fun _ h _=>h) S.back
 ·exact QH S.out (fun x f=>l x (S.outNe f))
 ·refine QaI.keep (fun k _ h G=>⟨h,G⟩) r (fun z O=>?_);have u:z∈g.t::g.fs:=by rw[q];exact List.mem_cons_of_mem _ O
  have n:=S.frNe u;exact⟨l _ n.1,fun x f=>l x (fun e=>n.2.1 (e ▸ f))⟩
end
theorem Qdr {l:List Oper}{S:Nat->Bool}(a:Qad l S){i:Nat}{o:Oper}(d:l[q]?=some o) (b:QbE l 30 o i=true) (c:S i=false):S q=false:=by
 cases h:S q with
 | false=>rfl
 | true =>
   have:S i=true:=Qa4 (all:=l) (S:=fun j=>S j=true) a 30 o b (a q o d h)
   rw[c] at this;cases this
theorem Qkj {l:List Oper}{S:Nat->Bool}(a:Qad l S){o:Oper}(b:QkH o S){i:Nat}(c:QbE l 30 o i=true):S i=true:=Qa4 (all:=l) (S:=fun j=>S j=true) a 30 o c b
theorem QjI {i:Nat}{S:Nat->Bool}(h:j≠i):ZE i S j=S j:=by
 have:(j==i)=false:=by simpa using h
 unfold ZE;rw[this,Bool.false_or]
theorem Qm8 {i:Nat}{S:Nat->Bool}:ZE i S i=true:=by simp[ZE]
abbrev zero4:Array Value:=#[Iv 0,Iv 0,Iv 0,Iv 0]
abbrev Ql0 (r:Qj):Array Value:=#[Iv r.kind,Iv r.region,Iv r.thing,Iv r.n]
abbrev Qk9 (w:World) (Z:Nat) (r:Qj):World:=(((w.setCell ⟨Z,0,none⟩ (Iv r.kind)).setCell ⟨Z,1,none⟩ (Iv r.region)).setCell ⟨Z,2,none⟩ (Iv r.thing)).setCell ⟨Z,3,none⟩ (Iv r.n)
structure HPs (w6:World) (HP:World->Prop) (HZ:Nat->World->Prop):Prop where
 down:∀ {Z w},HZ Z w->HP w
 up:∀ {w} (o:Obj),HP w->HZ w.heap.size (w.alloc o)
 below:∀ {w w'},HP w->Below w.heap.size w w'->HP w'
 belowZ:∀ {Z w w'},HZ Z w->Z<w.heap.size->Below w.heap.size w w'->HZ Z w'
 fill:∀ {Z w} (r:Qj),HZ Z w->w6.heap.size<=Z->HZ Z (Qk9 w Z r)
 low:∀ {w},HP w->w6.heap.size<=w.heap.size
def WY (w6:World) (HP:World->Prop) (hk:Nat) (S:Nat->Bool) (w:World):Prop:=(S hk=false/\Below w6.heap.size w6 w)\/(S hk=true/\HP w)
def Qaw (w6:World) (HZ:Nat->World->Prop) (hk st:Nat) (R:Qj->Prop) (S:Nat->Bool) (v:Value) (w:World):Prop :=
 ∃ Z,v=Pv Z 0/\w6.heap.size<=Z/\(S st=false->Blk w Z zero4 211)/\(S st=true->∃ r:Qj,R r/\Blk w Z (Ql0 r) 211)/\(S hk=true->HZ Z w)
section
variable {Z:Nat}{w6 w w':World}{HP:World->Prop}{HZ:Nat->World->Prop}{hk st i:Nat}{S:Nat->Bool}{R:Qj->Prop}{v:Value}
theorem WY.pre (h:WY w6 HP hk S w) (a:S hk=false):Below w6.heap.size w6 w:=by
 rcases h with h | h
 ·exact h.2
 ·rw[a] at h;cases h.1
theorem WY.low (h:WY w6 HP hk S w) (P:HPs w6 HP HZ):w6.heap.size<=w.heap.size:=by
 rcases h with h | h
 ·exact h.2.size
 ·exact P.low h.2
theorem WY.on (h:WY w6 HP hk S w) (P:HPs w6 HP HZ) (hi:i≠hk) (b:Below w.heap.size w w'):WY w6 HP hk (ZE i S) w':=by
 have e:ZE i S hk=S hk:=QjI (fun e=>hi e.symm);rcases h with ⟨c,a⟩|⟨c,a⟩
 ·exact .inl ⟨by rw[e];exact c,a.trans (b.mono a.size)⟩
 ·exact .inr ⟨by rw[e];exact c,P.below a b⟩
theorem WY.did (p:HP w'):WY w6 HP hk (ZE hk S) w':=.inr ⟨Qm8,p⟩
theorem WY.fin (h:WY w6 HP hk S w) (a:S hk=true):HP w:=by
 rcases h with h | h
 ·rw[a] at h;cases h.1
 ·exact h.2
theorem Qaw.lt (h:Qaw w6 HZ hk st R S v w):∃ Z,v=Pv Z 0/\w6.heap.size<=Z/\Z<w.heap.size:=by
 obtain⟨Z,e,a,c,b,f⟩:=h
 refine⟨Z,e,a,?_⟩
 cases hS:S st with
 | false=>exact XC (c hS)
 | true=>obtain⟨r,_,d⟩:=b hS;exact XC d
theorem Qaw.on (h:Qaw w6 HZ hk st R S v w) (P:HPs w6 HP HZ) (hi:i≠hk) (j:i≠st) (b:Below w.heap.size w w'):Qaw w6 HZ hk st R (ZE i S) v w':=by
 obtain⟨q,f,_,a⟩:=h.lt
 obtain⟨Z,e,g,m,l,n⟩:=h
 have a:Z<w.heap.size:=by rw[e] at f;cases f;exact a
 have p:ZE i S hk=S hk:=QjI (fun e=>hi e.symm);have d:ZE i S st=S st:=QjI (fun e=>j e.symm);refine⟨Z,e,g,fun c=>?_,fun c=>?_,fun c=>?_⟩
 ·exact(b.block Z a).trans (m (by rw[<-d];exact c))
 ·obtain⟨r,o,k⟩:=l (by rw[<-d];exact c)
  exact⟨r,o,(b.block Z a).trans k⟩
 ·exact P.belowZ (n (by rw[<-p];exact c)) a b
theorem Qaw.did (h:Qaw w6 HZ hk st R S v w) (g:hk≠st) (k:∀ Z,w6.heap.size<=Z->Z<w.heap.size->w'.heap[Z]?=w.heap[Z]?/\HZ Z w'):Qaw w6 HZ hk st R (ZE hk S) v w':=by
 obtain⟨n,d,_,a⟩:=h.lt
 obtain⟨Z,e,b,j,i,o⟩:=h
 have a:Z<w.heap.size:=by rw[e] at d;cases d;exact a
 have f:ZE hk S st=S st:=QjI (fun e=>g e.symm);refine⟨Z,e,b,fun c=>?_,fun c=>?_,fun _=>(k Z b a).2⟩
 ·exact(k Z b a).1.trans (j (by rw[<-f];exact c))
 ·obtain⟨r,l,m⟩:=i (by rw[<-f];exact c)
  exact⟨r,l,(k Z b a).1.trans m⟩
theorem Qaw.new (P:HPs w6 HP HZ) (a:WY w6 HP hk S w) (b:S st=false) (hi:i≠hk) (c:i≠st):Qaw w6 HZ hk st R (ZE i S) (Pv w.heap.size 0) (w.alloc (.cells zero4 211)):=by
 refine⟨_,Yz,a.low P,fun _=>Qf _ _ _,fun h=>?_,fun h=>?_⟩
 ·rw[QjI (fun e=>c e.symm),b] at h;cases h
 ·rw[QjI (fun e=>hi e.symm)] at h
  exact P.up _ (a.fin h)
theorem Qaw.fill (P:HPs w6 HP HZ) (h:Qaw w6 HZ hk st R S (Pv Z 0) w) (d:S st=false) (a:st≠hk) (r:Qj) (g:R r):Qaw w6 HZ hk st R (ZE st S) (Pv Z 0) (Qk9 w Z r):=by
 obtain⟨j,e,b,c,i,f⟩:=h
 cases e
 refine⟨Z,Yz,b,fun h=>?_,fun _=>⟨r,g,ZY (c d) _ _ _ _⟩,fun h=>?_⟩
 ·rw[Qm8] at h;cases h
 ·rw[QjI (fun e=>a e.symm)] at h
  exact P.fill r (f h) b
theorem Qaw.fillW (P:HPs w6 HP HZ) (h:Qaw w6 HZ hk st R S (Pv Z 0) w) (b:S hk=true) (a:st≠hk) (r:Qj):WY w6 HP hk (ZE st S) (Qk9 w Z r):=by
 obtain⟨g,e,c,i,f,d⟩:=h
 cases e
 exact .inr ⟨by rw[QjI (fun e=>a e.symm)];exact b,P.down (P.fill r (d b) c)⟩
theorem Qaw.full (h:Qaw w6 HZ hk st R S v w) (d:S st=true) (b:S hk=true):∃ Z,v=Pv Z 0/\w6.heap.size<=Z/\(∃ r:Qj,R r/\Blk w Z (Ql0 r) 211)/\HZ Z w:=by
 obtain⟨Z,e,a,g,c,f⟩:=h
 exact⟨Z,e,a,c d,f b⟩
theorem Qfy (a:World):HPs a (fun w=>Below a.heap.size a w) (fun Z w=>Below a.heap.size a w/\a.heap.size<=Z) where
 down:=fun h=>h.1
 up:=fun o h=>⟨h.alloc h.size o,h.size⟩
 below:=fun h b=>h.trans (b.mono h.size)
 belowZ:=fun h _ b=>⟨h.1.trans (b.mono h.1.size),h.2⟩
 fill:=fun r h c=>⟨QbF h.1 c _ _ _ _,h.2⟩
 low:=fun h=>h.size
end
def Qhm {α:Type}(F:FuncId) (args:Array Value) (w:World) (o:Option α) (V:α->Value):Prop:=∀ wx,Below w.heap.size w wx->Calls prog F args wx fun e w'=>Ask o V e/\Below wx.heap.size wx w'
def gdV (v:Qj):Prop:=v.ok/\v.bare=v
theorem Qa5 {v:List Qj}{a:Int}{x:Qj}(h:Qz v a=some x):x∈v:=by
 unfold Qz at h;split at h
 ·cases h
 ·exact Zm h
theorem ZV {v:List Qj}{a k:Int}{x:Qj}(h:QR v a k=some x):Qz v a=some x/\x.kind=k:=by
 unfold QR at h
 cases e:Qz v a with
 | none=>rw[e] at h;cases h
 | some y =>
   rw[e] at h
   simp only at h
   split at h
   ·cases h;exact⟨Z,by assumption⟩
   ·cases h
theorem Qaa {v:List Qj}{a k:Int}(h:QR v a k=none):Qz v a=none\/∃ x,Qz v a=some x/\x.kind≠k:=by
 unfold QR at h
 cases e:Qz v a with
 | none=>exact .inl Z
 | some y =>
   rw[e] at h
   simp only at h
   split at h
   ·cases h
   ·exact .inr ⟨y,Z,by assumption⟩
section
variable {M:IM}{x:Qv}
theorem Qn9 (h:x.op=6):M.mem x=match QR M.top.v x.a 3 with
 | none=>none
 | some y=>if (M.h.get y x.k).2=0 then some (M.push [(M.h.get y x.k).1]) else none:=by
 unfold IM.mem
 cases hk:QR M.top.v x.a 3 with
 | none =>
   rcases Qaa hk with e | ⟨y,e,b⟩
   ·rw[e]
   ·rw[e];simp[h,b]
 | some y =>
   obtain⟨e,b⟩:=ZV hk
   rw[e];simp[h,b]
theorem Qog (h:x.op=7):M.mem x=match QR M.top.v x.a 3 with
 | none=>none
 | some y=>match Qz M.top.v x.b with
   | none=>none
   | some z=>if (M.h.set y x.k z).1=0 then some { M with h:=(M.h.set y x.k z).2 } else none:=by
 unfold IM.mem
 cases hk:QR M.top.v x.a 3 with
 | none =>
   rcases Qaa hk with e | ⟨y,e,c⟩
   ·rw[e]
   ·rw[e];simp[h,c];cases Qz M.top.v x.b<;>rfl
 | some y =>
   obtain⟨e,c⟩:=ZV hk
   rw[e];simp[h,c];cases Qz M.top.v x.b<;>rfl
theorem Qoy (h:x.op=9):M.mem x=match QR M.top.v x.a 4 with
 | none=>none
 | some y=>match Qu M.top.v x.b with
   | none=>none
   | some n=>if (M.h.get y n).2=1 then some (M.over 2) else if (M.h.get y n).2=0 then some (M.push [(M.h.get y n).1]) else none:=by
 unfold IM.mem
 cases hk:QR M.top.v x.a 4 with
 | none =>
   rcases Qaa hk with e | ⟨y,e,c⟩
   ·rw[e]
   ·rw[e];simp[h,c];cases Qu M.top.v x.b<;>rfl
 | some y =>
   obtain⟨e,c⟩:=ZV hk
   rw[e];simp[h,c];cases Qu M.top.v x.b<;>rfl
theorem Qjj {h:Qd}{y z:Qj}{n:Int}(b:y.kind=4) (c:z.kind≠1):(h.set y n z).1=20:=by
 unfold Qd.set
 cases ht:h.thing y with
 | none=>rfl
 | some t =>
   cases hp:h.place y.region with
   | none=>rfl
   | some p =>
     simp only
     have:=(Qd.thing_iff.1 ht).2
     obtain⟨d,_,_,_,a⟩:=this
     rw[Xs ⟨by rw[a];simp[b],c⟩]
theorem QmO {z:Qj}(h:gdV z) (a:z.kind=1):z=Qa9 z.n:=by
 have:=h.2
 unfold Qj.bare at this;rw[Xs a] at this
 exact this.symm
theorem Qnr (h:x.op=10) (g:∀ v∈M.top.v,gdV v):M.mem x=match QR M.top.v x.a 4 with
 | none=>none
 | some y=>match Qu M.top.v x.b with
   | none=>none
   | some n=>match Qz M.top.v x.c with
     | none=>none
     | some z=>if (M.h.set y n z).1=1 then some (M.over 2) else if (M.h.set y n z).1=0 then some { M with h:=(M.h.set y n z).2 } else none:=by
 unfold IM.mem
 cases hk:QR M.top.v x.a 4 with
 | none =>
   rcases Qaa hk with e | ⟨y,e,d⟩
   ·rw[e]
   ·rw[e];simp[h,d]
    cases Qu M.top.v x.b with
    | none=>rfl
    | some n=>simp only;cases Qu M.top.v x.c<;>rfl
 | some y =>
   obtain⟨e,d⟩:=ZV hk
   rw[e];simp[h,d]
   cases Qu M.top.v x.b with
   | none=>rfl
   | some n =>
     simp only
     have i:Qu M.top.v x.c=match Qz M.top.v x.c with | none=>none | some x=>if x.kind=1 then some x.n else none:=rfl
     rw[i]
     cases hz:Qz M.top.v x.c with
     | none=>rfl
     | some z =>
       simp only
       by_cases f:z.kind=1
       ·rw[Xs f]
        simp only
        rw[<-QmO (g z (Qa5 hz)) f]
       ·rw[Xr f,Qjj d f]
        rfl
theorem Qnk (h:x.op=11):M.mem x=match QR M.top.v x.a 4 with
 | none=>none
 | some y=>if (M.h.len y).2=0 then some (M.push [Qa9 (M.h.len y).1]) else none:=by
 unfold IM.mem
 cases hk:QR M.top.v x.a 4 with
 | none =>
   rcases Qaa hk with e | ⟨y,e,b⟩
   ·rw[e]
   ·rw[e];simp[h,b]
 | some y =>
   obtain⟨e,b⟩:=ZV hk
   rw[e];simp[h,b]
end
abbrev QY (x:Qv) (i:IP):Array Value:=#[Iv x.op,Iv x.a,Iv x.b,Iv x.c,Iv x.k,Iv x.n,.slice i.pR x.regs.length i.cR,.slice i.pA x.args.length i.cA]
theorem Ask.split {α:Type}{o:Option α}{V:α->Value}{e:Ending}(h:Ask o V e):(∃ x,o=some x/\e=.returned (V x))\/(o=none/\e=.panicked stuckP):=by
 cases o with
 | none=>exact .inr ⟨Z,h⟩
 | some x=>exact .inl ⟨x,Z,h⟩
def QjL (w6:World) (h:Qd) (b c X bh:Nat) (xa xb xc xk:Int) (oa ob oc:Option Qj) (on:Option Int) (S:Nat->Bool) (t:Tmp) (v:Value) (w:World):Prop :=
 match ([(26,fun _ v _=>(fun v=>∃ y,oa=some y/\v=QL y) v),(29,fun _ v _=>(fun v=>∃ y,oa=some y/\v=.tuple #[QL (h.get y xk).1,.int .i64 (h.get y xk).2]) v),(18,fun _ v _=>(fun v=>∃ y,oa=some y/\v=.tuple #[QL (h.get y xk).1,.int .i64 (h.get y xk).2]) v),(30,fun _ v _=>(fun v=>∃ y,oa=some y/\v=QL (h.get y xk).1) v),(31,fun _ v _=>(fun v=>∃ y,oa=some y/\v=.int .i64 (h.get y xk).2) v),(7,fun _ v _=>(fun v=>∃ y,oa=some y/\v=.int .i64 (h.get y xk).2) v),(6,Qaw w6 (fun Z w=>Below w6.heap.size w6 w/\w6.heap.size<=Z) 10 15 (fun r=>∃ y,oa=some y/\r=(h.get y xk).1))]:List (Tmp × ((Nat->Bool)->Value->World->Prop))).lookup t with
 | some p=>p S v w
 | none=>v=(([(0,.pointer (some ⟨b,0,none⟩)),(1,.pointer (some ⟨c,0,none⟩)),(5,.pointer (some ⟨X,0,none⟩)),(19,.pointer (some ⟨b,0,none⟩)),(20,.pointer (some ⟨b,0,none⟩)),(21,.pointer (some ⟨b,0,none⟩)),(22,.pointer (some ⟨bh,0,none⟩)),(23,.pointer (some ⟨c,0,none⟩)),(24,.pointer (some ⟨X,1,none⟩)),(25,.int .i64 xa),(27,.pointer (some ⟨X,4,none⟩)),(28,.int .i64 xk)]:List (Tmp × Value)).lookup t).getD undef
theorem Qf2 {h:Qd}{oa ob oc:Option Qj}{on:Option Int}{S:Nat->Bool}{t:Tmp}(d:HPs w6 (fun w=>Below w6.heap.size w6 w) (fun Z w=>Below w6.heap.size w6 w/\w6.heap.size<=Z))(hi:i≠10) (f:i≠15) (e:Below w.heap.size w w') (a:QjL w6 h b c X bh xa xb xc xk oa ob oc on S t u w):QjL w6 h b c X bh xa xb xc xk oa ob oc on (ZE i S) t u w':=by
 unfold QjL at a |-;refine Qha ?_ a;exact⟨fun _ h=>h,fun _ h=>h,fun _ h=>h,fun _ h=>h,fun _ h=>h,fun _ h=>h,fun _ a=>a.on d hi f e,Y⟩
theorem Qnt {h:Qd}{oa ob oc:Option Qj}{on:Option Int}{S:Nat->Bool}{t:Tmp}(k:∀ Z,w6.heap.size<=Z->Z<w.heap.size->w'.heap[Z]?=w.heap[Z]?/\(fun Z w=>Below w6.heap.size w6 w/\w6.heap.size<=Z) Z w') (a:QjL w6 h b c X bh xa xb xc xk oa ob oc on S t u w):QjL w6 h b c X bh xa xb xc xk oa ob oc on (ZE 10 S) t u w':=by
 unfold QjL at a |-;refine Qha ?_ a;exact⟨fun _ h=>h,fun _ h=>h,fun _ h=>h,fun _ h=>h,fun _ h=>h,fun _ h=>h,fun _ a=>(by simp only at a |-;exact a.did (by decide) k),Y⟩
theorem Qnh {h:Qd}{oa ob oc:Option Qj}{on:Option Int}{S:Nat->Bool}{t:Tmp}(g:HPs w6 (fun w=>Below w6.heap.size w6 w) (fun Z w=>Below w6.heap.size w6 w/\w6.heap.size<=Z)){Z:Nat}{r:Qj}(f:S 15=false) (j:S 10=true) (i:(fun r=>∃ y,oa=some y/\r=(h.get y xk).1) r) (d:t=6->u=Pv Z 0) (a:QjL w6 h b c X bh xa xb xc xk oa ob oc on S t u w):QjL w6 h b c X bh xa xb xc xk oa ob oc on (ZE 15 S) t u (Qk9 w Z r):=by
 unfold QjL at a |-;refine Qha ?_ a;exact⟨fun _ h=>h,fun _ h=>h,fun _ h=>h,fun _ h=>h,fun _ h=>h,fun _ h=>h,fun e a=>(by obtain rfl:=d e;simp only at a |-;exact a.fill g f (by decide) r i),Y⟩
theorem iq3 {h:Qd}{oa ob oc:Option Qj}{on:Option Int}(q0:w6.cell? ⟨b,0,none⟩=some (Pv bh 0)) (x1:w6.cell? ⟨X,1,none⟩=some (Iv xa)) (x2:w6.cell? ⟨X,2,none⟩=some (Iv xb)) (x3:w6.cell? ⟨X,3,none⟩=some (Iv xc)) (x4:w6.cell? ⟨X,4,none⟩=some (Iv xk)) (CK:Hid (Qhm 190 #[Pv c 0,Iv xa,Iv 3] w6 oa QL)) (CG:Hid (∀ y k wx,oa=some y->Below w6.heap.size w6 wx->Calls prog 201 #[Pv bh 0,QL y,Iv k] wx fun e w'=>e=.returned (.tuple #[QL (h.get y k).1,Iv (h.get y k).2])/\Below wx.heap.size wx w')) (i:HPs w6 (fun w=>Below w6.heap.size w6 w) (fun Z w=>Below w6.heap.size w6 w/\w6.heap.size<=Z)){Q:Exit->Act->World->Prop}
 (a:Act) (m:Nat) (hn:a.tmps.size=m) (M:124<=m) (h0:a.tmps.getD 0 undef=Pv b 0) (h1:a.tmps.getD 1 undef=Pv c 0) (T:a.tmps.getD 5 undef=Pv X 0)
 (hX:∀ ch a' w',a'.defers=a.defers->(fun ch w=>ch=stuckP/\(oa=none)/\Below w6.heap.size w6 w) ch w'->Q (.panic ch) a' w')
 (hend:∀ vs w',(fun v=>∃ y,oa=some y/\v=Iv (h.get y xk).2) (vs 7)->(∃ Z,vs 6=Pv Z 0/\w6.heap.size<=Z/\(∃ r:Qj,(fun r=>∃ y,oa=some y/\r=(h.get y xk).1) r/\Blk w' Z (Ql0 r) 211)/\(fun Z w=>Below w6.heap.size w6 w/\w6.heap.size<=Z) Z w')->(fun w=>Below w6.heap.size w6 w) w'->Q .normal (QI a vs [19,20,21,22,23,24,25,26,27,28,29,18,30,31,6,7]) w') :
 Code.wp prog ((Tryz.f149.body.bind (Qg 3)).getD .skip) Q a w6:=by
 conv=>arg 2;whnf
 refine Zu (QjL w6 h b c X bh xa xb xc xk oa ob oc on) (WY w6 (fun w=>Below w6.heap.size w6 w) 10) (fun ch w=>ch=stuckP/\(oa=none)/\Below w6.heap.size w6 w) hX (outs:=[0,1,5]) (gs:=[]) (bs:=[true,true,true,true,true,true,true,true,true,true,true,true,true,true,true,true,true]) (by kernel_rfl) (n:=124) hn M (by kernel_rfl) ?hG (.inl ⟨Yz,Qs Zr 1⟩) ⟨h0,h1,T,Y⟩ ?hA ?hend
 case hG=>exact fun S=>trivial
 case hend=>exact fun vs S w' p j o=>hend vs w' (o 7 (by kernel_rfl)) (Qaw.full (show Qaw w6 (fun Z w=>Below w6.heap.size w6 w/\w6.heap.size<=Z) 10 15 (fun r=>∃ y,oa=some y/\r=(h.get y xk).1) S (vs 6) w' from o 6 (by kernel_rfl)) (p 15 (by decide)) (p 10 (by decide))) (j.fin (p 10 (by decide)))
 case hA =>
  repeat
   refine⟨fun S a w E V I j o K B=>?_,?_⟩
   focus first
    | obtain⟨d,-⟩:=o
      have u:S 10=false:=Qdr I (q:=10) Yz (by kernel_rfl) E;conv at d=>whnf;rhs;whnf
      have O:=j.pre u;go_simp;exact B _ _ (fun t _ g=>Qf2 i (by decide) (by decide) Zr g) (j.on i (by decide) Zr) Yz
    | obtain⟨d,-⟩:=o
      have u:S 10=false:=Qdr I (q:=10) Yz (by kernel_rfl) E;have l:=j.pre u;conv at d=>whnf;rhs;whnf
      have O:=Qo q0 l;have R:=Qo x1 l;have U:=Qo x4 l;go_simp;exact B _ _ (fun t _ g=>Qf2 i (by decide) (by decide) Zr g) (j.on i (by decide) Zr) Yz
    | obtain⟨d,-⟩:=o
      have d:(fun v=>∃ y,oa=some y/\v=.tuple #[QL (h.get y xk).1,Iv (h.get y xk).2]) (a.tmps.getD 18 undef):=d;generalize A:a.tmps.getD 18 undef=D at d;obtain⟨y,x,rfl⟩:=d
      go_simp;exact B _ _ (fun t _ g=>Qf2 i (by decide) (by decide) Zr g) (j.on i (by decide) Zr) ⟨y,x,Yz⟩
    | clear o
      have z:S 15=false:=Qdr I (q:=15) Yz (by kernel_rfl) E;go_simp;exact B _ _ (fun t _ g=>Qf2 i (by decide) (by decide) (QW _ _) g) (j.on i (by decide) (QW _ _)) (Qaw.new i j z (by decide) (by decide))
    | obtain⟨d,-⟩:=o
      have d:(fun v=>∃ y,oa=some y/\v=.tuple #[QL (h.get y xk).1,Iv (h.get y xk).2]) (a.tmps.getD 29 undef):=d;generalize A:a.tmps.getD 29 undef=D at d;obtain⟨y,x,rfl⟩:=d
      go_simp;exact B _ _ (fun t _ g=>Qf2 i (by decide) (by decide) Zr g) (j.on i (by decide) Zr) ⟨y,x,Yz⟩
    | obtain⟨d,-⟩:=o
      have d:(fun v=>∃ y,oa=some y/\v=Iv (h.get y xk).2) (a.tmps.getD 31 undef):=d;generalize A:a.tmps.getD 31 undef=D at d;obtain⟨y,x,rfl⟩:=d
      go_simp;exact B _ _ (fun t _ g=>Qf2 i (by decide) (by decide) Zr g) (j.on i (by decide) Zr) ⟨y,x,Yz⟩
    | obtain⟨d,s,k2,-⟩:=o
      have l:=j.pre E;conv at d=>whnf;rhs;whnf
      have s:(fun v=>∃ y,oa=some y/\v=QL y) (a.tmps.getD 26 undef):=s;generalize H:a.tmps.getD 26 undef=L at s;conv at k2=>whnf;rhs;whnf
      obtain⟨y,x,rfl⟩:=s
      go_simp;refine Xm (CG.out y xk w x l) ?_;rintro r7 w7 ⟨rfl,C⟩;go_simp;exact B _ _ (fun t _ g=>Qnt (fun Z hz hl=>⟨C.block Z hl,l.trans (C.mono l.size),hz⟩) g) (WY.did (l.trans (C.mono l.size))) ⟨y,x,Yz⟩
    | obtain⟨d,s,-⟩:=o
      have u:S 10=false:=Qdr I (q:=10) Yz (by kernel_rfl) E;have l:=j.pre u;conv at d=>whnf;rhs;whnf
      conv at s=>whnf;rhs;whnf
      go_simp;refine Xm (CK.out w l) ?_;rintro r7 w7 ⟨h7,C⟩;rcases h7.split with ⟨W,J,rfl⟩|⟨J,rfl⟩
      rotate_left
      ·exact⟨_,Yz,Yz,J,l.trans (C.mono l.size)⟩
      go_simp;exact B _ _ (fun t _ g=>Qf2 i (by decide) (by decide) C g) (j.on i (by decide) C) ⟨W,J,Yz⟩
    | obtain⟨d,s,-⟩:=o
      have d:Qaw w6 (fun Z w=>Below w6.heap.size w6 w/\w6.heap.size<=Z) 10 15 (fun r=>∃ y,oa=some y/\r=(h.get y xk).1) S (a.tmps.getD 6 undef) w:=d;generalize A:a.tmps.getD 6 undef=D at d;have s:(fun v=>∃ y,oa=some y/\v=QL (h.get y xk).1) (a.tmps.getD 30 undef):=s;generalize H:a.tmps.getD 30 undef=L at s;have z:S 15=false:=E;have F:S 10=true:=Qkj I V (by kernel_rfl);have kb:=d;obtain⟨Z,rfl,hZ,N,-,-⟩:=d
      have f:=N z;obtain⟨y,x,rfl⟩:=s
      have P:∃ y0,oa=some y0/\(h.get y xk).1=(h.get y0 xk).1:=⟨y,x,Yz⟩;obtain⟨r,G⟩:∃ r,(h.get y xk).1=r:=⟨_,Yz⟩
      rw[G] at H P
      clear G;have O:=Qa f 0 _ Yz;have R:=Qa f 1 _ Yz;have U:=Qa f 2 _ Yz;have c3:=Qa f 3 _ Yz;have c4:=Qe f 0;have c5:=Qe f 1;have c6:=Qe f 2;have c7:=Qe f 3;go_simp;exact B undef _ (fun t _ g=>Qnh i z F P (fun e=>by subst e;exact A) g) (Qaw.fillW i kb F (by decide) r) Y
  trivial
def QnM (b c X bh:Nat) (xa xb xc xk:Int) (oa ob oc:Option Qj) (on:Option Int) (t:Tmp) (v:Value) (w:World):Prop :=
 match ([(48,fun v w=>∃ y,oa=some y/\v=QL y),(54,fun v w=>∃ y,ob=some y/\v=QL y)]:List (Tmp × (Value->World->Prop))).lookup t with
 | some p=>p v w
 | none=>v=(([(0,.pointer (some ⟨b,0,none⟩)),(1,.pointer (some ⟨c,0,none⟩)),(5,.pointer (some ⟨X,0,none⟩)),(41,.pointer (some ⟨b,0,none⟩)),(42,.pointer (some ⟨b,0,none⟩)),(43,.pointer (some ⟨b,0,none⟩)),(44,.pointer (some ⟨bh,0,none⟩)),(45,.pointer (some ⟨c,0,none⟩)),(46,.pointer (some ⟨X,1,none⟩)),(47,.int .i64 xa),(49,.pointer (some ⟨X,4,none⟩)),(50,.int .i64 xk),(51,.pointer (some ⟨c,0,none⟩)),(52,.pointer (some ⟨X,2,none⟩)),(53,.int .i64 xb)]:List (Tmp × Value)).lookup t).getD undef
theorem iq7 {oa ob oc:Option Qj}{on:Option Int}(A:w6.cell? ⟨b,0,none⟩=some (Pv bh 0)) (H:w6.cell? ⟨X,1,none⟩=some (Iv xa)) (u:w6.cell? ⟨X,2,none⟩=some (Iv xb)) (N:w6.cell? ⟨X,3,none⟩=some (Iv xc)) (C:w6.cell? ⟨X,4,none⟩=some (Iv xk)) (F:Hid (Qhm 190 #[Pv c 0,Iv xa,Iv 3] w6 oa QL)) (x:Hid (Qhm 140 #[Pv c 0,Iv xb] w6 ob QL)){Q:Exit->Act->World->Prop}
 (a:Act) (m:Nat) (hn:a.tmps.size=m) (r:124<=m) (B:a.tmps.getD 0 undef=Pv b 0) (E:a.tmps.getD 1 undef=Pv c 0) (s:a.tmps.getD 5 undef=Pv X 0)
 (D:∀ ch a' w',a'.defers=a.defers->(fun ch w=>ch=stuckP/\(oa=none\/ob=none)/\Below w6.heap.size w6 w) ch w'->Q (.panic ch) a' w')
 (hend:∀ ops vs w',vs 44=Pv bh 0->(fun v w=>∃ y,oa=some y/\v=QL y) (vs 48) w'->vs 50=Iv xk->(fun v w=>∃ y,ob=some y/\v=QL y) (vs 54) w'->Below w6.heap.size w6 w'->wpList prog ops Q (QaR 14 ((Tryz.f149.body.bind (Qg 7)).getD .skip)) (QI a vs [41,42,43,44,45,46,47,48,49,50,51,52,53,54]) w') :
 Code.wp prog ((Tryz.f149.body.bind (Qg 7)).getD .skip) Q a w6:=by
 conv=>arg 2;whnf
 refine Q1 14 (QnM b c X bh xa xb xc xk oa ob oc on) (fun w=>Below w6.heap.size w6 w) (fun w w'=>Below w.heap.size w w') (fun ch w=>ch=stuckP/\(oa=none\/ob=none)/\Below w6.heap.size w6 w) D (outs:=[0,1,5]) (gs:=[]) (bs:=[true,true,true,true,true,true,true,true,true,true,true,true,true,true]) (by kernel_rfl) (n:=124) hn r (by kernel_rfl) (by kernel_rfl) ?hR ?hG (Qs Zr 1) ⟨B,E,s,Y⟩ ?hA ?hend
 case hR =>
  intro t v w w' O h;unfold QnM at h |-;split at h
  ·rename_i p i
   simp only[List.lookup_cons,List.lookup_nil] at i
   split at i
   ·cases i;exact h
   ·split at i
    ·cases i;exact h
    ·cases i
  ·exact h
 case hG=>exact Y
 case hend=>exact fun ops vs w' d e=>hend ops vs w' (e 44 (by kernel_rfl)) (e 48 (by kernel_rfl)) (e 50 (by kernel_rfl)) (e 54 (by kernel_rfl)) d
 case hA =>
  repeat
   refine⟨fun a w d e K q=>?_,?_⟩
   focus first
    | obtain⟨j,-⟩:=e
      conv at j=>whnf;rhs;whnf
      have I:=Qo A d;have J:=Qo H d;have L:=Qo C d;have M:=Qo u d;go_simp;exact q _ _ Zr d Z
    | obtain⟨j,l,-⟩:=e
      conv at j=>whnf;rhs;whnf
      conv at l=>whnf;rhs;whnf
      go_simp;refine Xm (F.out w d) ?_;rintro G z ⟨o,g⟩;rcases o.split with ⟨k,f,rfl⟩|⟨f,rfl⟩
      rotate_left
      ·exact⟨_,Z,Z,.inl f,d.trans (g.mono d.size)⟩
      go_simp;exact q _ _ g (d.trans (g.mono d.size)) ⟨k,f,Z⟩
    | obtain⟨j,l,-⟩:=e
      conv at j=>whnf;rhs;whnf
      conv at l=>whnf;rhs;whnf
      go_simp;refine Xm (x.out w d) ?_;rintro G z ⟨o,g⟩;rcases o.split with ⟨k,f,rfl⟩|⟨f,rfl⟩
      rotate_left
      ·exact⟨_,Z,Z,.inr f,d.trans (g.mono d.size)⟩
      go_simp;exact q _ _ g (d.trans (g.mono d.size)) ⟨k,f,Z⟩
  trivial
def Qdt (w6:World) (h:Qd) (b c X bh:Nat) (xa xb xc xk:Int) (oa ob oc:Option Qj) (on:Option Int) (S:Nat->Bool) (t:Tmp) (v:Value) (w:World):Prop :=
 match ([(69,fun _ v _=>(fun v=>∃ y,oa=some y/\v=QL y) v),(73,fun _ v _=>(fun v=>∃ y,on=some y/\v=.int .i64 y) v),(74,fun _ v _=>(fun v=>∃ y q,oa=some y/\on=some q/\v=.tuple #[QL (h.get y q).1,.int .i64 (h.get y q).2]) v),(61,fun _ v _=>(fun v=>∃ y q,oa=some y/\on=some q/\v=.tuple #[QL (h.get y q).1,.int .i64 (h.get y q).2]) v),(75,fun _ v _=>(fun v=>∃ y q,oa=some y/\on=some q/\v=QL (h.get y q).1) v),(76,fun _ v _=>(fun v=>∃ y q,oa=some y/\on=some q/\v=.int .i64 (h.get y q).2) v),(10,fun _ v _=>(fun v=>∃ y q,oa=some y/\on=some q/\v=.int .i64 (h.get y q).2) v),(9,Qaw w6 (fun Z w=>Below w6.heap.size w6 w/\w6.heap.size<=Z) 12 17 (fun r=>∃ y q,oa=some y/\on=some q/\r=(h.get y q).1))]:List (Tmp × ((Nat->Bool)->Value->World->Prop))).lookup t with
 | some p=>p S v w
 | none=>v=(([(0,.pointer (some ⟨b,0,none⟩)),(1,.pointer (some ⟨c,0,none⟩)),(5,.pointer (some ⟨X,0,none⟩)),(62,.pointer (some ⟨b,0,none⟩)),(63,.pointer (some ⟨b,0,none⟩)),(64,.pointer (some ⟨b,0,none⟩)),(65,.pointer (some ⟨bh,0,none⟩)),(66,.pointer (some ⟨c,0,none⟩)),(67,.pointer (some ⟨X,1,none⟩)),(68,.int .i64 xa),(70,.pointer (some ⟨c,0,none⟩)),(71,.pointer (some ⟨X,2,none⟩)),(72,.int .i64 xb)]:List (Tmp × Value)).lookup t).getD undef
theorem Qch {h:Qd}{oa ob oc:Option Qj}{on:Option Int}{S:Nat->Bool}{t:Tmp}(d:HPs w6 (fun w=>Below w6.heap.size w6 w) (fun Z w=>Below w6.heap.size w6 w/\w6.heap.size<=Z))(hi:i≠12) (f:i≠17) (e:Below w.heap.size w w') (a:Qdt w6 h b c X bh xa xb xc xk oa ob oc on S t u w):Qdt w6 h b c X bh xa xb xc xk oa ob oc on (ZE i S) t u w':=by
 unfold Qdt at a |-;refine Qha ?_ a;exact⟨fun _ h=>h,fun _ h=>h,fun _ h=>h,fun _ h=>h,fun _ h=>h,fun _ h=>h,fun _ h=>h,fun _ a=>a.on d hi f e,Y⟩
theorem Qma {h:Qd}{oa ob oc:Option Qj}{on:Option Int}{S:Nat->Bool}{t:Tmp}(k:∀ Z,w6.heap.size<=Z->Z<w.heap.size->w'.heap[Z]?=w.heap[Z]?/\(fun Z w=>Below w6.heap.size w6 w/\w6.heap.size<=Z) Z w') (a:Qdt w6 h b c X bh xa xb xc xk oa ob oc on S t u w):Qdt w6 h b c X bh xa xb xc xk oa ob oc on (ZE 12 S) t u w':=by
 unfold Qdt at a |-;refine Qha ?_ a;exact⟨fun _ h=>h,fun _ h=>h,fun _ h=>h,fun _ h=>h,fun _ h=>h,fun _ h=>h,fun _ h=>h,fun _ a=>(by simp only at a |-;exact a.did (by decide) k),Y⟩
theorem Qmj {h:Qd}{oa ob oc:Option Qj}{on:Option Int}{S:Nat->Bool}{t:Tmp}(g:HPs w6 (fun w=>Below w6.heap.size w6 w) (fun Z w=>Below w6.heap.size w6 w/\w6.heap.size<=Z)){Z:Nat}{r:Qj}(f:S 17=false) (j:S 12=true) (i:(fun r=>∃ y q,oa=some y/\on=some q/\r=(h.get y q).1) r) (d:t=9->u=Pv Z 0) (a:Qdt w6 h b c X bh xa xb xc xk oa ob oc on S t u w):Qdt w6 h b c X bh xa xb xc xk oa ob oc on (ZE 17 S) t u (Qk9 w Z r):=by
 unfold Qdt at a |-;refine Qha ?_ a;exact⟨fun _ h=>h,fun _ h=>h,fun _ h=>h,fun _ h=>h,fun _ h=>h,fun _ h=>h,fun _ h=>h,fun e a=>(by obtain rfl:=d e;simp only at a |-;exact a.fill g f (by decide) r i),Y⟩
theorem QoA {h:Qd}{oa ob oc:Option Qj}{on:Option Int}(M:w6.cell? ⟨b,0,none⟩=some (Pv bh 0)) (x1:w6.cell? ⟨X,1,none⟩=some (Iv xa)) (x2:w6.cell? ⟨X,2,none⟩=some (Iv xb)) (x3:w6.cell? ⟨X,3,none⟩=some (Iv xc)) (x4:w6.cell? ⟨X,4,none⟩=some (Iv xk)) (CK:Hid (Qhm 190 #[Pv c 0,Iv xa,Iv 4] w6 oa QL)) (CN:Hid (Qhm 133 #[Pv c 0,Iv xb] w6 on (.int .i64))) (CG:Hid (∀ y k wx,oa=some y->Below w6.heap.size w6 wx->Calls prog 201 #[Pv bh 0,QL y,Iv k] wx fun e w'=>e=.returned (.tuple #[QL (h.get y k).1,Iv (h.get y k).2])/\Below wx.heap.size wx w')) (i:HPs w6 (fun w=>Below w6.heap.size w6 w) (fun Z w=>Below w6.heap.size w6 w/\w6.heap.size<=Z)){Q:Exit->Act->World->Prop}
 (a:Act) (m:Nat) (hn:a.tmps.size=m) (T:124<=m) (h0:a.tmps.getD 0 undef=Pv b 0) (h1:a.tmps.getD 1 undef=Pv c 0) (h5:a.tmps.getD 5 undef=Pv X 0)
 (hX:∀ ch a' w',a'.defers=a.defers->(fun ch w=>ch=stuckP/\(oa=none\/on=none)/\Below w6.heap.size w6 w) ch w'->Q (.panic ch) a' w')
 (hend:∀ vs w',(fun v=>∃ y q,oa=some y/\on=some q/\v=Iv (h.get y q).2) (vs 10)->(∃ Z,vs 9=Pv Z 0/\w6.heap.size<=Z/\(∃ r:Qj,(fun r=>∃ y q,oa=some y/\on=some q/\r=(h.get y q).1) r/\Blk w' Z (Ql0 r) 211)/\(fun Z w=>Below w6.heap.size w6 w/\w6.heap.size<=Z) Z w')->(fun w=>Below w6.heap.size w6 w) w'->Q .normal (QI a vs [62,63,64,65,66,67,68,69,70,71,72,73,74,61,75,76,9,10]) w') :
 Code.wp prog ((Tryz.f149.body.bind (Qg 10)).getD .skip) Q a w6:=by
 conv=>arg 2;whnf
 refine Zu (Qdt w6 h b c X bh xa xb xc xk oa ob oc on) (WY w6 (fun w=>Below w6.heap.size w6 w) 12) (fun ch w=>ch=stuckP/\(oa=none\/on=none)/\Below w6.heap.size w6 w) hX (outs:=[0,1,5]) (gs:=[]) (bs:=[true,true,true,true,true,true,true,true,true,true,true,true,true,true,true,true,true,true,true]) (by kernel_rfl) (n:=124) hn T (by kernel_rfl) ?hG (.inl ⟨Yz,Qs Zr 1⟩) ⟨h0,h1,h5,Y⟩ ?hA ?hend
 case hG=>exact fun S=>trivial
 case hend=>exact fun vs S w' u l s=>hend vs w' (s 10 (by kernel_rfl)) (Qaw.full (show Qaw w6 (fun Z w=>Below w6.heap.size w6 w/\w6.heap.size<=Z) 12 17 (fun r=>∃ y q,oa=some y/\on=some q/\r=(h.get y q).1) S (vs 9) w' from s 9 (by kernel_rfl)) (u 17 (by decide)) (u 12 (by decide))) (l.fin (u 12 (by decide)))
 case hA =>
  repeat
   refine⟨fun S a w G hD H l s K A=>?_,?_⟩
   focus first
    | obtain⟨d,-⟩:=s
      have o:S 12=false:=Qdr H (q:=12) Yz (by kernel_rfl) G;conv at d=>whnf;rhs;whnf
      have V:=l.pre o;go_simp;exact A _ _ (fun t _ g=>Qch i (by decide) (by decide) Zr g) (l.on i (by decide) Zr) Yz
    | obtain⟨d,-⟩:=s
      have o:S 12=false:=Qdr H (q:=12) Yz (by kernel_rfl) G;have j:=l.pre o;conv at d=>whnf;rhs;whnf
      have V:=Qo M j;have c1:=Qo x1 j;have c2:=Qo x2 j;go_simp;exact A _ _ (fun t _ g=>Qch i (by decide) (by decide) Zr g) (l.on i (by decide) Zr) Yz
    | obtain⟨d,-⟩:=s
      have d:(fun v=>∃ y q,oa=some y/\on=some q/\v=.tuple #[QL (h.get y q).1,Iv (h.get y q).2]) (a.tmps.getD 61 undef):=d;generalize D:a.tmps.getD 61 undef=F at d;obtain⟨y,q,z,B,rfl⟩:=d
      go_simp;exact A _ _ (fun t _ g=>Qch i (by decide) (by decide) Zr g) (l.on i (by decide) Zr) ⟨y,q,z,B,Yz⟩
    | clear s
      have C:S 17=false:=Qdr H (q:=17) Yz (by kernel_rfl) G;go_simp;exact A _ _ (fun t _ g=>Qch i (by decide) (by decide) (QW _ _) g) (l.on i (by decide) (QW _ _)) (Qaw.new i l C (by decide) (by decide))
    | obtain⟨d,-⟩:=s
      have d:(fun v=>∃ y q,oa=some y/\on=some q/\v=.tuple #[QL (h.get y q).1,Iv (h.get y q).2]) (a.tmps.getD 74 undef):=d;generalize D:a.tmps.getD 74 undef=F at d;obtain⟨y,q,z,B,rfl⟩:=d
      go_simp;exact A _ _ (fun t _ g=>Qch i (by decide) (by decide) Zr g) (l.on i (by decide) Zr) ⟨y,q,z,B,Yz⟩
    | obtain⟨d,-⟩:=s
      have d:(fun v=>∃ y q,oa=some y/\on=some q/\v=Iv (h.get y q).2) (a.tmps.getD 76 undef):=d;generalize D:a.tmps.getD 76 undef=F at d;obtain⟨y,q,z,B,rfl⟩:=d
      go_simp;exact A _ _ (fun t _ g=>Qch i (by decide) (by decide) Zr g) (l.on i (by decide) Zr) ⟨y,q,z,B,Yz⟩
    | obtain⟨d,p,-⟩:=s
      have o:S 12=false:=Qdr H (q:=12) Yz (by kernel_rfl) G;have j:=l.pre o;conv at d=>whnf;rhs;whnf
      conv at p=>whnf;rhs;whnf
      go_simp;refine Xm (CK.out w j) ?_;rintro r7 W ⟨R,x⟩;rcases R.split with ⟨O,E,rfl⟩|⟨E,rfl⟩
      rotate_left
      ·exact⟨_,Yz,Yz,.inl E,j.trans (x.mono j.size)⟩
      go_simp;exact A _ _ (fun t _ g=>Qch i (by decide) (by decide) x g) (l.on i (by decide) x) ⟨O,E,Yz⟩
    | obtain⟨d,p,-⟩:=s
      have o:S 12=false:=Qdr H (q:=12) Yz (by kernel_rfl) G;have j:=l.pre o;conv at d=>whnf;rhs;whnf
      conv at p=>whnf;rhs;whnf
      go_simp;refine Xm (CN.out w j) ?_;rintro r7 W ⟨R,x⟩;rcases R.split with ⟨O,E,rfl⟩|⟨E,rfl⟩
      rotate_left
      ·exact⟨_,Yz,Yz,.inr E,j.trans (x.mono j.size)⟩
      go_simp;exact A _ _ (fun t _ g=>Qch i (by decide) (by decide) x g) (l.on i (by decide) x) ⟨O,E,Yz⟩
    | obtain⟨d,p,N,-⟩:=s
      have j:=l.pre G;conv at d=>whnf;rhs;whnf
      have p:(fun v=>∃ y,oa=some y/\v=QL y) (a.tmps.getD 69 undef):=p;generalize L:a.tmps.getD 69 undef=P at p;have N:(fun v=>∃ y,on=some y/\v=Iv y) (a.tmps.getD 73 undef):=N;generalize ab:a.tmps.getD 73 undef=aa at N;obtain⟨y,z,rfl⟩:=p
      obtain⟨q,B,rfl⟩:=N
      go_simp;refine Xm (CG.out y q w z j) ?_;rintro r7 W ⟨rfl,x⟩;go_simp;exact A _ _ (fun t _ g=>Qma (fun Z hz hl=>⟨x.block Z hl,j.trans (x.mono j.size),hz⟩) g) (WY.did (j.trans (x.mono j.size))) ⟨y,q,z,B,Yz⟩
    | obtain⟨d,p,-⟩:=s
      have d:Qaw w6 (fun Z w=>Below w6.heap.size w6 w/\w6.heap.size<=Z) 12 17 (fun r=>∃ y q,oa=some y/\on=some q/\r=(h.get y q).1) S (a.tmps.getD 9 undef) w:=d;generalize D:a.tmps.getD 9 undef=F at d;have p:(fun v=>∃ y q,oa=some y/\on=some q/\v=QL (h.get y q).1) (a.tmps.getD 75 undef):=p;generalize L:a.tmps.getD 75 undef=P at p;have C:S 17=false:=G;have I:S 12=true:=Qkj H hD (by kernel_rfl);have kb:=d;obtain⟨Z,rfl,hZ,U,-,-⟩:=d
      have f:=U C;obtain⟨y,q,z,B,rfl⟩:=p
      have hr:∃ y0 M,oa=some y0/\on=some M/\(h.get y q).1=(h.get y0 M).1:=⟨y,q,z,B,Yz⟩;obtain⟨r,J⟩:∃ r,(h.get y q).1=r:=⟨_,Yz⟩
      rw[J] at L hr
      clear J;have V:=Qa f 0 _ Yz;have c1:=Qa f 1 _ Yz;have c2:=Qa f 2 _ Yz;have c3:=Qa f 3 _ Yz;have c4:=Qe f 0;have c5:=Qe f 1;have c6:=Qe f 2;have c7:=Qe f 3;go_simp;exact A undef _ (fun t _ g=>Qmj i C I hr (fun e=>by subst e;exact D) g) (Qaw.fillW i kb I (by decide) r) Y
  trivial
def Qmf (b c X bh:Nat) (xa xb xc xk:Int) (oa ob oc:Option Qj) (on:Option Int) (t:Tmp) (v:Value) (w:World):Prop :=
 match ([(92,fun v w=>∃ y,oa=some y/\v=QL y),(96,fun v w=>∃ y,on=some y/\v=.int .i64 y),(100,fun v w=>∃ y,oc=some y/\v=QL y)]:List (Tmp × (Value->World->Prop))).lookup t with
 | some p=>p v w
 | none=>v=(([(0,.pointer (some ⟨b,0,none⟩)),(1,.pointer (some ⟨c,0,none⟩)),(5,.pointer (some ⟨X,0,none⟩)),(85,.pointer (some ⟨b,0,none⟩)),(86,.pointer (some ⟨b,0,none⟩)),(87,.pointer (some ⟨b,0,none⟩)),(88,.pointer (some ⟨bh,0,none⟩)),(89,.pointer (some ⟨c,0,none⟩)),(90,.pointer (some ⟨X,1,none⟩)),(91,.int .i64 xa),(93,.pointer (some ⟨c,0,none⟩)),(94,.pointer (some ⟨X,2,none⟩)),(95,.int .i64 xb),(97,.pointer (some ⟨c,0,none⟩)),(98,.pointer (some ⟨X,3,none⟩)),(99,.int .i64 xc)]:List (Tmp × Value)).lookup t).getD undef
theorem Qn2 {oa ob oc:Option Qj}{on:Option Int}(B:w6.cell? ⟨b,0,none⟩=some (Pv bh 0)) (H:w6.cell? ⟨X,1,none⟩=some (Iv xa)) (z:w6.cell? ⟨X,2,none⟩=some (Iv xb)) (A:w6.cell? ⟨X,3,none⟩=some (Iv xc)) (P:w6.cell? ⟨X,4,none⟩=some (Iv xk)) (G:Hid (Qhm 190 #[Pv c 0,Iv xa,Iv 4] w6 oa QL)) (I:Hid (Qhm 133 #[Pv c 0,Iv xb] w6 on (.int .i64))) (E:Hid (Qhm 140 #[Pv c 0,Iv xc] w6 oc QL)){Q:Exit->Act->World->Prop}
 (a:Act) (m:Nat) (hn:a.tmps.size=m) (r:124<=m) (C:a.tmps.getD 0 undef=Pv b 0) (F:a.tmps.getD 1 undef=Pv c 0) (x:a.tmps.getD 5 undef=Pv X 0)
 (D:∀ ch a' w',a'.defers=a.defers->(fun ch w=>ch=stuckP/\(oa=none\/on=none\/oc=none)/\Below w6.heap.size w6 w) ch w'->Q (.panic ch) a' w')
 (hend:∀ ops vs w',vs 88=Pv bh 0->(fun v w=>∃ y,oa=some y/\v=QL y) (vs 92) w'->(fun v w=>∃ y,on=some y/\v=Iv y) (vs 96) w'->(fun v w=>∃ y,oc=some y/\v=QL y) (vs 100) w'->Below w6.heap.size w6 w'->wpList prog ops Q (QaR 16 ((Tryz.f149.body.bind (Qg 14)).getD .skip)) (QI a vs [85,86,87,88,89,90,91,92,93,94,95,96,97,98,99,100]) w') :
 Code.wp prog ((Tryz.f149.body.bind (Qg 14)).getD .skip) Q a w6:=by
 conv=>arg 2;whnf
 refine Q1 16 (Qmf b c X bh xa xb xc xk oa ob oc on) (fun w=>Below w6.heap.size w6 w) (fun w w'=>Below w.heap.size w w') (fun ch w=>ch=stuckP/\(oa=none\/on=none\/oc=none)/\Below w6.heap.size w6 w) D (outs:=[0,1,5]) (gs:=[]) (bs:=[true,true,true,true,true,true,true,true,true,true,true,true,true,true,true,true]) (by kernel_rfl) (n:=124) hn r (by kernel_rfl) (by kernel_rfl) ?hR ?hG (Qs Zr 1) ⟨C,F,x,Y⟩ ?hA ?hend
 case hR =>
  intro t v w w' O h;unfold Qmf at h |-;split at h
  ·rename_i p i
   simp only[List.lookup_cons,List.lookup_nil] at i
   split at i
   ·cases i;exact h
   ·split at i
    ·cases i;exact h
    ·split at i
     ·cases i;exact h
     ·cases i
  ·exact h
 case hG=>exact Y
 case hend=>exact fun ops vs w' d g=>hend ops vs w' (g 88 (by kernel_rfl)) (g 92 (by kernel_rfl)) (g 96 (by kernel_rfl)) (g 100 (by kernel_rfl)) d
 case hA =>
  repeat
   refine⟨fun a w d g K q=>?_,?_⟩
   focus first
    | obtain⟨j,-⟩:=g
      conv at j=>whnf;rhs;whnf
      have J:=Qo B d;have L:=Qo H d;have M:=Qo z d;have N:=Qo A d;go_simp;exact q _ _ Zr d Z
    | obtain⟨j,l,-⟩:=g
      conv at j=>whnf;rhs;whnf
      conv at l=>whnf;rhs;whnf
      go_simp;refine Xm (G.out w d) ?_;rintro u s ⟨o,f⟩;rcases o.split with ⟨k,e,rfl⟩|⟨e,rfl⟩
      rotate_left
      ·exact⟨_,Z,Z,.inl e,d.trans (f.mono d.size)⟩
      go_simp;exact q _ _ f (d.trans (f.mono d.size)) ⟨k,e,Z⟩
    | obtain⟨j,l,-⟩:=g
      conv at j=>whnf;rhs;whnf
      conv at l=>whnf;rhs;whnf
      go_simp;refine Xm (I.out w d) ?_;rintro u s ⟨o,f⟩;rcases o.split with ⟨k,e,rfl⟩|⟨e,rfl⟩
      rotate_left
      ·exact⟨_,Z,Z,.inr (.inl e),d.trans (f.mono d.size)⟩
      go_simp;exact q _ _ f (d.trans (f.mono d.size)) ⟨k,e,Z⟩
    | obtain⟨j,l,-⟩:=g
      conv at j=>whnf;rhs;whnf
      conv at l=>whnf;rhs;whnf
      go_simp;refine Xm (E.out w d) ?_;rintro u s ⟨o,f⟩;rcases o.split with ⟨k,e,rfl⟩|⟨e,rfl⟩
      rotate_left
      ·exact⟨_,Z,Z,.inr (.inr e),d.trans (f.mono d.size)⟩
      go_simp;exact q _ _ f (d.trans (f.mono d.size)) ⟨k,e,Z⟩
  trivial
def QmM (w6:World) (h:Qd) (b c X bh:Nat) (xa xb xc xk:Int) (oa ob oc:Option Qj) (on:Option Int) (t:Tmp) (v:Value) (w:World):Prop :=
 match ([(114,fun v w=>∃ y,oa=some y/\v=QL y),(115,fun v w=>∃ y,oa=some y/\v=.tuple #[.int .i64 (h.len y).1,.int .i64 (h.len y).2]),(106,fun v w=>∃ y,oa=some y/\v=.tuple #[.int .i64 (h.len y).1,.int .i64 (h.len y).2]),(116,fun v w=>∃ y,oa=some y/\v=.int .i64 (h.len y).1),(117,fun v w=>∃ y,oa=some y/\v=.int .i64 (h.len y).2),(12,fun v w=>∃ y,oa=some y/\v=.int .i64 (h.len y).1),(13,fun v w=>∃ y,oa=some y/\v=.int .i64 (h.len y).2)]:List (Tmp × (Value->World->Prop))).lookup t with
 | some p=>p v w
 | none=>v=(([(0,.pointer (some ⟨b,0,none⟩)),(1,.pointer (some ⟨c,0,none⟩)),(5,.pointer (some ⟨X,0,none⟩)),(107,.pointer (some ⟨b,0,none⟩)),(108,.pointer (some ⟨b,0,none⟩)),(109,.pointer (some ⟨b,0,none⟩)),(110,.pointer (some ⟨bh,0,none⟩)),(111,.pointer (some ⟨c,0,none⟩)),(112,.pointer (some ⟨X,1,none⟩)),(113,.int .i64 xa)]:List (Tmp × Value)).lookup t).getD undef
theorem Qn1 {h:Qd}{oa ob oc:Option Qj}{on:Option Int}(C:w6.cell? ⟨b,0,none⟩=some (Pv bh 0)) (L:w6.cell? ⟨X,1,none⟩=some (Iv xa)) (P:w6.cell? ⟨X,2,none⟩=some (Iv xb)) (R:w6.cell? ⟨X,3,none⟩=some (Iv xc)) (T:w6.cell? ⟨X,4,none⟩=some (Iv xk)) (H:Hid (Qhm 190 #[Pv c 0,Iv xa,Iv 4] w6 oa QL)) (A:Hid (∀ y wx,oa=some y->Below w6.heap.size w6 wx->Calls prog 203 #[Pv bh 0,QL y] wx fun e w'=>e=.returned (.tuple #[Iv (h.len y).1,Iv (h.len y).2])/\Below wx.heap.size wx w')){Q:Exit->Act->World->Prop}
 (a:Act) (m:Nat) (hn:a.tmps.size=m) (u:124<=m) (D:a.tmps.getD 0 undef=Pv b 0) (G:a.tmps.getD 1 undef=Pv c 0) (x:a.tmps.getD 5 undef=Pv X 0)
 (F:∀ ch a' w',a'.defers=a.defers->(fun ch w=>ch=stuckP/\(oa=none)/\Below w6.heap.size w6 w) ch w'->Q (.panic ch) a' w')
 (hend:∀ vs w',(fun v w=>∃ y,oa=some y/\v=Iv (h.len y).1) (vs 12) w'->(fun v w=>∃ y,oa=some y/\v=Iv (h.len y).2) (vs 13) w'->Below w6.heap.size w6 w'->Q .normal (QI a vs [107,108,109,110,111,112,113,114,115,106,116,117,12,13]) w') :
 Code.wp prog ((Tryz.f149.body.bind (Qg 17)).getD .skip) Q a w6:=by
 conv=>arg 2;whnf
 refine Zx (QmM w6 h b c X bh xa xb xc xk oa ob oc on) (fun w=>Below w6.heap.size w6 w) (fun w w'=>Below w.heap.size w w') (fun ch w=>ch=stuckP/\(oa=none)/\Below w6.heap.size w6 w) F (outs:=[0,1,5]) (gs:=[]) (bs:=[true,true,true,true,true,true,true,true,true,true,true,true,true,true]) (by kernel_rfl) (n:=124) hn u (by kernel_rfl) ?hR ?hG (Qs Zr 1) ⟨D,G,x,Y⟩ ?hA ?hend
 case hR =>
  intro t v w w' S h;unfold QmM at h |-;split at h
  ·rename_i p g
   simp only[List.lookup_cons,List.lookup_nil] at g
   split at g
   ·cases g;exact h
   ·split at g
    ·cases g;exact h
    ·split at g
     ·cases g;exact h
     ·split at g
      ·cases g;exact h
      ·split at g
       ·cases g;exact h
       ·split at g
        ·cases g;exact h
        ·split at g
         ·cases g;exact h
         ·cases g
  ·exact h
 case hG=>exact Y
 case hend=>exact fun vs w' f j=>hend vs w' (j 12 (by kernel_rfl)) (j 13 (by kernel_rfl)) f
 case hA =>
  repeat
   refine⟨fun a w f j K l=>?_,?_⟩
   focus first
    | obtain⟨d,-⟩:=j
      conv at d=>whnf;rhs;whnf
      have N:=Qo C f;have O:=Qo L f;go_simp;exact l _ _ Zr f Z
    | obtain⟨d,-⟩:=j
      have d:(fun v w=>∃ y,oa=some y/\v=.tuple #[Iv (h.len y).1,Iv (h.len y).2]) (a.tmps.getD 106 undef) w:=d;generalize k:a.tmps.getD 106 undef=o at d;obtain⟨y,i,rfl⟩:=d
      go_simp;exact l _ _ Zr f ⟨y,i,Z⟩
    | obtain⟨d,-⟩:=j
      have d:(fun v w=>∃ y,oa=some y/\v=.tuple #[Iv (h.len y).1,Iv (h.len y).2]) (a.tmps.getD 115 undef) w:=d;generalize k:a.tmps.getD 115 undef=o at d;obtain⟨y,i,rfl⟩:=d
      go_simp;exact l _ _ Zr f ⟨y,i,Z⟩
    | obtain⟨d,-⟩:=j
      have d:(fun v w=>∃ y,oa=some y/\v=Iv (h.len y).1) (a.tmps.getD 116 undef) w:=d;generalize k:a.tmps.getD 116 undef=o at d;obtain⟨y,i,rfl⟩:=d
      go_simp;exact l _ _ Zr f ⟨y,i,Z⟩
    | obtain⟨d,-⟩:=j
      have d:(fun v w=>∃ y,oa=some y/\v=Iv (h.len y).2) (a.tmps.getD 117 undef) w:=d;generalize k:a.tmps.getD 117 undef=o at d;obtain⟨y,i,rfl⟩:=d
      go_simp;exact l _ _ Zr f ⟨y,i,Z⟩
    | obtain⟨d,q,-⟩:=j
      conv at d=>whnf;rhs;whnf
      have q:(fun v w=>∃ y,oa=some y/\v=QL y) (a.tmps.getD 114 undef) w:=q;generalize M:a.tmps.getD 114 undef=E at q;obtain⟨y,i,rfl⟩:=q
      go_simp;refine Xm (A.out y w i f) ?_;rintro I B ⟨rfl,r⟩;go_simp;exact l _ _ r (f.trans (r.mono f.size)) ⟨y,i,Z⟩
    | obtain⟨d,q,-⟩:=j
      conv at d=>whnf;rhs;whnf
      conv at q=>whnf;rhs;whnf
      go_simp;refine Xm (H.out w f) ?_;rintro I B ⟨J,r⟩;rcases J.split with ⟨z,s,rfl⟩|⟨s,rfl⟩
      rotate_left
      ·exact⟨_,Z,Z,s,f.trans (r.mono f.size)⟩
      go_simp;exact l _ _ r (f.trans (r.mono f.size)) ⟨z,s,Z⟩
  trivial
theorem Qgv {h:Qd}{y z:Qj}{k:Int}(a:(h.set y k z).1≠0):(h.set y k z).2=h:=by
 unfold Qd.set at a |-;split
 ·rename_i t p d b
  rw[d,b] at a
  simp only at a
  split
  ·rfl
  ·rename_i e
   rw[Xr e] at a
   split
   ·rfl
   ·rename_i c
    rw[Xr c] at a
    exact absurd Z a
 ·rfl
section
variable {w w' w2:World}{b most n:Nat}{m:List (MFunc 6)}{M M' N:IM}{sc sa:Int}{g g1:MG}{e:Ending}
structure Qai (n:Nat) (M:IM):Prop where
 hb:HB n M.h
 hn:n<=900000
 gd:∀ v∈M.top.v,gdV v
 len:M.top.v.length+8<=1000000
 regs:M.top.r.length<=1000000
 inp:M.inp.length<=1000000
 out:M.out.length<=2000
theorem Qai.hn' (I:Qai n M):n<=1000000:=Zt I.hn (by decide)
theorem Qai.get (I:Qai n M) (H:HIn w g.bh g.O M.h g.G){y:Qj}(a:y.ok) (k:Int) :
 Calls prog 201 #[Pv g.bh 0,QL y,Iv k] w fun e w'=>e=.returned (.tuple #[QL (M.h.get y k).1,Iv (M.h.get y k).2])/\Below w.heap.size w w' :=
 QkA H y a k (I.hb.pl I.hn') (fun t b=>by have:=I.hb.len.thing b;have:=I.hn;omega)
theorem Qai.len_ (I:Qai n M) (H:HIn w g.bh g.O M.h g.G){y:Qj}(a:y.ok) :
 Calls prog 203 #[Pv g.bh 0,QL y] w fun e w'=>e=.returned (.tuple #[Iv (M.h.len y).1,Iv (M.h.len y).2])/\Below w.heap.size w w':=Qj8 H y a (I.hb.pl I.hn')
theorem Qai.set (I:Qai n M) (H:HIn w g.bh g.O M.h g.G){y z:Qj}(a:y.ok) (i:z.bare=z) (k:Int) :
 Calls prog 202 #[Pv g.bh 0,QL y,Iv k,QL z] w fun e w'=>e=.returned (Iv (M.h.set y k z).1)/\HTo w w' g.bh g.O (M.h.set y k z).2:=by
 have:=QjU H y a k z (I.hb.pl I.hn') (fun t d=>by have:=I.hb.len.thing d;have:=I.hn;omega)
 rw[i] at this
 exact this.mono fun e w' ⟨c,b,f⟩=>⟨c,_,_,b,f,fun _ h=>h⟩
theorem Qai.val (I:Qai n M){a:Int}{y:Qj}(h:Qz M.top.v a=some y):y.ok/\y.bare=y:=I.gd y (Qa5 h)
theorem Qai.kind (I:Qai n M){a k:Int}{y:Qj}(h:QR M.top.v a k=some y):y.ok/\y.bare=y:=I.val (ZV h).1
theorem QmA (S:MAt w b most m M sc sa g) (I:Qai n M){x:Qv}(U:IP) (o:x.op=6) :
 Calls prog 149 #[Pv b 0,Pv g.t.c 0,.agg (QY x U)] w fun e w'=>Ql g w b most m M sc sa (M.mem x) e w':=by
 have E:=Qc (Qn9 (M:=M) o);generalize M.mem x=u at E |-;obtain⟨xo,f,P,J,s,xn,xr,xs⟩:=x
 simp only at o
 subst o;have q:=Qc (QW w (.cells (QY ⟨6,f,P,J,s,xn,xr,xs⟩ U) 78));have i:=Qc (Qf w (QY ⟨6,f,P,J,s,xn,xr,xs⟩ U) 78);have N:=Qc S;have HI:=Qc I;have D:=Qc (S.below q.out);have hl:=I.len;clear S I;go_enter func149,ntmps149
 go_upto_region 1 with fail
 generalize w.alloc (.cells (QY ⟨6,f,P,J,s,xn,xr,xs⟩ U) 78)=d at q i D |-;generalize w.heap.size=X at i |-;have x0:d.cell? ⟨X,0,none⟩=some (Iv 6):=Qa i.out 0 _ Yz;have x1:d.cell? ⟨X,1,none⟩=some (Iv f):=Qa i.out 1 _ Yz;have x2:d.cell? ⟨X,2,none⟩=some (Iv P):=Qa i.out 2 _ Yz;have x3:d.cell? ⟨X,3,none⟩=some (Iv J):=Qa i.out 3 _ Yz;have x4:d.cell? ⟨X,4,none⟩=some (Iv s):=Qa i.out 4 _ Yz;have q0:=D.out.heapC;have CK:Hid (∀ a,Below d.heap.size d a->Calls prog 190 #[Pv g.t.c 0,Iv f,Iv 3] a fun e w'=>Ask (QR M.top.v f 3) QL e/\Below a.heap.size a w'):=fun a bx=>Qaq (D.out.top.below bx) (by omega) f 3;have CG:Hid (∀ y k a,QR M.top.v f 3=some y->Below d.heap.size d a->Calls prog 201 #[Pv g.bh 0,QL y,Iv k] a fun e w'=>e=.returned (.tuple #[QL (M.h.get y k).1,Iv (M.h.get y k).2])/\Below a.heap.size a w'):=fun y k a C bx=>HI.out.get (D.out.heap.below bx) (HI.out.kind C).1 k;go_upto_region 3 with fail
 refine iq3 (ob:=none) (oc:=none) (on:=none) q0 x1 x2 x3 x4 CK CG (Qfy _) _ _ Yz (Xg (by kernel_rfl)) Yz Yz Yz ?_ ?_
 ·rintro ch a' p ac ⟨rfl,ab,V⟩;refine⟨ac,?_⟩
  rw[E.out,ab]
  exact Ql.stuck (XTo.same N.out (q.out.trans (V.mono q.out.size)))
 ·rintro vs p ⟨y,C,F⟩ ⟨Z,H,hZ,⟨r,⟨y',G,hr⟩,j⟩,-⟩ V;rw[C] at G
  cases G
  simp only[QI,Act.put,List.setIfInBounds_toArray,List.set_cons_zero,List.set_cons_succ,F,H]
  have A:Hid (u=if (M.h.get y s).2=0 then some (M.push [(M.h.get y s).1]) else none):=by show _=_;rw[E.out,C]
  rw[<-hr] at A
  have Q:=Qc (q.out.trans (V.mono q.out.size));have W:=Qc (N.out.below Q.out);have Y:=Qc j;clear F H C hr j V E CG CK x0 x1 x2 x3 x4 q0 D q i;generalize (M.h.get y s).2=cd at A |-;by_cases z:cd=0
  ·have aa:(cd==0)=true:=by simpa using z
   have E3:Hid (u=some (M.push [r])):=by show _=_;rw[A.out,Xs z]
   obtain⟨T,L,O,K⟩:=r
   have y0:p.cell? ⟨Z,0,none⟩=some (Iv T):=Qa Y.out 0 _ Yz;have y1:p.cell? ⟨Z,1,none⟩=some (Iv L):=Qa Y.out 1 _ Yz;have y2:p.cell? ⟨Z,2,none⟩=some (Iv O):=Qa Y.out 2 _ Yz;have y3:p.cell? ⟨Z,3,none⟩=some (Iv K):=Qa Y.out 3 _ Yz;have B5:=QW p (.cells #[Iv T,Iv L,Iv O,Iv K] 211);have CM:=Qc (fun cp=>ZR (W.out.below B5) (l:=[⟨T,L,O,K⟩]) (cp:=cp) Yz (Qhk p T L O K) (by simp;omega));have T5:=Qc ((N.out.stepB Q.out).trans (W.out.stepB B5));clear B5 Y z A W Q;go_wp2_with (go_at_call 138;refine(ZF _).mono ?_;rintro e' w' ⟨rfl,B⟩;have B:=B.symm;subst B)
   refine(CM.out _).mono ?_
   rintro e' w6 ⟨rfl,h6⟩;have R:=Qc (XTo.then T5.out Yz Yz h6);clear h6 CM T5 y0 y1 y2 y3;go_wp2
   exact Xz (v:=.tuple #[]) (by simp[results,results149,go_sem]) Yz (by rw[E3.out];exact Ql.go R.out)
  ·have aa:(cd==0)=false:=by simpa using z
   have E3:Hid (u=none):=by show _=_;rw[A.out,Xr z]
   clear z A;go_wp2_with fail
   refine(Zj _).mono ?_
   rintro e' w' ⟨rfl,B⟩;subst B;exact⟨Yz,by rw[E3.out];exact Ql.stuck (XTo.same N.out Q.out)⟩
theorem QmF (S:MAt w b most m M sc sa g) (I:Qai n M){x:Qv}(K:IP) (s:x.op=7) :
 Calls prog 149 #[Pv b 0,Pv g.t.c 0,.agg (QY x K)] w fun e w'=>Ql g w b most m M sc sa (M.mem x) e w':=by
 have E:=Qc (Qog (M:=M) s);generalize M.mem x=i at E |-;obtain⟨xo,l,u,J,f,Q,xr,xs⟩:=x
 simp only at s
 subst s;have A:=Qc (QW w (.cells (QY ⟨7,l,u,J,f,Q,xr,xs⟩ K) 78));have o:=Qc (Qf w (QY ⟨7,l,u,J,f,Q,xr,xs⟩ K) 78);have U:=Qc S;have HI:=Qc I;have H:=Qc (S.below A.out);have hl:=I.len;clear S I;go_enter func149,ntmps149
 go_upto_region 1 with fail
 generalize w.alloc (.cells (QY ⟨7,l,u,J,f,Q,xr,xs⟩ K) 78)=d at A o H |-;generalize w.heap.size=X at o |-;have x0:d.cell? ⟨X,0,none⟩=some (Iv 7):=Qa o.out 0 _ Z;have x1:d.cell? ⟨X,1,none⟩=some (Iv l):=Qa o.out 1 _ Z;have x2:d.cell? ⟨X,2,none⟩=some (Iv u):=Qa o.out 2 _ Z;have x3:d.cell? ⟨X,3,none⟩=some (Iv J):=Qa o.out 3 _ Z;have x4:d.cell? ⟨X,4,none⟩=some (Iv f):=Qa o.out 4 _ Z;have q0:=H.out.heapC;have CK:Hid (∀ a,Below d.heap.size d a->Calls prog 190 #[Pv g.t.c 0,Iv l,Iv 3] a fun e w'=>Ask (QR M.top.v l 3) QL e/\Below a.heap.size a w'):=fun a bx=>Qaq (H.out.top.below bx) (by omega) l 3;have CB:Hid (∀ a,Below d.heap.size d a->Calls prog 140 #[Pv g.t.c 0,Iv u] a fun e w'=>Ask (Qz M.top.v u) QL e/\Below a.heap.size a w'):=fun a bx=>ZU (H.out.top.below bx) (by omega) u;go_upto_region 7 with fail
 refine iq7 (oc:=none) (on:=none) q0 x1 x2 x3 x4 CK CB _ _ Z (Xg (by kernel_rfl)) Z Z Z ?_ ?_
 ·rintro ch a' w9 aa ⟨rfl,W,b9⟩;refine⟨aa,?_⟩
  have F:i=none:=by
   rw[E.out]
   rcases W with T | T
   ·rw[T]
   ·cases QR M.top.v l 3 with
    | none=>rfl
    | some y=>simp only;rw[T]
  rw[F]
  exact Ql.stuck (XTo.same U.out (A.out.trans (b9.mono A.out.size)))
 ·rintro O vs w5 q ⟨y,L,j⟩ r ⟨z,hz,p⟩ b5;show wpList _ O _ [_,_] (QI _ vs [41,42,43,44,45,46,47,48,49,50,51,52,53,54]) w5;simp only[QI,Act.put,List.setIfInBounds_toArray,List.set_cons_zero,List.set_cons_succ,q,j,r,p]
  have C:Hid (i=if (M.h.set y f z).1=0 then some { M with h:=(M.h.set y f z).2 } else none):=by show _=_;rw[E.out,L];simp only;rw[hz]
  have B5:=Qc (A.out.trans (b5.mono A.out.size));have V:=Qc (U.out.below B5.out);have CS:=Qc (HI.out.set V.out.heap (HI.out.kind L).1 (HI.out.val hz).2 f);have P:=Qc (Qgv (h:=M.h) (y:=y) (z:=z) (k:=f));clear q j r p L hz b5 E CK CB x0 x1 x2 x3 x4 q0 H A o;go_upto_region 8 with (go_at_call 202;refine CS.out.mono ?_;rintro e' w6 ⟨rfl,h6⟩)
  have R:=Qc (XTo.then (U.out.stepB B5.out) Z Z (V.out.toHeap h6));clear h6 CS V B5;generalize M.h.set y f z=st at C R P |-;obtain⟨N,sh⟩:=st
  simp only at C R P |-
  by_cases B:N=0
  ·have G:(N==0)=true:=by simpa using B
   have F:Hid (i=some { M with h:=sh }):=by show _=_;rw[C.out,Xs B]
   clear B C;go_wp2_with (go_at_call 138;refine(ZF _).mono ?_;rintro e' w' ⟨rfl,D⟩;have D:=D.symm;subst D)
   exact Xz (v:=.tuple #[]) (by simp[results,results149,go_sem]) Z (by rw[F.out];exact Ql.go R.out)
  ·have G:(N==0)=false:=by simpa using B
   have F:Hid (i=none):=by show _=_;rw[C.out,Xr B]
   clear B C;go_wp2_with fail
   refine(Zj _).mono ?_
   rintro e' w' ⟨rfl,D⟩;subst D;exact⟨Z,by rw[F.out];exact Ql.stuck (by have:=R.out;rw[P.out (by simpa using G)] at this;exact this)⟩
theorem QmN (S:MAt w b most m M sc sa g) (I:Qai n M){x:Qv}(ip:IP) (u:x.op=9) :
 Calls prog 149 #[Pv b 0,Pv g.t.c 0,.agg (QY x ip)] w fun e w'=>Ql g w b most m M sc sa (M.mem x) e w':=by
 have E:=Qc (Qoy (M:=M) u);generalize M.mem x=f at E |-;obtain⟨xo,i,A,P,V,xn,xr,xs⟩:=x
 simp only at u
 subst u;have B:=Qc (QW w (.cells (QY ⟨9,i,A,P,V,xn,xr,xs⟩ ip) 78));have o:=Qc (Qf w (QY ⟨9,i,A,P,V,xn,xr,xs⟩ ip) 78);have H:=Qc S;have HI:=Qc I;have C:=Qc (S.below B.out);have hl:=I.len;clear S I;go_enter func149,ntmps149
 go_upto_region 1 with fail
 generalize w.alloc (.cells (QY ⟨9,i,A,P,V,xn,xr,xs⟩ ip) 78)=d at B o C |-;generalize w.heap.size=X at o |-;have x0:d.cell? ⟨X,0,none⟩=some (Iv 9):=Qa o.out 0 _ Yz;have x1:d.cell? ⟨X,1,none⟩=some (Iv i):=Qa o.out 1 _ Yz;have x2:d.cell? ⟨X,2,none⟩=some (Iv A):=Qa o.out 2 _ Yz;have x3:d.cell? ⟨X,3,none⟩=some (Iv P):=Qa o.out 3 _ Yz;have x4:d.cell? ⟨X,4,none⟩=some (Iv V):=Qa o.out 4 _ Yz;have q0:=C.out.heapC;have CK:Hid (∀ a,Below d.heap.size d a->Calls prog 190 #[Pv g.t.c 0,Iv i,Iv 4] a fun e w'=>Ask (QR M.top.v i 4) QL e/\Below a.heap.size a w'):=fun a N=>Qaq (C.out.top.below N) (by omega) i 4;have CN:Hid (∀ a,Below d.heap.size d a->Calls prog 133 #[Pv g.t.c 0,Iv A] a fun e w'=>Ask (Qu M.top.v A) (.int .i64) e/\Below a.heap.size a w'):=fun a N=>ZH (C.out.top.below N) (by omega) A;have CG:Hid (∀ y k a,QR M.top.v i 4=some y->Below d.heap.size d a->Calls prog 201 #[Pv g.bh 0,QL y,Iv k] a fun e w'=>e=.returned (.tuple #[QL (M.h.get y k).1,Iv (M.h.get y k).2])/\Below a.heap.size a w'):=fun y k a F N=>HI.out.get (C.out.heap.below N) (HI.out.kind F).1 k;go_upto_region 10 with fail
 refine QoA (ob:=none) (oc:=none) q0 x1 x2 x3 x4 CK CN CG (Qfy _) _ _ Yz (Xg (by kernel_rfl)) Yz Yz Yz ?_ ?_
 ·rintro ch a' z ab ⟨rfl,aa,b9⟩;refine⟨ab,?_⟩
  have s:f=none:=by
   rw[E.out]
   rcases aa with j | j
   ·rw[j]
   ·cases QR M.top.v i 4 with
    | none=>rfl
    | some y=>simp only;rw[j]
  rw[s]
  exact Ql.stuck (XTo.same H.out (B.out.trans (b9.mono B.out.size)))
 ·rintro vs z ⟨y,q,F,hq,G⟩ ⟨Z,L,hZ,⟨r,⟨y',q',J,K,hr⟩,p⟩,-⟩ b9;rw[F] at J
  cases J
  rw[hq] at K
  cases K
  simp only[QI,Act.put,List.setIfInBounds_toArray,List.set_cons_zero,List.set_cons_succ,G,L]
  have D:Hid (f=if (M.h.get y q).2=1 then some (M.over 2) else if (M.h.get y q).2=0 then some (M.push [(M.h.get y q).1]) else none):=by show _=_;rw[E.out,F];simp only;rw[hq]
  rw[<-hr] at D
  have O:=Qc (B.out.trans (b9.mono B.out.size));have S9:=Qc (H.out.below O.out);have Y:=Qc p;clear G L F hq hr p b9 E CG CK CN x0 x1 x2 x3 x4 q0 C B o;generalize (M.h.get y q).2=cd at D |-;go_upto_region 11 with fail
  go_wp2_with fail
  refine(QaA _ _ _ _).mono ?_
  rintro e' w' ⟨hw,ha⟩;have hw:=hw.symm;subst hw;rcases ha with ⟨j,rfl⟩|⟨j,h1,rfl⟩|⟨j,h1,rfl⟩
  rotate_left
  ·have s:f=some (M.over 2):=by rw[D.out,Xs h1]
   exact⟨Yz,by rw[s];exact Ql.end_ (XTo.same H.out O.out)⟩
  ·have s:f=none:=by rw[D.out,Xr h1,Xr j]
   exact⟨Yz,by rw[s];exact Ql.stuck (XTo.same H.out O.out)⟩
  have s:Hid (f=some (M.push [r])):=by show _=_;rw[D.out,Xr (by omega),Xs j]
  obtain⟨W,T,U,Q⟩:=r
  have y0:z.cell? ⟨Z,0,none⟩=some (Iv W):=Qa Y.out 0 _ Yz;have y1:z.cell? ⟨Z,1,none⟩=some (Iv T):=Qa Y.out 1 _ Yz;have y2:z.cell? ⟨Z,2,none⟩=some (Iv U):=Qa Y.out 2 _ Yz;have y3:z.cell? ⟨Z,3,none⟩=some (Iv Q):=Qa Y.out 3 _ Yz;have B5:=QW z (.cells #[Iv W,Iv T,Iv U,Iv Q] 211);have CM:=Qc (fun cp=>ZR (S9.out.below B5) (l:=[⟨W,T,U,Q⟩]) (cp:=cp) Yz (Qhk z W T U Q) (by simp;omega));have T5:=Qc ((H.out.stepB O.out).trans (S9.out.stepB B5));clear B5 Y j D S9 O;go_wp2_with fail
  refine(CM.out _).mono ?_
  rintro e' w6 ⟨rfl,h6⟩;have R:=Qc (XTo.then T5.out Yz Yz h6);clear h6 CM T5 y0 y1 y2 y3;go_wp2
  exact Xz (v:=.tuple #[]) (by simp[results,results149,go_sem]) Yz (by rw[s.out];exact Ql.go R.out)
theorem Qln (S:MAt w b most m M sc sa g) (I:Qai n M){x:Qv}(N:IP) (C:x.op=10) :
 Calls prog 149 #[Pv b 0,Pv g.t.c 0,.agg (QY x N)] w fun e w'=>Ql g w b most m M sc sa (M.mem x) e w':=by
 have E:=Qc (Qnr (M:=M) C I.gd);generalize M.mem x=j at E |-;obtain⟨xo,l,r,B,L,T,xr,xs⟩:=x
 simp only at C
 subst C;have D:=Qc (QW w (.cells (QY ⟨10,l,r,B,L,T,xr,xs⟩ N) 78));have o:=Qc (Qf w (QY ⟨10,l,r,B,L,T,xr,xs⟩ N) 78);have U:=Qc S;have HI:=Qc I;have F:=Qc (S.below D.out);have hl:=I.len;clear S I;go_enter func149,ntmps149
 go_upto_region 1 with fail
 generalize w.alloc (.cells (QY ⟨10,l,r,B,L,T,xr,xs⟩ N) 78)=i at D o F |-;generalize w.heap.size=X at o |-;have x0:i.cell? ⟨X,0,none⟩=some (Iv 10):=Qa o.out 0 _ Z;have x1:i.cell? ⟨X,1,none⟩=some (Iv l):=Qa o.out 1 _ Z;have x2:i.cell? ⟨X,2,none⟩=some (Iv r):=Qa o.out 2 _ Z;have x3:i.cell? ⟨X,3,none⟩=some (Iv B):=Qa o.out 3 _ Z;have x4:i.cell? ⟨X,4,none⟩=some (Iv L):=Qa o.out 4 _ Z;have q0:=F.out.heapC;have CK:Hid (∀ a,Below i.heap.size i a->Calls prog 190 #[Pv g.t.c 0,Iv l,Iv 4] a fun e w'=>Ask (QR M.top.v l 4) QL e/\Below a.heap.size a w'):=fun a H=>Qaq (F.out.top.below H) (by omega) l 4;have CN:Hid (∀ a,Below i.heap.size i a->Calls prog 133 #[Pv g.t.c 0,Iv r] a fun e w'=>Ask (Qu M.top.v r) (.int .i64) e/\Below a.heap.size a w'):=fun a H=>ZH (F.out.top.below H) (by omega) r;have CC:Hid (∀ a,Below i.heap.size i a->Calls prog 140 #[Pv g.t.c 0,Iv B] a fun e w'=>Ask (Qz M.top.v B) QL e/\Below a.heap.size a w'):=fun a H=>ZU (F.out.top.below H) (by omega) B;go_upto_region 14 with fail
 refine Qn2 (ob:=none) q0 x1 x2 x3 x4 CK CN CC _ _ Z (Xg (by kernel_rfl)) Z Z Z ?_ ?_
 ·rintro ch a' w9 aa ⟨rfl,W,b9⟩;refine⟨aa,?_⟩
  have A:j=none:=by
   rw[E.out]
   cases hk:QR M.top.v l 4 with
   | none=>rfl
   | some y =>
     simp only
     cases J:Qu M.top.v r with
     | none=>rfl
     | some q =>
       simp only
       rcases W with d | d | d
       ·rw[hk] at d;cases d
       ·rw[J] at d;cases d
       ·rw[d]
  rw[A]
  exact Ql.stuck (XTo.same U.out (D.out.trans (b9.mono D.out.size)))
 ·rintro Q vs w5 u ⟨y,P,p⟩ ⟨q,J,s⟩ ⟨z,hz,f⟩ b5;show wpList _ Q _ [_,_] (QI _ vs [85,86,87,88,89,90,91,92,93,94,95,96,97,98,99,100]) w5;simp only[QI,Act.put,List.setIfInBounds_toArray,List.set_cons_zero,List.set_cons_succ,u,p,s,f]
  have G:Hid (j=if (M.h.set y q z).1=1 then some (M.over 2) else if (M.h.set y q z).1=0 then some { M with h:=(M.h.set y q z).2 } else none):=by show _=_;rw[E.out,P];simp only;rw[J];simp only;rw[hz]
  have B5:=Qc (D.out.trans (b5.mono D.out.size));have V:=Qc (U.out.below B5.out);have CS:=Qc (HI.out.set V.out.heap (HI.out.kind P).1 (HI.out.val hz).2 q);have K:=Qc (Qgv (h:=M.h) (y:=y) (z:=z) (k:=q));clear u p s f P hz J b5 E CK CN CC x0 x1 x2 x3 x4 q0 F D o;go_upto_region 15 with (go_at_call 202;refine CS.out.mono ?_;rintro e' w6 ⟨rfl,h6⟩)
  have R:=Qc (XTo.then (U.out.stepB B5.out) Z Z (V.out.toHeap h6));clear h6 CS V B5;generalize M.h.set y q z=st at G R K |-;obtain⟨cd,sh⟩:=st
  simp only at G R K |-
  go_wp2_with fail
  refine(QaA _ _ _ _).mono ?_
  rintro e' w' ⟨O,ha⟩;have O:=O.symm;subst O;rcases ha with ⟨d,rfl⟩|⟨d,h1,rfl⟩|⟨d,h1,rfl⟩
  rotate_left
  ·have A:j=some (M.over 2):=by rw[G.out,Xs h1]
   exact⟨Z,by rw[A];exact Ql.end_ (by have:=R.out;rw[K.out d] at this;exact this)⟩
  ·have A:j=none:=by rw[G.out,Xr h1,Xr d]
   exact⟨Z,by rw[A];exact Ql.stuck (by have:=R.out;rw[K.out d] at this;exact this)⟩
  have A:Hid (j=some { M with h:=sh }):=by show _=_;rw[G.out,Xr (by omega),Xs d]
  clear d G;go_wp2
  exact Xz (v:=.tuple #[]) (by simp[results,results149,go_sem]) Z (by rw[A.out];exact Ql.go R.out)
theorem Qlk (S:MAt w b most m M sc sa g) (I:Qai n M){x:Qv}(J:IP) (l:x.op=11) :
 Calls prog 149 #[Pv b 0,Pv g.t.c 0,.agg (QY x J)] w fun e w'=>Ql g w b most m M sc sa (M.mem x) e w':=by
 have E:=Qc (Qnk (M:=M) l);generalize M.mem x=p at E |-;obtain⟨xo,f,F,B,G,O,T,U⟩:=x
 simp only at l
 subst l;have o:=Qc (QW w (.cells (QY ⟨11,f,F,B,G,O,T,U⟩ J) 78));have j:=Qc (Qf w (QY ⟨11,f,F,B,G,O,T,U⟩ J) 78);have C:=Qc S;have HI:=Qc I;have z:=Qc (S.below o.out);have hl:=I.len;clear S I;go_enter func149,ntmps149
 go_upto_region 1 with fail
 generalize w.alloc (.cells (QY ⟨11,f,F,B,G,O,T,U⟩ J) 78)=d at o j z |-;generalize w.heap.size=X at j |-;have x0:d.cell? ⟨X,0,none⟩=some (Iv 11):=Qa j.out 0 _ Z;have x1:d.cell? ⟨X,1,none⟩=some (Iv f):=Qa j.out 1 _ Z;have x2:d.cell? ⟨X,2,none⟩=some (Iv F):=Qa j.out 2 _ Z;have x3:d.cell? ⟨X,3,none⟩=some (Iv B):=Qa j.out 3 _ Z;have x4:d.cell? ⟨X,4,none⟩=some (Iv G):=Qa j.out 4 _ Z;have q0:=z.out.heapC;have CK:Hid (∀ a,Below d.heap.size d a->Calls prog 190 #[Pv g.t.c 0,Iv f,Iv 4] a fun e w'=>Ask (QR M.top.v f 4) QL e/\Below a.heap.size a w'):=fun a V=>Qaq (z.out.top.below V) (by omega) f 4;have CL:Hid (∀ y a,QR M.top.v f 4=some y->Below d.heap.size d a->Calls prog 203 #[Pv g.bh 0,QL y] a fun e w'=>e=.returned (.tuple #[Iv (M.h.len y).1,Iv (M.h.len y).2])/\Below a.heap.size a w'):=fun y a u V=>HI.out.len_ (z.out.heap.below V) (HI.out.kind u).1;go_upto_region 17 with fail
 refine Qn1 (ob:=none) (oc:=none) (on:=none) q0 x1 x2 x3 x4 CK CL _ _ Z (Xg (by kernel_rfl)) Z Z Z ?_ ?_
 ·rintro ch a' w9 Q ⟨rfl,P,D⟩;refine⟨Q,?_⟩
  rw[E.out,P]
  exact Ql.stuck (XTo.same C.out (o.out.trans (D.mono o.out.size)))
 ·rintro vs w9 ⟨y,u,k⟩ ⟨y',A,i⟩ D;rw[u] at A
  cases A
  simp only[QI,Act.put,List.setIfInBounds_toArray,List.set_cons_zero,List.set_cons_succ,k,i]
  have r:Hid (p=if (M.h.len y).2=0 then some (M.push [Qa9 (M.h.len y).1]) else none):=by show _=_;rw[E.out,u]
  have H:=Qc (o.out.trans (D.mono o.out.size));have W:=Qc (C.out.below H.out);clear k i u D E CL CK x0 x1 x2 x3 x4 q0 z o j;generalize (M.h.len y).2=N at r |-;generalize (M.h.len y).1=ln at r |-;by_cases q:N=0
  ·have L:(N==0)=true:=by simpa using q
   have K:Hid (p=some (M.push [Qa9 ln])):=by show _=_;rw[r.out,Xs q]
   have CM:=Qc (Z2 W.out ln (by omega));have T5:=Qc (C.out.stepB H.out);clear q r W H;go_wp2_with (go_at_call 138;refine(ZF _).mono ?_;rintro e' w' ⟨rfl,s⟩;have s:=s.symm;subst s)
   refine CM.out.mono ?_;rintro e' w6 ⟨rfl,h6⟩;have R:=Qc (XTo.then T5.out Z Z h6);clear h6 CM T5;go_wp2
   exact Xz (v:=.tuple #[]) (by simp[results,results149,go_sem]) Z (by rw[K.out];exact Ql.go R.out)
  ·have L:(N==0)=false:=by simpa using q
   have K:Hid (p=none):=by show _=_;rw[r.out,Xr q]
   clear q r;go_wp2_with fail
   refine(Zj _).mono ?_
   rintro e' w' ⟨rfl,s⟩;subst s;exact⟨Z,by rw[K.out];exact Ql.stuck (XTo.same C.out H.out)⟩
end
def QcK (w6:World) (o:Option IFr) (v:Value) (w:World):Prop:=∃ fr c gx n,o=some fr/\v=Pv c 0/\w6.heap.size<=c/\w6.heap.size<=gx/\Qdk w c fr (.slice (some ⟨gx,0,none⟩) n n)
def Qfx (w6:World) (o:Option IFr) (v:Value) (w:World):Prop:=∃ fr gx n,o=some fr/\v=.agg #[Iv fr.f,Iv fr.b,Iv fr.i,Iv fr.r.length,.slice (some ⟨gx,0,none⟩) n n]/\w6.heap.size<=gx/\Qhf w (.slice (some ⟨gx,0,none⟩) n n) fr.v
theorem QcK.below {w w':World}{o:Option IFr}(h:QcK w6 o v w) (b:Below w.heap.size w w'):QcK w6 o v w':=by
 obtain⟨j,c,i,n,f,a,g,d,e⟩:=h
 exact⟨j,c,i,n,f,a,g,d,e.below b⟩
theorem Qfx.below {w w':World}{o:Option IFr}(h:Qfx w6 o v w) (b:Below w.heap.size w w'):Qfx w6 o v w':=by
 obtain⟨i,g,n,e,d,f,a⟩:=h
 exact⟨i,g,n,e,d,f,a.keep (fun x c=>b.block x (a.lt c))⟩
theorem Qbh.split {w w':World}{o:Option IFr}{e:Ending}(h:Qbh w o e w'):Below w.heap.size w w'/\((∃ fr c gx n,o=some fr/\e=.returned (Pv c 0)/\w.heap.size<=c/\w.heap.size<=gx/\Qdk w' c fr (.slice (some ⟨gx,0,none⟩) n n))\/(o=none/\e=.panicked stuckP)):=by
 obtain⟨b,h⟩:=h
 refine⟨b,?_⟩
 cases o with
 | none=>exact .inr ⟨Z,h⟩
 | some fr =>
   obtain⟨c,gx,n,d,a,f,g⟩:=h
   exact .inl ⟨fr,c,gx,n,Z,d,a,f,g⟩
theorem Qdb {v:List Qj}{xs:List Qj}(h:Qp v l=some xs):xs.length=l.length:=Q8 v l h
theorem Qav {r:List Int}:∀ {l rs:List Int},Zh r l=some rs->rs.length=l.length
 | [],rs,h=>by simp[Zh] at h;subst h;rfl
 | k::l,rs,h=>by
   unfold Zh at h
   cases hk:QiX r k with
   | none=>rw[hk] at h;cases h
   | some x =>
     rw[hk] at h
     simp only at h
     cases hl:Zh r l with
     | none=>rw[hl] at h;cases h
     | some zs=>rw[hl] at h;simp at h;subst h;simp[Qav hl]
theorem QlN {m:List (MFunc 6)}{M:IM}{x:Qv}{fn:MFunc 6}{bl:MBlock 6}(a:x.k=(k:Int)) (d:m[k]?=some fn) (b:bl.regs=fn.regs) (c:bl.params=fn.params) :
 IM.call m M x=match begunO M.top k ⟨0,x.regs,x.args⟩ bl with
  | none=>none
  | some fr=>if M.rest.length+1=40 then some (M.over 5) else some { M with top:=fr,rest:=M.top::M.rest }:=by
 unfold IM.call begunO;simp only
 cases hr:Zh M.top.r x.regs with
 | none=>simp only[ite_self]
 | some rs =>
   simp only
   cases hv:Qp M.top.v x.args with
   | none=>simp only[ite_self]
   | some xs =>
     simp only
     rw[a,XT,d]
     simp only
     rw[b,c,Qav hr,Qdb hv]
     split
     ·simp
     ·rfl
theorem Qm0 {fn:MFunc 6}{M:IM}{t:MTo}{bl:MBlock 6}(hb:fn.blocks[t.block.toNat]?=some bl):IM.to fn M t=match begunO M.top M.top.f t bl with
 | none=>none
 | some fr=>some { M with top:=fr }:=by
 unfold IM.to begunO;rw[hb]
 simp only
 cases hr:Zh M.top.r t.regs with
 | none=>simp only[ite_self]
 | some rs =>
   simp only
   cases hv:Qp M.top.v t.args with
   | none=>simp only[ite_self]
   | some xs =>
     simp only
     rw[Qav hr,Qdb hv]
     split<;>rfl
def QnP (w6:World) (o:Option IFr) (b c X fi bi ml cm nr cr na ca:Nat) (pm pr pa:Option Addr) (t:Tmp) (v:Value) (w:World):Prop :=
 match ([(19,QcK w6 o),(6,QcK w6 o)]:List (Tmp × (Value->World->Prop))).lookup t with
 | some p=>p v w
 | none=>v=(([(0,.pointer (some ⟨b,0,none⟩)),(1,.pointer (some ⟨c,0,none⟩)),(5,.pointer (some ⟨X,0,none⟩)),(7,.pointer (some ⟨c,0,none⟩)),(8,.pointer (some ⟨b,0,none⟩)),(9,.pointer (some ⟨b,0,none⟩)),(10,.pointer (some ⟨b,1,none⟩)),(11,.agg #[.slice pm ml cm]),(12,.pointer (some ⟨X,4,none⟩)),(13,.int .i64 (fi:Int)),(14,.pointer (some ⟨X,6,none⟩)),(15,.slice pr nr cr),(16,.pointer (some ⟨X,7,none⟩)),(17,.slice pa na ca),(18,.agg #[.int .i64 0,.slice pr nr cr,.slice pa na ca])]:List (Tmp × Value)).lookup t).getD undef
theorem ic1 {o:Option IFr}{b bi r B x:Nat}{u:Option Addr}(U:w6.cell? ⟨b,1,none⟩=some (.slice pm r cm)) (M:w6.cell? ⟨X,4,none⟩=some (Iv (fi:Int))) (D:w6.cell? ⟨X,6,none⟩=some (.slice u B x)) (J:w6.cell? ⟨X,7,none⟩=some (.slice pa na ca)) (G:Hid (∀ wx,Below w6.heap.size w6 wx->Calls prog 189 #[Pv c 0,.agg #[.slice pm r cm],Iv (fi:Int),.agg #[Iv 0,.slice u B x,.slice pa na ca]] wx fun e w'=>Qbh wx o e w')){Q:Exit->Act->World->Prop}
 (a:Act) (m:Nat) (hn:a.tmps.size=m) (A:37<=m) (I:a.tmps.getD 0 undef=Pv b 0) (y:a.tmps.getD 1 undef=Pv c 0) (E:a.tmps.getD 5 undef=Pv X 0)
 (O:∀ ch a' w',a'.defers=a.defers->(fun ch w=>ch=stuckP/\o=none/\Below w6.heap.size w6 w) ch w'->Q (.panic ch) a' w')
 (hend:∀ vs w',(QcK w6 o) (vs 6) w'->Below w6.heap.size w6 w'->Q .normal (QI a vs [7,8,9,10,11,12,13,14,15,16,17,18,19,6]) w') :
 Code.wp prog ((Tryz.f148.body.bind (Qg 1)).getD .skip) Q a w6:=by
 conv=>arg 2;whnf
 refine Zx (QnP w6 o b c X fi bi r cm B x na ca pm u pa) (fun w=>Below w6.heap.size w6 w) (fun w w'=>Below w.heap.size w w') (fun ch w=>ch=stuckP/\o=none/\Below w6.heap.size w6 w) O (outs:=[0,1,5]) (gs:=[]) (bs:=[true,true,true,true,true,true,true,true,true,true,true,true,true,true]) (by kernel_rfl) (n:=37) hn A (by kernel_rfl) ?hR ?hG (Qs Zr 1) ⟨I,y,E,Y⟩ ?hA ?hend
 case hR =>
  intro t v w w' C h;unfold QnP at h |-;split at h
  ·rename_i p g
   simp only[List.lookup_cons,List.lookup_nil] at g
   split at g
   ·cases g;exact h.below C
   ·split at g
    ·cases g;exact h.below C
    ·cases g
  ·exact h
 case hG=>exact Y
 case hend=>exact fun vs w' d i=>hend vs w' (i 6 (by kernel_rfl)) d
 case hA =>
  repeat
   refine⟨fun a w d i K k=>?_,?_⟩
   focus first
    | obtain⟨f,-⟩:=i
      conv at f=>whnf;rhs;whnf
      have W:=Qo U d;have c1:=Qo M d;have c2:=Qo D d;have c3:=Qo J d;go_simp;exact k _ _ Zr d Z
    | obtain⟨f,j,-⟩:=i
      conv at f=>whnf;rhs;whnf
      rw[Za] at f
      conv at j=>whnf;rhs;whnf
      rw[Za] at j
      go_simp;exact k _ _ Zr d Z
    | obtain⟨f,-⟩:=i
      have f:(QcK w6 o) (a.tmps.getD 19 undef) w:=f;generalize s:a.tmps.getD 19 undef=T at f;subst s;rw[Za] at f
      go_simp;exact k _ _ Zr d f
    | obtain⟨f,j,P,V,-⟩:=i
      conv at f=>whnf;rhs;whnf
      conv at j=>whnf;rhs;whnf
      conv at P=>whnf;rhs;whnf
      conv at V=>whnf;rhs;whnf
      go_simp;refine Xm (G.out w d) ?_;rintro r7 w7 z;obtain⟨q,z⟩:=z.split
      rcases z with ⟨S,F,L,H,l,rfl,y,N,R⟩|⟨l,rfl⟩
      rotate_left
      ·exact⟨_,Z,Z,l,d.trans (q.mono d.size)⟩
      go_simp;exact k _ _ q (d.trans (q.mono d.size)) ⟨S,F,L,H,l,Z,Zt d.size y,Zt d.size N,R⟩
  trivial
def QnF (w6:World) (o:Option IFr) (b c X fi bi ml cm nr cr na ca:Nat) (pm pr pa:Option Addr) (t:Tmp) (v:Value) (w:World):Prop :=
 match ([(17,QcK w6 o),(18,QcK w6 o),(19,Qfx w6 o)]:List (Tmp × (Value->World->Prop))).lookup t with
 | some p=>p v w
 | none=>v=(([(0,.pointer (some ⟨b,0,none⟩)),(1,.pointer (some ⟨c,0,none⟩)),(5,.pointer (some ⟨X,0,none⟩)),(6,.pointer (some ⟨c,0,none⟩)),(7,.pointer (some ⟨c,0,none⟩)),(8,.pointer (some ⟨b,0,none⟩)),(9,.pointer (some ⟨b,0,none⟩)),(10,.pointer (some ⟨b,1,none⟩)),(11,.agg #[.slice pm ml cm]),(12,.pointer (some ⟨c,0,none⟩)),(13,.pointer (some ⟨c,0,none⟩)),(14,.pointer (some ⟨c,0,none⟩)),(15,.int .i64 (fi:Int)),(16,.agg #[.int .i64 (bi:Int),.slice pr nr cr,.slice pa na ca]),(20,.pointer (some ⟨c,0,none⟩))]:List (Tmp × Value)).lookup t).getD undef
theorem ij1 {o:Option IFr}{b A I E:Nat}{D:Option Addr}(q1:w6.cell? ⟨b,1,none⟩=some (.slice pm A cm)) (N:w6.cell? ⟨c,0,none⟩=some (Iv (fi:Int))) (V:w6.cell? ⟨X,0,none⟩=some (Iv (bi:Int))) (M:w6.cell? ⟨X,1,none⟩=some (.slice D I E)) (W:w6.cell? ⟨X,2,none⟩=some (.slice pa na ca)) (T:Hid (∀ wx,Below w6.heap.size w6 wx->Calls prog 189 #[Pv c 0,.agg #[.slice pm A cm],Iv (fi:Int),.agg #[Iv (bi:Int),.slice D I E,.slice pa na ca]] wx fun e w'=>Qbh wx o e w')){Q:Exit->Act->World->Prop}
 (a:Act) (m:Nat) (hn:a.tmps.size=m) (G:21<=m) (U:a.tmps.getD 0 undef=Pv b 0) (l:a.tmps.getD 1 undef=Pv c 0) (O:a.tmps.getD 5 undef=Pv X 0)
 (hX:∀ ch a' w',a'.defers=a.defers->(fun ch w=>ch=stuckP/\o=none/\Below w6.heap.size w6 w) ch w'->Q (.panic ch) a' w')
 (hend:∀ ops vs w',vs 20=Pv c 0->(Qfx w6 o) (vs 19) w'->Below w6.heap.size w6 w'->wpList prog ops Q (QaR 15 ((Tryz.f132.body.bind (Qg 1)).getD .skip)) (QI a vs [6,7,8,9,10,11,12,13,14,15,16,17,18,19,20]) w') :
 Code.wp prog ((Tryz.f132.body.bind (Qg 1)).getD .skip) Q a w6:=by
 conv=>arg 2;whnf
 refine Q1 15 (QnF w6 o b c X fi bi A cm I E na ca pm D pa) (fun w=>Below w6.heap.size w6 w) (fun w w'=>Below w.heap.size w w') (fun ch w=>ch=stuckP/\o=none/\Below w6.heap.size w6 w) hX (outs:=[0,1,5]) (gs:=[]) (bs:=[true,true,true,true,true,true,true,true,true,true,true,true,true,true,true]) (by kernel_rfl) (n:=21) hn G (by kernel_rfl) (by kernel_rfl) ?hR ?hG (Qs Zr 1) ⟨U,l,O,Y⟩ ?hA ?hend
 case hR =>
  intro t v w w' B h;unfold QnF at h |-;split at h
  ·rename_i p i
   simp only[List.lookup_cons,List.lookup_nil] at i
   split at i
   ·cases i;exact h.below B
   ·split at i
    ·cases i;exact h.below B
    ·split at i
     ·cases i;exact h.below B
     ·cases i
  ·exact h
 case hG=>exact Y
 case hend=>exact fun ops vs w' d k=>hend ops vs w' (k 20 (by kernel_rfl)) (k 19 (by kernel_rfl)) d
 case hA =>
  repeat
   refine⟨fun a w d k K y=>?_,?_⟩
   focus first
    | obtain⟨f,-⟩:=k
      conv at f=>whnf;rhs;whnf
      have J:=Qo q1 d;have L:=Qo N d;have P:=Qo V d;have R:=Qo M d;have c4:=Qo W d;go_simp;exact y _ _ Zr d Z
    | obtain⟨f,-⟩:=k
      have f:(QcK w6 o) (a.tmps.getD 17 undef) w:=f;generalize C:a.tmps.getD 17 undef=H at f;obtain⟨u,x,r,q,j,rfl,l,s,g⟩:=f
      go_simp;exact y _ _ Zr d ⟨u,x,r,q,j,Z,l,s,g⟩
    | obtain⟨f,-⟩:=k
      have f:(QcK w6 o) (a.tmps.getD 18 undef) w:=f;generalize C:a.tmps.getD 18 undef=H at f;obtain⟨u,x,r,q,j,rfl,l,s,g⟩:=f
      have J:=Qa g.1 0 _ Z;have L:=Qa g.1 1 _ Z;have P:=Qa g.1 2 _ Z;have R:=Qa g.1 3 _ Z;have c4:=Qa g.1 4 _ Z;go_simp;exact y _ _ Zr d ⟨u,r,q,j,Z,s,g.2⟩
    | obtain⟨f,S,k2,k3,-⟩:=k
      conv at f=>whnf;rhs;whnf
      conv at S=>whnf;rhs;whnf
      conv at k2=>whnf;rhs;whnf
      conv at k3=>whnf;rhs;whnf
      go_simp;refine Xm (T.out w d) ?_;rintro r7 w7 F;obtain⟨z,F⟩:=F.split
      rcases F with ⟨u,x,r,q,j,rfl,l,s,g⟩|⟨j,rfl⟩
      rotate_left
      ·exact⟨_,Z,Z,j,d.trans (z.mono d.size)⟩
      go_simp;exact y _ _ z (d.trans (z.mono d.size)) ⟨u,x,r,q,j,Z,Zt d.size l,Zt d.size s,g⟩
  trivial
section
variable {w w' w2:World}{b most n:Nat}{m:List (MFunc 6)}{M M' N:IM}{sc sa:Int}{g g1:MG}{e:Ending}
theorem Qkt {w:World}{a0 g k i j:Value}(h:w.heap[c]?=some (.cells #[a0,g,k,i,j] 100 (0,0))) (b e a d f:Value) :
 (((((w.setCell ⟨c,0,none⟩ b).setCell ⟨c,1,none⟩ e).setCell ⟨c,2,none⟩ a).setCell ⟨c,3,none⟩ d).setCell ⟨c,4,none⟩ f).heap[c]?=some (.cells #[b,e,a,d,f] 100 (0,0)):=by
 have:=Qh (Qh (Qh (Qh (Qh h 0 b) 1 e) 2 a) 3 d) 4 f
 simpa using this
theorem QhX (S:MAt w b most m M sc sa g) (I:Qai n M){fn:MFunc 6}{bl:MBlock 6}{t:MTo}(hf:m[M.top.f]?=some fn) (o:t.block=(bi:Int)) (hb:fn.blocks[bi]?=some bl) (hs:m.length<=1000/\fn.blocks.length<=1000/\bl.params.length<=1000)
  {y:Option Addr} {z:Nat} (hR:intsL.In w Q2 t.regs [.slice y t.regs.length z]) (hA:intsL.In w Q2 t.args [.slice pa t.args.length ca]) (hn:t.regs.length<=1000/\t.args.length<=1000) :
 Calls prog 132 #[Pv b 0,Pv g.t.c 0,.agg #[Iv t.block,.slice y t.regs.length z,.slice pa t.args.length ca]] w fun e w'=>Ql g w b most m M sc sa (IM.to fn M t) e w':=by
 have E:=Qc (Qm0 (M:=M) (t:=t) (bl:=bl) (fn:=fn) (by rw[o];exact hb));generalize IM.to fn M t=U at E |-;rw[o]
 have j:=Qc (QW w (.cells #[Iv (bi:Int),.slice y t.regs.length z,.slice pa t.args.length ca] 82));have A:=Qc (Qf w #[Iv (bi:Int),.slice y t.regs.length z,.slice pa t.args.length ca] 82);have F:=Qc S;have H:=Qc (S.below j.out)
 have G:Hid (∀ h,Below w.heap.size w h->Calls prog 189 #[Pv g.t.c 0,.agg #[.slice g.pm m.length g.cm],Iv (M.top.f:Int),.agg #[Iv (bi:Int),.slice y t.regs.length z,.slice pa t.args.length ca]] h fun e w'=>Qbh h (begunO M.top M.top.f t bl) e w') :=
  fun h D=>QdQ (S.top.below D) (by have:=I.len;omega) I.regs (Ya S.mod D) hf hb hs o (Ya hR D) (Ya hA D) hn
 clear S I hf hb hs hR hA hn o;go_enter func132,ntmps132
 go_upto_region 1 with fail
 generalize w.alloc (.cells #[Iv (bi:Int),.slice y t.regs.length z,.slice pa t.args.length ca] 82)=P at j A H |-;generalize hX:w.heap.size=X at A |-;have t0:=Qa A.out 0 _ Z;have W:=Qa A.out 1 _ Z;have t2:=Qa A.out 2 _ Z;have q1:P.cell? ⟨b,1,none⟩=some (.slice g.pm m.length g.cm):=Qa H.out.box 1 _ Z;have f0:=Qa H.out.top.1 0 _ Z;have N:Hid (∀ h,Below P.heap.size P h->Calls prog 189 #[Pv g.t.c 0,.agg #[.slice g.pm m.length g.cm],Iv (M.top.f:Int),.agg #[Iv (bi:Int),.slice y t.regs.length z,.slice pa t.args.length ca]] h fun e w'=>Qbh h (begunO M.top M.top.f t bl) e w'):=fun h D=>G.out h (j.out.trans (D.mono j.out.size));generalize begunO M.top M.top.f t bl=oo at E N;clear G;refine ij1 q1 f0 t0 W t2 N _ _ Z (Xg (by kernel_rfl)) Z Z Z ?_ ?_
 ·rintro ch a' w9 Q ⟨rfl,O,b9⟩;refine⟨Q,?_⟩
  rw[E.out,O]
  exact Ql.stuck (XTo.same F.out (j.out.trans (b9.mono j.out.size)))
 ·rintro L vs K s ⟨l,J,B,hv,q,hg,u⟩ V;show wpList _ L _ [_] (QI _ vs [6,7,8,9,10,11,12,13,14,15,16,17,18,19,20]) K;simp only[QI,Act.put,List.setIfInBounds_toArray,List.set_cons_zero,List.set_cons_succ,s,q]
  have C:=Qc (j.out.trans (V.mono j.out.size));have E2:Hid (U=some { M with top:=l }):=by show _=_;rw[E.out,hv]
  have a:=Qc (F.out.top.below C.out);have T:w.heap.size<=J:=Zt j.out.size hg
  have R:Hid (XTo g w (((((K.setCell ⟨g.t.c,0,none⟩ (Iv l.f)).setCell ⟨g.t.c,1,none⟩ (Iv l.b)).setCell ⟨g.t.c,2,none⟩ (Iv l.i)).setCell ⟨g.t.c,3,none⟩ (Iv l.r.length)).setCell ⟨g.t.c,4,none⟩ (.slice (some ⟨J,0,none⟩) B B)) b most m { M with top:=l } sc sa):=by
   have aa:=XC F.out.top.1
   have d:∀ k,k≠g.t.c->(((((K.setCell ⟨g.t.c,0,none⟩ (Iv l.f)).setCell ⟨g.t.c,1,none⟩ (Iv l.b)).setCell ⟨g.t.c,2,none⟩ (Iv l.i)).setCell ⟨g.t.c,3,none⟩ (Iv l.r.length)).setCell ⟨g.t.c,4,none⟩ (.slice (some ⟨J,0,none⟩) B B)).heap[k]?=K.heap[k]?:=fun k p=>by
    rw[Xd _ _ _ _ p,Xd _ _ _ _ p,Xd _ _ _ _ p,Xd _ _ _ _ p,Xd _ _ _ _ p]
   refine F.out.setTop (v:=.slice (some ⟨J,0,none⟩) B B) C.out.os C.out.tape C.out.output (by have:=C.out.size;simp;omega) (fun k p h1 h2=>(d k h1).trans (C.out.block k p)) ⟨Qkt a.out.1 _ _ _ _ _,?_⟩ (fun k p=>.inr (by rw[ownBlock_slice] at p;omega));exact u.keep (fun x hx=>d x (by rw[ownBlock_slice] at hx;omega))
  have c0:=Qa a.out.1 0 _ Z;have c1:=Qa a.out.1 1 _ Z;have c2:=Qa a.out.1 2 _ Z;have c3:=Qa a.out.1 3 _ Z;have c4:=Qa a.out.1 4 _ Z;have z0:=Qe a.out.1 0;have z1:=Qe a.out.1 1;have z2:=Qe a.out.1 2;have z3:=Qe a.out.1 3;have z4:=Qe a.out.1 4;obtain⟨va,vd,ev⟩:=Qa1 F.out.top.2
  rw[ev] at c4
  clear s q hv hg u V E N t0 W t2 q1 f0 H j A a T hX;go_wp2
  exact Xz (v:=.tuple #[]) (by simp[results,results132,go_sem]) Z (by rw[E2.out];exact Ql.go R.out)
end
def Qa8 (g:MG) (w:World) (b most:Nat) (m:List (MFunc 6)) (M:IM) (sc sa:Int) (r:Option IM) (e:Ending) (w':World):Prop:=match r with
 | none=>e=.panicked stuckP/\XTo g w w' b most m M sc sa
 | some M'=>(e=.returned (.tuple #[])/\∃ g',MAt w' b most m M' sc sa g'/\QE g.A g'.A w w'/\g'.fs=g.t::g.fs/\M'.rest=M.top::M.rest)\/(∃ N k,M'=N.over k/\e=.panicked (QkR k)/\XTo g w w' b most m N sc sa)
theorem fInfo:∃ i,prog.info? 97=some i/\i.zero=some (.pointer none)/\i.size=1/\i.bytes=8:=by
 have h:(prog.info? 97).map (fun i=>(i.zero,i.size,i.bytes))=some (some (.pointer none),1,8):=by kernel_rfl
 cases e:prog.info? 97 with
 | none=>rw[e] at h;cases h
 | some i =>
   rw[e] at h
   simp only[Option.map_some,Option.some.injEq,Prod.mk.injEq] at h
   exact⟨i,Z,h.1,h.2.1,h.2.2⟩
theorem fUnder:prog.underlying 50=some (.slice 97):=by kernel_rfl
section
variable {w w' w2:World}{b most n:Nat}{m:List (MFunc 6)}{M M' N:IM}{sc sa:Int}{g g1:MG}{e:Ending}
theorem Qjm (S:MAt w b most m M sc sa g) (I:Qai n M) (hd:M.rest.length<=39){x:Qv}(a:IP)(j:x.k=(k:Int)){fn:MFunc 6}{bl:MBlock 6}(hf:m[k]?=some fn) (hb:fn.blocks[0]?=some bl) (V:bl.regs=fn.regs) (Q:bl.params=fn.params) (hs:m.length<=1000/\fn.blocks.length<=1000/\bl.params.length<=1000)
  (hR:intsL.In w Q2 x.regs [.slice a.pR x.regs.length a.cR]) (hA:intsL.In w Q2 x.args [.slice a.pA x.args.length a.cA]) (hn:x.regs.length<=1000/\x.args.length<=1000) :
 Calls prog 148 #[Pv b 0,Pv g.t.c 0,.agg (QY x a)] w fun e w'=>Qa8 g w b most m M sc sa (IM.call m M x) e w':=by
 obtain⟨i0,hi,ab,ae,ac⟩:=fInfo
 have E:=Qc (QlN (M:=M) (m:=m) j hf V Q);generalize IM.call m M x=q at E |-;have d:=Qc (QW w (.cells (QY x a) 78));have z:=Qc (Qf w (QY x a) 78);have T:=Qc S;have S1:=Qc (S.below d.out)
 have H:Hid (∀ f,Below w.heap.size w f->Calls prog 189 #[Pv g.t.c 0,.agg #[.slice g.pm m.length g.cm],Iv (k:Int),.agg #[Iv 0,.slice a.pR x.regs.length a.cR,.slice a.pA x.args.length a.cA]] f fun e w'=>Qbh f (begunO M.top k ⟨0,x.regs,x.args⟩ bl) e w') :=
  fun f y=>QdQ (t:=⟨0,x.regs,x.args⟩) (bi:=0) (S.top.below y) (by have:=I.len;omega) I.regs (Ya S.mod y) hf hb hs Z (Ya hR y) (Ya hA y) hn
 have HK:=Qc j;clear S I hf hb hs hR hA hn V Q j;go_enter func148,ntmps148
 go_upto_region 1 with fail
 generalize w.alloc (.cells (QY x a) 78)=s at d z S1 |-;generalize hX:w.heap.size=X at z |-;have x4:s.cell? ⟨X,4,none⟩=some (Iv x.k):=Qa z.out 4 _ Z;have x6:s.cell? ⟨X,6,none⟩=some (.slice a.pR x.regs.length a.cR):=Qa z.out 6 _ Z;have x7:s.cell? ⟨X,7,none⟩=some (.slice a.pA x.args.length a.cA):=Qa z.out 7 _ Z;rw[HK.out] at x4
 have q1:s.cell? ⟨b,1,none⟩=some (.slice g.pm m.length g.cm):=Qa S1.out.box 1 _ Z;have CB:Hid (∀ f,Below s.heap.size s f->Calls prog 189 #[Pv g.t.c 0,.agg #[.slice g.pm m.length g.cm],Iv (k:Int),.agg #[Iv 0,.slice a.pR x.regs.length a.cR,.slice a.pA x.args.length a.cA]] f fun e w'=>Qbh f (begunO M.top k ⟨0,x.regs,x.args⟩ bl) e w'):=fun f y=>H.out f (d.out.trans (y.mono d.out.size));generalize begunO M.top k ⟨0,x.regs,x.args⟩ bl=oo at E CB;clear H;refine ic1 (bi:=0) q1 x4 x6 x7 CB _ _ Z (Xg (by kernel_rfl)) Z Z Z ?_ ?_
 ·rintro ch a' w9 aa ⟨rfl,ad,b9⟩;refine⟨aa,?_⟩
  rw[E.out,ad]
  exact⟨Z,XTo.same T.out (d.out.trans (b9.mono d.out.size))⟩
 ·rintro vs A ⟨fr,L,gx,n5,hv,F,D,B,N⟩ b5;simp only[QI,Act.put,List.setIfInBounds_toArray,List.set_cons_zero,List.set_cons_succ,F]
  have P:=Qc (d.out.trans (b5.mono d.out.size));have U:Hid (q=if M.rest.length+1=40 then some (M.over 5) else some { M with top:=fr,rest:=M.top::M.rest }):=by show _=_;rw[E.out,hv]
  have C:=Qc (T.out.below P.out);have N:=Qc N;have K:Hid (w.heap.size<=L/\w.heap.size<=gx):=⟨Zt d.out.size D,Zt d.out.size B⟩;obtain⟨gc,ai,ev,af,-⟩:=C.out.callsForm
  have q4:A.cell? ⟨b,4,none⟩=some g.vc:=Qa C.out.box 4 _ Z;rw[ev] at q4
  clear F hv D B b5 E CB x4 x6 x7 q1 S1 d z HK hX;by_cases i:M.rest.length+1=40
  ·have E3:Hid (q=some (M.over 5)):=by show _=_;rw[U.out,Xs i]
   have d1:decide (((M.rest.length+1:Nat):Int)<40)=false:=Xu (by omega);clear U i;generalize M.rest.length+1=nr at *;go_wp2_with fail
   refine(QaK _ _).mono ?_
   rintro e' w' ⟨rfl,J⟩;subst J;exact⟨Z,by rw[E3.out];exact .inr ⟨M,5,Z,Z,XTo.same T.out P.out⟩⟩
  ·have E3:Hid (q=some { M with top:=fr,rest:=M.top::M.rest }):=by show _=_;rw[U.out,Xr i]
   have d1:decide (((M.rest.length+1:Nat):Int)<40)=true:=Xt (by omega);have r:=QW A (.cells #[Pv L 0] 97);have O:=Qc (C.out.below r).calls;have HW:=Qc (QkF A [Pv L 0] 97);have HZ:Hid ((A.alloc (.cells #[Pv L 0] 97)).heap.size=A.heap.size+1):=by show _=_;simp
   have h:=Qc (fun v9 w9=>T.out.pushFr (v9:=v9) (w9:=w9) (P.out.trans (r.mono P.out.size)) (N.out.below r) K.out.1 (fun k j=>by rw[ownBlock_slice] at j;have:=K.out.2;omega));have o:=Qc (C.out.below r).box;have l:=Qc (fun x=>(C.out.below r).callsNe (x:=x));clear U i r;rw[ev] at O h l
   obtain⟨xs,G⟩:∃ xs,QaN (g.t::g.fs)=xs:=⟨_,Z⟩
   rw[G] at O h
   clear G;have HD:=Qc hd;have ah:M.rest.length+1<=100:=by omega
   clear hd;generalize ag:M.rest.length+1=nr at *;go_upto_region 3 with (go_at_call 84;refine(Qa0 _ _).mono ?_;rintro e' w' ⟨rfl,J⟩;have J:=J.symm;subst J)
   go_wp2_with (at_builtin;refine ZD _ Z _ _ 50 Z 97 i0 (.pointer none) 1 8 fUnder hi ab ae ac Z (by decide) _ _ _ Z O.out ⟨A.heap.size,0,none⟩ 1 1 [Pv L 0] Z Z HW.out (by intro u hu;simp at hu;subst hu;rfl) (by unfold maxLen;omega) (by omega) ?_)
   intro v9 w9 r1 W r3;have R:=Qc (h.out v9 w9 r1 W (fun k j=>(r3 k j).imp id (fun e=>by rw[HZ.out];exact e)));have p:=(W.block b (XC o.out) (fun e=>(l.out b e.symm).1 Z)).trans o.out;have c9:w9.cell? ⟨b,4,none⟩=some g.vc:=Qa p 4 _ Z;have z9:=Qe p 4;obtain⟨a9,d9,rfl⟩:=Qa1 r1
   clear r1 W r3 h p o O q4 HW l N;go_wp2
   exact Xz (v:=.tuple #[]) (by simp[results,results148,go_sem]) Z (by
    rw[E3.out]
    obtain⟨g',V,Q,h3⟩:=R.out
    exact .inl ⟨Z,g',V,Q,h3,Z⟩)
end
def numsOf:List Qj->Option (List Int)
 | []=>some []
 | x::l=>if x.kind=1 then (match numsOf l with
   | none=>none
   | some ns=>some (x.n::ns)) else none
theorem QdD (v:List Qj):∀ {l:List Int}{xs:List Qj},Qp v l=some xs->Qat v l=numsOf xs
 | [],xs,h=>by simp[Qp] at h;subst h;rfl
 | k::l,xs,h=>by
   simp only[Qp] at h
   cases hk:Qz v k with
   | none=>rw[hk] at h;cases h
   | some x =>
     rw[hk] at h
     simp only at h
     cases hl:Qp v l with
     | none=>rw[hl] at h;cases h
     | some zs =>
       rw[hl] at h
       simp at h
       subst h;have b:=QdD v hl;unfold Qat numsOf Qu;rw[hk]
       simp only
       by_cases a:x.kind=1
       ·rw[Xs a,Xs a,b];cases numsOf zs<;>rfl
       ·rw[Xr a,Xr a]
theorem numsOf_all:∀ {l:List Qj},(∀ x∈l,x.kind=1)->numsOf l=some (l.map (·.n))
 | [],_=>rfl
 | x::l,h=>by
   unfold numsOf;rw[Xs (h x (by simp)),numsOf_all (fun y a=>h y (by simp[a]))]
   rfl
theorem numsOf_no:∀ {l:List Qj}{x:Qj},x∈l->x.kind≠1->numsOf l=none
 | [],x,h,_=>by simp at h
 | y::l,x,h,hx=>by
   unfold numsOf;rcases List.mem_cons.1 h with rfl | h
   ·rw[Xr hx]
   ·by_cases a:y.kind=1
    ·rw[Xs a,numsOf_no h hx]
    ·rw[Xr a]
def Qmk (w:World) (o:Option (List Int)) (n:Nat) (e:Ending) (w':World):Prop:=Below w.heap.size w w'/\match o with
 | none=>e=.panicked stuckP
 | some ns=>∃ g,e=.returned (.slice (some ⟨g,0,none⟩) n n)/\intsL.In w' (fun x=>w.heap.size<=x/\∃ c,w'.heap[x]?=some (.cells c 2 (0,0))) ns [.slice (some ⟨g,0,none⟩) n n]
theorem Qnx (n:Nat) (hn:n<=1099511627776) (w:World):(Instr.makeSlice 25 (Iv (n:Int)) (Iv (n:Int))).run prog w=.ok (.slice (some ⟨w.heap.size,0,none⟩) n n) (w.alloc (.cells (madeCells (#[Iv 0]:Array Value) n) 2)):=by
 obtain⟨e,d,a,b,c⟩:=iInfo64
 exact run_make_row (P:=prog) 25 2 e (Iv 0) iUnder64 d a b Z .i64 .i64 n (by rw[c];omega) (by omega) w
def numCell (l:List Qj) (q:Nat) (i:Nat):Value:=if i<q then Iv (l.getD i noV).n else Iv 0
theorem Qmb {w:World}{l:List Qj}(f:l.length=n) (h:w.rowIs g 2 n (numCell l n)) (e:O g) (b:∀ x∈l,Zp x.n):intsL.In w O (l.map (·.n)) [.slice (some ⟨g,0,none⟩) n n]:=by
 refine⟨some ⟨g,0,none⟩,n,by rw[XN,f],fun i x d=>?_⟩
 rw[XS] at d
 obtain⟨y,a,rfl⟩:=Option.map_eq_some_iff.1 d
 have k:=(Zi a).1;refine⟨g,0,[Iv y.n],Z,e,h.lt,fun j c=>?_,Z,b y (Zm a)⟩
 have c:j<1:=c
 have:j=0:=by omega
 subst this;show w.cell? ⟨g,0+i*1+0,none⟩=_;rw[XK,XL,Nat.add_zero,h.cell (by omega)]
 unfold numCell;rw[Xs (by omega)]
 simp[List.getD,a]
section
variable {w:World}
theorem QeS {G:Nat}{l:List Qj}(hn:l.length=n) (hb:n<=1000000) (R:w.rowIs G 211 (n*4) (Zc l)) (s:∀ x∈l,Zp x.n) :
 Calls prog 191 #[.slice (some ⟨G,0,none⟩) n n] w fun e w'=>Qmk w (numsOf l) n e w':=by
 have M:=Qnx n (by omega) w;have F:=Qc (World.rowIs_made w (Iv 0) n 2);have B0:=Qc (QW w (.cells (madeCells (#[Iv 0]:Array Value) n) 2));have O:=Qc R;have A:=Qc hn;have H:=Qc s;clear R hn s;go_enter func191,ntmps191
 go_upto_region 2 with fail
 generalize w.alloc (.cells (madeCells (#[Iv 0]:Array Value) n) 2)=w1 at F B0 |-;clear M;obtain⟨g,hg⟩:∃ g,g=w.heap.size:=⟨_,Yz⟩
 have S:Hid (w.heap.size<=g):=by show _<=_;omega
 have ac:Hid (G≠g):=by show _≠_;have:=O.out.lt;omega
 rw[<-hg] at F |-
 clear hg;go_wp2_with fail
 go_loopw [11] (fun i wr=>∃ q:Nat,q<=n/\i=Iv q/\wr.rowIs g 2 n (numCell l q)/\Below w.heap.size w wr/\∀ j x,j<q->l[j]?=some x->x.kind=1) (fun i _=>n - (intOf i).toNat)
 case atStart=>exact⟨0,Xb _,Yz,F.out.congr (fun i _=>by unfold numCell;rw[Xr (by omega)]),B0.out,fun j x v=>by omega⟩
 case round =>
  obtain⟨q,hq,rfl,hR,hB,hz⟩:=hrel
  have t:=Qc hR;have a:=Qc hB;have T:=Qc hz;clear hR hB hz;by_cases o:q<n
  ·have aa:(q:Int)<n:=by omega
   obtain⟨x,u⟩:∃ x,l[q]?=some x:=⟨_,Zg (by rw[A.out];exact o)⟩
   have b:=O.out;rw[<-A.out] at b
   obtain⟨B,P,p2,p3⟩:=Qan b u
   have N:=Qo B a.out;have Q:=Qo P a.out;have V:=Qo p2 a.out;have U:=Qo p3 a.out;have J:=Qc u;obtain⟨k,K,I,d⟩:=x
   simp only at N Q V U
   clear B P p2 p3 u b;have r:=Qc (QW wr (.cells #[Iv k,Iv K,Iv I,Iv d] 211));have Y:=Qc (Qf wr #[Iv k,Iv K,Iv I,Iv d] 211);go_upto_region 5 with fail
   generalize wr.alloc (.cells #[Iv k,Iv K,Iv I,Iv d] 211)=W at r Y |-;generalize wr.heap.size=Z at Y |-;have y0:=Qa Y.out 0 _ Yz;have y3:=Qa Y.out 3 _ Yz;clear N Q V U;by_cases f:k=1
   ·have D:(k==1)=true:=by simpa using f
    have z:=t.out.of_block (r.out.block g t.out.lt);have B:=z.cell o;have f0:=z.frozen q
    have PR:Hid ((W.setCell ⟨g,q,none⟩ (Iv d)).rowIs g 2 n (numCell l (q+1))):=(z.set q (Iv d)).congr (fun i hi=>by
     unfold numCell;by_cases e:i=q
     ·subst e;rw[Xs Yz,Xs (by omega)];simp[List.getD,J.out]
     ·rw[Xr e]
      by_cases X:i<q
      ·rw[Xs X,Xs (by omega)]
      ·rw[Xr X,Xr (by omega)])
    have PB:Hid (Below w.heap.size w (W.setCell ⟨g,q,none⟩ (Iv d))):=(a.out.trans (r.out.mono a.out.size)).setCell (p:=⟨g,q,none⟩) S.out _;have HK:=Qc f;clear f z t a r Y;generalize numCell l q q=ab at B;go_wp2_with (go_at_call 138;refine(ZF _).mono ?_;rintro e' w' ⟨rfl,m⟩;have m:=m.symm;subst m)
    go_roundw
    case rel =>
     refine⟨q+1,by omega,by go_num,PR.out,PB.out,fun j y v C=>?_⟩
     rcases Nat.lt_or_ge j q with h | h
     ·exact T.out j y h C
     ·have:j=q:=by omega
      subst this;rw[J.out] at C
      cases C
      exact HK.out
    case measure=>simp[intOf];omega
   ·have D:(k==1)=false:=by simpa using f
    have E:Hid (numsOf l=none):=numsOf_no (Zm J.out) f;clear f;go_wp2_with fail
    refine(Zj _).mono ?_
    rintro e' w' ⟨rfl,m⟩;subst m;exact⟨Yz,a.out.trans (r.out.mono a.out.size),by rw[E.out]⟩
  ·have L:q=n:=by omega
   subst L
   have E:Hid (numsOf l=some (l.map (·.n))):=numsOf_all (fun x u=>by
    obtain⟨j,v⟩:=List.getElem?_of_mem u
    exact T.out j x (by have:=(Zi v).1;have:=A.out;omega) v)
   go_wp2
   go_ret;exact⟨a.out,by rw[E.out];exact⟨g,Yz,Qmb A.out t.out ⟨S.out,by obtain⟨c,hc,_⟩:=t.out;exact⟨c,hc⟩⟩ H.out⟩⟩
end
def Qc6 (g:MG) (w:World) (b most:Nat) (m:List (MFunc 6)) (M:IM) (sc sa:Int) (r:Option IM) (e:Ending) (w':World):Prop:=match r with
 | none=>e=.panicked stuckP/\XTo g w w' b most m M sc sa
 | some M'=>(e=.returned (.tuple #[])/\XGo g w w' b most m M' sc sa)\/(∃ N k,M'=N.over k/\e=.panicked (QkR k)/\XTo g w w' b most m N sc sa)
theorem Ql.toEnd {g:MG}{w w':World}{b most:Nat}{m:List (MFunc 6)}{M:IM}{c a:Int}{r:Option IM}{e:Ending}(h:Ql g w b most m M c a r e w'):Qc6 g w b most m M c a r e w':=by
 cases r with
 | none=>exact h
 | some M'=>exact h.imp (fun k=>⟨k.1,k.2.go⟩) id
def IM.ret (fn:MFunc 6) (M:IM) (args:List Int):Option IM:=match Qp M.top.v args with
 | none=>none
 | some v=>if v.length=fn.results.length then (match M.rest with
  | d::rest=>some (IM.push { M with top:=d,rest:=rest } v)
  | []=>match Qat M.top.v args with
    | none=>none
    | some n=>some (IM.over { M with back:=n } 0))
  else none
def Qn4 (b c na ca g1 o1 nm cm fi nr cr:Nat) (pa pr:Option Addr) (t:Tmp) (v:Value) (w:World):Prop :=
 v=(([(0,Pv b 0),(1,Pv c 0),(2,.slice pa na ca),(7,.slice pa na ca),(8,Iv (na:Int)),(9,Pv b 0),(10,Pv b 0),(11,Pv b 1),(12,Pv b 1),(13,.slice (some ⟨g1,o1,none⟩) nm cm),(14,Pv c 0),(15,Pv c 0),(16,Pv c 0),(17,Iv (fi:Int)),(18,Pv g1 (o1+fi*4)),(19,Pv g1 (o1+fi*4+2)),(20,.slice pr nr cr),(21,Iv (nr:Int)),(22,.bool ((na:Int)==(nr:Int)))]:List (Tmp × Value)).lookup t).getD undef
theorem iv0 {b g f k l p:Nat}{o:Option Addr}(B:w6.cell? ⟨b,1,none⟩=some (.slice (some ⟨g,f,none⟩) k cm)) (s:w6.cell? ⟨c,0,none⟩=some (Iv (fi:Int))) (r:w6.cell? ⟨g,f+fi*4+2,none⟩=some (.slice o l p)) (A:(fi:Int)<k){Q:Exit->Act->World->Prop}
 (a:Act) (m:Nat) (hn:a.tmps.size=m) (i:58<=m) (x:a.tmps.getD 0 undef=Pv b 0) (z:a.tmps.getD 1 undef=Pv c 0) (y:a.tmps.getD 2 undef=.slice pa na ca)
 (hend:∀ ops vs w',vs 22=.bool ((na:Int)==(l:Int))->Below w6.heap.size w6 w'->wpList prog ops Q (QaR 16 ((Tryz.f134.body.bind (Qg 0)).getD .skip)) (QI a vs [7,8,9,10,11,12,13,14,15,16,17,18,19,20,21,22]) w') :
 Code.wp prog ((Tryz.f134.body.bind (Qg 0)).getD .skip) Q a w6:=by
 conv=>arg 2;whnf
 refine Qm 16 (Qn4 b c na ca g f k cm fi l p pa o) (fun w=>Below w6.heap.size w6 w) (fun w w'=>Below w.heap.size w w') (outs:=[0,1,2]) (gs:=[]) (bs:=[true,true,true,true,true,true,true,true,true,true,true,true,true,true,true,true]) (by kernel_rfl) (n:=58) hn i (by kernel_rfl) (by kernel_rfl) ?hR ?hG (Qs Zr 1) ⟨x,z,y,Y⟩ ?hA ?hend
 case hR=>exact fun t v w w' _ h=>h
 case hG=>exact Y
 case hend=>exact fun ops vs w' d e=>hend ops vs w' (e 22 (by kernel_rfl)) d
 case hA =>
  repeat
   refine⟨fun a w d e K q=>?_,?_⟩
   focus first
    | obtain⟨j,-⟩:=e
      conv at j=>whnf;rhs;whnf
      have C:=Qo B d;have D:=Qo s d;have E:=Qo r d;go_simp;exact q _ _ Zr d Z
    | obtain⟨j,u,-⟩:=e
      conv at j=>whnf;rhs;whnf
      conv at u=>whnf;rhs;whnf
      go_simp;exact q _ _ Zr d Z
  trivial
def Qn6 (b gc k cap:Nat) (t:Tmp) (v:Value) (w:World):Prop :=
 v=(([(0,Pv b 0),(40,Pv b 0),(41,Pv b 0),(42,Pv b 0),(43,Pv b 4),(44,.slice (some ⟨gc,0,none⟩) (k+1) cap),(45,Pv b 0),(46,Pv b 0),(47,Pv b 4),(48,.slice (some ⟨gc,0,none⟩) (k+1) cap),(49,Iv ((k:Int)+1)),(50,Iv (k:Int)),(51,.slice (some ⟨gc,0,none⟩) k cap),(52,Pv b 0),(53,Pv b 4)]:List (Tmp × Value)).lookup t).getD undef
theorem iv5 {b g:Nat}(l:w6.cell? ⟨b,4,none⟩=some (.slice (some ⟨g,0,none⟩) (k+1) cap)) (c:k+1<=cap) (o:k<=1000){Q:Exit->Act->World->Prop}
 (a:Act) (m:Nat) (hn:a.tmps.size=m) (i:58<=m) (p:a.tmps.getD 0 undef=Pv b 0)
 (hend:∀ ops vs w',vs 51=.slice (some ⟨g,0,none⟩) k cap->vs 53=Pv b 4->Below w6.heap.size w6 w'->wpList prog ops Q (QaR 14 ((Tryz.f134.body.bind (Qg 5)).getD .skip)) (QI a vs [40,41,42,43,44,45,46,47,48,49,50,51,52,53]) w') :
 Code.wp prog ((Tryz.f134.body.bind (Qg 5)).getD .skip) Q a w6:=by
 conv=>arg 2;whnf
 refine Qm 14 (Qn6 b g k cap) (fun w=>Below w6.heap.size w6 w) (fun w w'=>Below w.heap.size w w') (outs:=[0]) (gs:=[]) (bs:=[true,true,true,true,true,true,true,true,true,true,true,true,true,true]) (by kernel_rfl) (n:=58) hn i (by kernel_rfl) (by kernel_rfl) ?hR ?hG (Qs Zr 1) ⟨p,Y⟩ ?hA ?hend
 case hR=>exact fun t v w w' _ h=>h
 case hG=>exact Y
 case hend=>exact fun ops vs w' d c=>hend ops vs w' (c 51 (by kernel_rfl)) (c 53 (by kernel_rfl)) d
 case hA =>
  repeat
   refine⟨fun a w d c K f=>?_,?_⟩
   focus first
    | obtain⟨e,-⟩:=c
      conv at e=>whnf;rhs;whnf
      have s:=Qo l d;go_simp;exact f _ _ Zr d Z
    | obtain⟨e,r,-⟩:=c
      conv at e=>whnf;rhs;whnf
      conv at r=>whnf;rhs;whnf
      have j:(0:Int)<=k:=by omega
      have q:(k:Int)<=cap:=by omega
      go_simp;exact f _ _ Zr d Z
    | obtain⟨e,-⟩:=c
      conv at e=>whnf;rhs;whnf
      have u:(k:Int)+1 - 1=k:=by omega
      go_simp;refine f _ _ Zr d ?_;show Value.int _ _=Value.int _ _;congr 1
      rw[IntKind.wrap_i64]
      omega
  trivial
section
variable {w w' w2:World}{b most n:Nat}{m:List (MFunc 6)}{M M' N:IM}{sc sa:Int}{g g1:MG}{e:Ending}
theorem QkC {w:World}{g n:Nat}{l:List Qj}(hn:l.length=n) (h:w.rowIs g 211 (n*4) (Zc l)):∀ (j:Nat) (u:Value),(vFlat l)[j]?=some u->w.cell? ((⟨g,0,none⟩:Addr).add j)=some u:=by
 intro j u a;have b:=(Zi a).1;rw[vFlat_len,hn] at b
 rw[Addr.add_lit,XK,h.cell b,<-a]
 have c:l[j / 4]?=some l[j / 4]:=Zg (by omega)
 have:=vFlat_at l (j / 4) (j%4) _ c (by omega)
 rw[show j / 4*4+j%4=j by omega] at this
 rw[this]
 unfold Zc;simp[List.getD,c]
theorem Qii (S:MAt w b most m M sc sa g) (I:Qai n M) (hd:M.rest.length<=39) (ab:∀ d∈M.rest,d.v.length+8<=1000000){fn:MFunc 6}(hf:m[M.top.f]?=some fn) (hs:m.length<=1000/\fn.results.length<=1000)
  {args:List Int}   (hA:intsL.In w Q2 args [.slice pa args.length ca]) (hn:args.length<=8) :
 Calls prog 134 #[Pv b 0,Pv g.t.c 0,.slice pa args.length ca] w fun e w'=>Qc6 g w b most m M sc sa (IM.ret fn M args) e w':=by
 have E:=Qc (show IM.ret fn M args=match Qp M.top.v args with | none=>none | some v=>if v.length=fn.results.length then (match M.rest with | d::rest=>some (IM.push { M with top:=d,rest:=rest } v) | []=>match Qat M.top.v args with | none=>none | some n=>some (IM.over { M with back:=n } 0)) else none from Z);generalize IM.ret fn M args=G at E |-;obtain⟨g1,o1,f,e1,E1,ao⟩:=Qdj S.mod hf
 have r2:w.cell? ⟨g1,o1+M.top.f*4+2,none⟩=some (.slice f.pR fn.results.length f.cR):=E1 2 _ Z;have q1:w.cell? ⟨b,1,none⟩=some (.slice g.pm m.length g.cm):=Qa S.box 1 _ Z;rw[e1] at q1
 have f0:=Qa S.top.1 0 _ Z;have az:=(Zi hf).1;have ak:(M.top.f:Int)<m.length:=by omega
 have p:=Qc S;have HI:=Qc I;have ar:=Qc ab;have HA:=Qc hA;have CA:Hid (∀ u,Below w.heap.size w u->Calls prog 142 #[Pv g.t.c 0,.slice pa args.length ca] u fun e w'=>Qcj u (Qp M.top.v args) args.length e w'):=fun u bx=>Qeh (S.top.below bx) (by have:=I.len;omega) Z (by omega) (Ya hA bx);clear S I ab hA ao E1 e1 hf;go_enter func134,ntmps134
 go_upto_region 0 with fail
 refine iv0 q1 f0 r2 ak _ _ Z (Xg (by kernel_rfl)) Z Z Z ?_;rintro P vs w5 H b5;show wpList _ P _ [_] (QI _ vs [7,8,9,10,11,12,13,14,15,16,17,18,19,20,21,22]) w5;simp only[QI,Act.put,List.setIfInBounds_toArray,List.set_cons_zero,List.set_cons_succ,H]
 have B5:=Qc b5;clear H b5 q1 f0 r2 ak;by_cases hr:args.length=fn.results.length
 rotate_left
 ·have d1:((args.length:Int)==(fn.results.length:Int))=false:=by simp;omega
  have r:Hid (G=none):=by
   show _=_;rw[E.out]
   cases A:Qp M.top.v args with
   | none=>rfl
   | some v=>simp only;rw[Xr (by rw[Q8 _ _ A];exact hr)]
  rw[d1]
  go_wp2_with fail
  refine(Zj _).mono ?_
  rintro T w' ⟨rfl,hw⟩;subst hw;exact⟨Z,by rw[r.out];exact⟨Z,XTo.same p.out B5.out⟩⟩
 have d1:((args.length:Int)==(fn.results.length:Int))=true:=by simp[hr]
 rw[d1]
 have HR:=Qc hr;clear d1 hr;go_upto_region 1 with (go_at_call 138;refine(ZF _).mono ?_;rintro T w' ⟨rfl,hw⟩;have hw:=hw.symm;subst hw)
 have C5:=Qc (CA.out w5 B5.out);go_wp2_with fail
 refine C5.out.mono ?_;rintro T w6 h6;obtain⟨b6,h6⟩:=h6.split
 have C:=Qc (B5.out.trans (b6.mono B5.out.size));rcases h6 with ⟨s,U,A,rfl,aj,K⟩|⟨A,rfl⟩
 rotate_left
 ·exact⟨Z,by rw[E.out,A];exact⟨Z,XTo.same p.out C.out⟩⟩
 have O:=Q8 _ _ A;have S6:=Qc (p.out.below C.out);have i:=Qc K;have N:=Qc O
 have r:Hid (G=match M.rest with | d::rest=>some (IM.push { M with top:=d,rest:=rest } s) | []=>match numsOf s with | none=>none | some n=>some (IM.over { M with back:=n } 0)):=by
  show _=_;rw[E.out,A]
  simp only
  rw[Xs (by rw[O];exact HR.out),QdD _ A]
 have ai:Hid (∀ x∈s,Zp x.n):=by
  intro x Q
  have:∀ {l:List Int} {z:List Qj},Qp M.top.v l=some z->∀ x∈z,x∈M.top.v:=by
   intro l
   induction l with
   | nil=>intro z h x Q;simp[Qp] at h;subst h;simp at Q
   | cons k l ih =>
     intro z h x Q;simp only[Qp] at h
     cases o:Qz M.top.v k with
     | none=>rw[o] at h;cases h
     | some y =>
       rw[o] at h
       simp only at h
       cases hl:Qp M.top.v l with
       | none=>rw[hl] at h;cases h
       | some zs =>
         rw[hl] at h
         simp at h
         subst h;rcases List.mem_cons.1 Q with rfl | Q
         ·exact Qa5 o
         ·exact ih hl x Q
  exact(HI.out.gd x (this A x Q)).1.2.2.2
 have aw:Hid (w.heap.size<=U):=Zt B5.out.size aj;obtain⟨gc,cap,ev,ad,-⟩:=S6.out.callsForm
 have X:w6.cell? ⟨b,4,none⟩=some g.vc:=Qa S6.out.box 4 _ Z;rw[ev] at X
 clear A aj K b6 O C5 CA E HR B5
 cases hrest:M.rest with
 | nil =>
   rw[hrest] at X
   simp only[List.length_nil,Nat.zero_add] at X
   have r:Hid (G=match numsOf s with | none=>none | some n=>some (IM.over { M with back:=n } 0)):=by
    show _=_;rw[r.out]
    split
    ·rename_i h;rw[hrest] at h;cases h
    ·rfl
   have CN:=Qc (QeS N.out (by omega) i.out ai.out);go_upto_region 3 with fail
   go_wp2_with fail
   refine CN.out.mono ?_;rintro T D ⟨W,F⟩;have V:=Qc (C.out.trans (W.mono C.out.size))
   cases hno:numsOf s with
   | none =>
     rw[hno] at F r
     have F:T=.panicked stuckP:=F;subst F;exact⟨Z,by rw[r.out];exact⟨Z,XTo.same p.out V.out⟩⟩
   | some ns =>
     rw[hno] at F r
     have F:∃ g7,T=.returned (.slice (some ⟨g7,0,none⟩) args.length args.length)/\intsL.In D (fun x=>w6.heap.size<=x/\∃ c,D.heap[x]?=some (.cells c 2 (0,0))) ns [.slice (some ⟨g7,0,none⟩) args.length args.length]:=F;obtain⟨g7,rfl,I7⟩:=F
     have j:=Qc (p.out.below V.out);have c6:D.cell? ⟨b,6,none⟩=some g.vb:=Qa j.out.box 6 _ Z;have z6:=Qe j.out.box 6;have aq:=j.out.back;obtain⟨a0,au,e0,-⟩:=aq
     have al:g.vb=.slice a0 M.back.length au:=by simpa using e0
     rw[al] at c6
     have R:Hid (XTo g w (D.setCell ⟨b,6,none⟩ (.slice (some ⟨g7,0,none⟩) args.length args.length)) b most m { M with back:=ns } sc sa):=by
      refine XTo.then (p.out.stepB V.out) Z Z (j.out.reBox (M':={ M with back:=ns }) (sc':=sc) (sa':=sa) Z Z Z (by simp) (fun k o h1=>Xd _ _ _ _ h1) ⟨Z,Z,Z,Z⟩ (pi:=g.pi) (ci:=g.ci) (vb:=.slice (some ⟨g7,0,none⟩) args.length args.length) ⟨j.out.inp,j.out.inpC⟩ ?_ (by
       rw[Qh j.out.box 6 _]
       rfl))
      have ag:∀ k,w6.heap.size<=k->k≠b:=fun k o e=>by have:=XC S6.out.box;omega
      refine intsL.keep (fun k o hl=>Xd _ _ _ _ (ag k o.1)) (fun k o _=>⟨⟨fun hA=>?_,?_⟩,?_⟩) I7
      ·have:=p.out.lt k hA
       have:=C.out.size
       have:=o.1
       omega
      ·have h1:=p.out.low;have h2:=C.out.size;have h3:=o.1;show g.lo<=k;omega
      ·obtain⟨c,hc⟩:=o.2
       exact⟨c,(Xd _ _ _ _ (ag k o.1)).trans hc⟩
     clear CN X I7 j e0 W F;go_wp2
     exact⟨Z,by rw[r.out];exact .inr ⟨{ M with back:=ns },0,Z,Z,R.out⟩⟩
 | cons d rest =>
   have r:Hid (G=some (IM.push { M with top:=d,rest:=rest } s)):=by
    show _=_;rw[r.out]
    split
    ·rename_i h;rw[hrest] at h;cases h;rfl
    ·rename_i h;rw[hrest] at h;cases h
   have ac:M.rest.length=rest.length+1:=by rw[hrest];simp
   have ax:(((M.rest.length+1:Nat):Int)==1)=false:=by simp;omega
   have ay:=ar.out d (by rw[hrest];simp);have aa:=Qc hrest;have ah:=Qc ev;clear hrest;generalize an:M.rest.length=kk at *;have af:=Qc an;have am:=Qc ac;clear ac;go_upto_region 5 with fail
   refine iv5 X ad (by omega) _ _ Z (Xg (by kernel_rfl)) Z ?_;rintro P av D J L W;show wpList _ P _ [_] (QI _ av [40,41,42,43,44,45,46,47,48,49,50,51,52,53]) D;simp only[QI,Act.put,List.setIfInBounds_toArray,List.set_cons_zero,List.set_cons_succ,J,L]
   have V:=Qc (C.out.trans (W.mono C.out.size));have j:=Qc (p.out.below V.out);have c4:D.cell? ⟨b,4,none⟩=some g.vc:=Qa j.out.box 4 _ Z;have z4:=Qe j.out.box 4;rw[ah.out] at c4
   have B:∃ y z,g.fs=y::z:=by
    have:=p.out.rows
    rw[aa.out] at this
    cases hh:g.fs with
    | nil=>rw[hh] at this;simp at this
    | cons y z=>exact⟨y,z,Z⟩
   obtain⟨y,z,B⟩:=B
   have PP:=j.out.pop B aa.out (a:=some ⟨gc,0,none⟩) (cap:=cap) (by rw[ah.out,af.out]);rw[af.out] at PP
   obtain⟨g8,S8,T8,t8⟩:=PP
   have S8:=Qc S8;have T8:=Qc ((p.out.stepB V.out).trans T8)
   have q:Hid ((D.setCell ⟨b,4,none⟩ (.slice (some ⟨gc,0,none⟩) kk cap)).rowIs U 211 (args.length*4) (Zc s)):=by
    have h1:=i.out.of_block (W.block U i.out.lt);exact h1.of_block (Xd _ _ _ _ (fun (e:U=b)=>by have:=XC p.out.box;have:=aw.out;omega))
   clear J L W j X C i t8 B;go_upto_region 6 with fail
   generalize D.setCell ⟨b,4,none⟩ (.slice (some ⟨gc,0,none⟩) kk cap)=w8 at S8 T8 q |-;have CT:=Qc (Qcx S8.out (by show rest.length<=1000;have:=am.out;omega));have CM:Hid (∀ u,Below w8.heap.size w8 u->Calls prog 144 #[Pv g8.t.c 0,.slice (some ⟨U,0,none⟩) args.length args.length] u fun e w'=>e=.returned (.tuple #[])/\XTo g8 u w' b most m (IM.push { M with top:=d,rest:=rest } s) sc sa):=fun u bx=>ZR (S8.out.below bx) (l:=s) N.out (QkC N.out (q.out.of_block (bx.block U q.out.lt))) (by show d.v.length+args.length<=1000000;omega);clear c4 z4;go_wp2_with (go_at_call 85;refine CT.out.mono ?_;rintro T w9 ⟨rfl,b9⟩)
   refine(CM.out w9 b9).mono ?_
   rintro T ap ⟨rfl,ae⟩;have R:Hid (XGo g w ap b most m (IM.push { M with top:=d,rest:=rest } s) sc sa):=XGo.then (T8.out.trans (S8.out.stepB b9)) ae.go;clear ae CM CT b9;go_wp2
   exact Xz (v:=.tuple #[]) (by simp[results,results134,go_sem]) Z (by rw[r.out];exact .inl ⟨Z,R.out⟩)
end
def TRw (w:World) (O:Nat->Prop) (v:Value) (L:List (TT 6)):Prop :=
 ∃ xs,w.ownsRow 0 105 3 v L.length xs/\(∀ g,v.ownBlock=some g->O g)/\∀ i x,L[i]?=some x->(Lay.tt 6).In w (fun g=>¬ O g) x ((xs.drop (i*3)).take 3)
def TRd (w:World) (Q:Nat->Prop) (a:Option Addr) (L:List (TT 6)):Prop :=
 ∀ i t,L[i]?=some t->∃ g a' c',a=some ⟨g,0,none⟩/\w.cell? ⟨g,i*3,none⟩=some (Iv t.kind)/\w.cell? ⟨g,i*3+1,none⟩=some (Iv t.r)/\w.cell? ⟨g,i*3+2,none⟩=some (.slice a' t.len c')/\TIn w Q t a'/\t.ok
section
variable {w w':World}{O O':Nat->Prop}{v:Value}{L:List (TT 6)}
theorem TRw.keep (h:TRw w O v L) (hb:∀ k,k<w.heap.size->v.ownBlock=some k\/¬ O k->w'.heap[k]?=w.heap[k]?) (s:∀ k,v.ownBlock=some k->O' k) (f:∀ k,¬ O k->k<w.heap.size->¬ O' k):TRw w' O' v L:=by
 obtain⟨q,⟨p,m⟩,t,n⟩:=h
 refine⟨q,⟨p,?_⟩,s,fun i x j=>(Lay.tt 6).keep (fun k d a=>hb k a (.inr d)) (fun k d a=>f k d a) (n i x j)⟩
 rcases m with o | ⟨g,c,b,rfl,l,e,r⟩
 ·exact Or.inl o
 ·exact Or.inr ⟨g,c,b,Z,l,(hb g (XC e) (.inl Z)).trans e,r⟩
theorem TRw.lt (h:TRw w O v L)(a:v.ownBlock=some g):g<w.heap.size:=by
 obtain⟨l,⟨i,c⟩,k,f⟩:=h
 rcases c with ⟨rfl,_⟩|⟨j,e,d,rfl,_,b,r⟩
 ·simp[Value.ownBlock] at a
 ·simp[Value.ownBlock] at a;subst a;exact XC b
theorem TRw.block (h:TRw w O v L)(a:v.ownBlock=some g):∃ c,w.heap[g]?=some (.cells c 105 (0,0)):=by
 obtain⟨m,⟨j,e⟩,l,i⟩:=h
 rcases e with ⟨rfl,_⟩|⟨k,f,b,rfl,_,d,r⟩
 ·simp[Value.ownBlock] at a
 ·simp[Value.ownBlock] at a;subst a;exact⟨b,d⟩
theorem TRw.form (h:TRw w O v L):∃ a cap,v=.slice a L.length cap/\TRd w (fun g=>¬ O g) a L/\∃ xs,w.ownsRow 0 105 3 (.slice a L.length cap) L.length xs:=by
 obtain⟨xs,d,E,p⟩:=h
 obtain⟨D,s⟩:=id d
 rcases s with ⟨rfl,n⟩|⟨g,cap,m,rfl,_,z,C,A,B,y⟩
 ·have:L=[]:=Xf.1 n
  subst this;exact⟨none,0,Z,fun i t b=>by simp at b,xs,d⟩
 ·refine⟨some ⟨g,0,none⟩,cap,Z,fun i t b=>?_,xs,d⟩
  obtain⟨r,q,e,o,x⟩:=p i t b
  have l:i<L.length:=(Zi b).1
  have c:∀ j u,j<3->((xs.drop (i*3)).take 3)[j]?=some u->w.cell? ⟨g,i*3+j,none⟩=some u:=fun j u k f=>by
   rw[XR,Xs k,List.getElem?_drop,<-y,XR,Xs (by omega),Array.getElem?_toList] at f
   exact Qa z _ u f
  rw[e] at c
  exact⟨g,r,q,Z,c 0 _ (by omega) Z,c 1 _ (by omega) Z,c 2 _ (by omega) Z,o,x⟩
theorem TRd.below (h:TRd w Q a L) (b:Below w.heap.size w w'):TRd w' Q a L:=fun i t k=>by
 obtain⟨g,f,o,e,d,m,j,n,l⟩:=h i t k
 have c:g<w.heap.size:=Xi w ⟨g,i*3,none⟩ d;exact⟨g,f,o,e,(b.cell (p:=⟨g,i*3,none⟩) c).trans d,(b.cell (p:=⟨g,i*3+1,none⟩) c).trans m,(b.cell (p:=⟨g,i*3+2,none⟩) c).trans j,n.below b,l⟩
end
def KAt (w:World) (b:Nat) (O:Nat->Prop) (s:JSt):Prop :=
 ∃ pm cm a1 c1 a2 c2 a3 c3 h vL,w.heap[b]?=some (.cells #[.slice pm s.m.length cm,Iv s.f.regs,.slice a1 s.f.params.length c1,.slice a2 s.f.results.length c2,.slice a3 s.f.blocks.length c3,Pv h 0,vL] 175 (0,0)) /\
  (ZZ 6).In w (fun g=>¬ O g) s.m [.slice pm s.m.length cm]/\(ZW 6).In w (fun g=>¬ O g) s.f [Iv s.f.regs,.slice a1 s.f.params.length c1,.slice a2 s.f.results.length c2,.slice a3 s.f.blocks.length c3] /\
  QN w h O s.H/\TRw w O vL s.L/\O b
section
variable {w w':World}{b:Nat}{O O':Nat->Prop}{s:JSt}
theorem KAt.keep (h:KAt w b O s) (hb:∀ k,k<w.heap.size->w'.heap[k]?=w.heap[k]?) (d:∀ k,k<w.heap.size->(O k↔O' k)):KAt w' b O' s:=by
 obtain⟨r,q,x,m,B,o,y,p,h,z,l,u,A,v,j,n⟩:=h
 have f:=XC l
 refine⟨r,q,x,m,B,o,y,p,h,z,(hb b f).trans l,(ZZ 6).keep (fun k _ a=>hb k a) (fun k c a e=>c ((d k a).2 e)) u,(ZW 6).keep (fun k _ a=>hb k a) (fun k c a e=>c ((d k a).2 e)) A,
  v.keep (fun g _ i=>hb g i) (fun g i a=>(d g a).1 i),j.keep (fun k c _=>hb k c) (fun k c=>?_) (fun k c a e=>c ((d k a).2 e)),(d b f).1 n⟩
 have a:=j.lt c;obtain⟨E,C,t,D⟩:=j
 exact(d k a).1 (t k c)
theorem KAt.below (h:KAt w b O s) (k:Below w.heap.size w w'):KAt w' b O s:=h.keep (fun g a=>k.block g a) (fun _ _=>Iff.rfl)
theorem KAt.drewN (h:KAt w b O s) (n:Nat):KAt (w.drewN n) b O s:=h
theorem KAt.lt (h:KAt w b O s):b<w.heap.size:=by obtain⟨e,i,g,f,n,o,j,p,h,k,a,q,m,c,d,l⟩:=h;exact XC a
structure KRd (w:World) (b:Nat) (O:Nat->Prop) (s:JSt) (pm:Option Addr) (cm:Nat) (a1:Option Addr) (c1:Nat) (a2:Option Addr) (c2:Nat) (a3:Option Addr) (c3:Nat) (h:Nat) (aL:Option Addr) (cL:Nat):Prop where
 blk:w.heap[b]?=some (.cells #[.slice pm s.m.length cm,Iv s.f.regs,.slice a1 s.f.params.length c1,.slice a2 s.f.results.length c2,.slice a3 s.f.blocks.length c3,Pv h 0,.slice aL s.L.length cL] 175 (0,0))
 mod:(ZZ 6).In w (fun g=>¬ O g) s.m [.slice pm s.m.length cm]
 fn:(ZW 6).In w (fun g=>¬ O g) s.f [Iv s.f.regs,.slice a1 s.f.params.length c1,.slice a2 s.f.results.length c2,.slice a3 s.f.blocks.length c3]
 holds:QN w h O s.H
 row:TRd w (fun g=>¬ O g) aL s.L
theorem KAt.read (h:KAt w b O s):∃ pm cm a1 c1 a2 c2 a3 c3 h aL cL,KRd w b O s pm cm a1 c1 a2 c2 a3 c3 h aL cL:=by
 obtain⟨pm,cm,a1,c1,a2,c2,a3,c3,h,j,g,e,d,a,c,i⟩:=h
 obtain⟨aL,cL,rfl,f,_⟩:=c.form
 exact⟨pm,cm,a1,c1,a2,c2,a3,c3,h,aL,cL,g,e,d,a,f⟩
theorem KRd.below {c:Option Addr}{a:Nat}{g:Option Addr}{i:Nat}{f:Option Addr}{j:Nat}{h:Nat}{l:Option Addr}{d:Nat}(k:KRd w b O s pm cm c a g i f j h l d) (e:Below w.heap.size w w'):KRd w' b O s pm cm c a g i f j h l d :=
 ⟨(e.block b (XC k.blk)).trans k.blk,Ya k.mod e,Ya k.fn e,k.holds.below e,k.row.below e⟩
theorem KRd.cells {c:Option Addr}{a:Nat}{g:Option Addr}{i:Nat}{e:Option Addr}{j:Nat}{h:Nat}{l:Option Addr}{d:Nat}(k:KRd w b O s pm cm c a g i e j h l d) :
 w.cell? ⟨b,0,none⟩=some (.slice pm s.m.length cm)/\w.cell? ⟨b,1,none⟩=some (Iv s.f.regs)/\w.cell? ⟨b,2,none⟩=some (.slice c s.f.params.length a)/\w.cell? ⟨b,3,none⟩=some (.slice g s.f.results.length i)/\w.cell? ⟨b,4,none⟩=some (.slice e s.f.blocks.length j)/\w.cell? ⟨b,5,none⟩=some (Pv h 0)/\w.cell? ⟨b,6,none⟩=some (.slice l s.L.length d) :=
 ⟨Qa k.blk 0 _ Z,Qa k.blk 1 _ Z,Qa k.blk 2 _ Z,Qa k.blk 3 _ Z,Qa k.blk 4 _ Z,Qa k.blk 5 _ Z,Qa k.blk 6 _ Z⟩
end
structure QeG (w:World) (lo:Nat) (v:Value){n:Nat}(l:List (TT n)) (xs:List Value):Prop where
 own:w.ownsRow lo 105 3 v l.length xs
 kids:∀ (i:Nat) (x:TT n),l[i]?=some x->∃ a c,xs[i*3]?=some (Iv x.kind)/\xs[i*3+1]?=some (Iv x.r)/\xs[i*3+2]?=some (.slice a x.len c)/\TIn w (But lo v) x a
theorem QeG.nil (w:World) (lo:Nat):QeG w lo (Nv) ([]:List (TT n)) [] :=
 ⟨⟨Z,Or.inl ⟨Z,Z⟩⟩,fun i x h=>by simp at h⟩
theorem QeG.lin {lo:Nat}{l:List (TT n)}(h:QeG w lo v l xs):∃ a c,v=.slice a l.length c/\LIn w (Qb1 lo) l a:=by
 obtain⟨⟨H,s⟩,z⟩:=h
 rcases s with ⟨rfl,q⟩|⟨g,t,f,rfl,m,A,F,D,E,y⟩
 ·have:l=[]:=Xf.1 q
  subst this;exact⟨none,0,Z,LIn.nil⟩
 ·refine⟨_,_,Z,fun i x e=>?_⟩
  obtain⟨a,c,p,B,o,r⟩:=z i x e
  have G:i<l.length:=(Zi e).1
  have b:∀ j u,xs[j]?=some u->w.cell? ⟨g,j,none⟩=some u:=fun j u d=>by
   rw[<-y,XR] at d
   split at d
   ·exact Qa A j u (by rw[<-Array.getElem?_toList];exact d)
   ·cases d
  refine⟨g,0,a,c,Z,m,?_,?_,?_,r.mono (fun k C _=>C.1)⟩
  ·rw[XK];exact b _ _ p
  ·rw[XK];exact b _ _ B
  ·rw[XK];exact b _ _ o
theorem QeG.below {lo:Nat}{l:List (TT n)}(h:QeG w lo v l xs) (b:Below w.heap.size w w'):QeG w' lo v l xs:=by
 obtain⟨⟨u,o⟩,y⟩:=h
 refine⟨⟨u,?_⟩,fun i x k=>?_⟩
 ·rcases o with s | ⟨g,f,d,e,m,j,r⟩
  ·exact Or.inl s
  ·exact Or.inr ⟨g,f,d,e,m,(b.block g (XC j)).trans j,r⟩
 ·obtain⟨a,c,q,t,p,z⟩:=y i x k
  exact⟨a,c,q,t,p,z.below b⟩
theorem QeG.lo_le {lo:Nat}{l:List (TT n)}(h:QeG w lo v l xs)(b:v.ownBlock=some g):lo<=g/\g<w.heap.size:=by
 obtain⟨⟨j,d⟩,m⟩:=h
 rcases d with ⟨rfl,i⟩|⟨k,f,e,rfl,a,c,r⟩
 ·simp[Value.ownBlock] at b
 ·simp[Value.ownBlock] at b;subst b;exact⟨a,XC c⟩
theorem QeG.push {lo:Nat}{l:List (TT n)}(h:QeG w lo v l xs){x:TT n}(u:TIn w (But lo v) x a)
  (C:w.grownBy w' v.ownBlock) (q:v.ownBlock=some g\/g=w.heap.size)
 (z:w'.ownsRow lo 105 3 (.slice (some ⟨g,0,none⟩) (l.length+1) cap) (l.length+1) (xs++[Iv x.kind,Iv x.r,.slice a x.len c])) :
 QeG w' lo (.slice (some ⟨g,0,none⟩) (l.length+1) cap) (l++[x]) (xs++[Iv x.kind,Iv x.r,.slice a x.len c]):=by
 obtain⟨F,G⟩:=h
 have m:=F.1
 have f:∀ {y:TT n} {b:Option Addr},TIn w (But lo v) y b->TIn w' (But lo (.slice (some ⟨g,0,none⟩) (l.length+1) cap)) y b:=fun j=>by
  refine j.keep (fun k o s=>?_) (fun k o s=>⟨o.1,?_⟩)
  ·exact C.block k s (fun e=>o.2 e.symm)
  ·simp only[Value.ownBlock,ne_eq,Option.some.injEq]
   intro e;subst e;rcases q with t | t
   ·exact o.2 t
   ·omega
 refine⟨by rw[List.length_append];exact z,fun i y j=>?_⟩
 rw[List.getElem?_append] at j
 split at j
 ·rename_i A
  obtain⟨b,d,D,E,B,H⟩:=G i y j
  refine⟨b,d,?_,?_,?_,f H⟩
  ·rw[XP (by omega)];exact D
  ·rw[XP (by omega)];exact E
  ·rw[XP (by omega)];exact B
 ·rename_i A
  have p:i=l.length:=by
   have:=(Zi j).1
   simp at this
   omega
  subst p;simp at j
  subst j;refine⟨a,c,?_,?_,?_,f u⟩
  ·rw[XQ (by omega),m,Nat.sub_self];rfl
  ·rw[XQ (by omega),m,Nat.add_sub_cancel_left];rfl
  ·rw[XQ (by omega),m,Nat.add_sub_cancel_left];rfl
theorem underTs:prog.underlying 80=some (.slice 105):=by kernel_rfl
theorem infoT:(prog.info? 105).map (fun i=>(i.zero,i.size,i.bytes))=some (some (.agg #[Iv 0,Iv 0,Nv]),3,40):=by kernel_rfl
theorem infoT_parts:∃ i,prog.info? 105=some i/\i.zero=some (.agg #[Iv 0,Iv 0,Nv])/\i.size=3/\i.bytes=40:=by
 have h:=infoT
 cases hi:prog.info? 105 with
 | none=>rw[hi] at h;cases h
 | some i=>rw[hi] at h;simp at h;exact⟨i,Z,h.1,h.2.1,h.2.2⟩
structure Bx2 (w wr:World) (k r:Int) (a:Option Addr) (len c:Nat):Prop where
 bel:Below w.heap.size w wr
 box:wr.heap[w.heap.size]?=some (.cells #[Iv k,Iv r,.slice a len c] 105 (0,0))
 res:wr.heap[w.heap.size+1]?=some (.cells #[Iv 0,Iv 0,Nv] 105 (0,0))
theorem Bx2.start (w:World) (k r:Int) (a:Option Addr) (len c:Nat):Bx2 w ((w.alloc (.cells #[Iv k,Iv r,.slice a len c] 105)).alloc (.cells #[Iv 0,Iv 0,Nv] 105)) k r a len c :=
 ⟨((Below.refl _ w).alloc Ze _).alloc (by simp) _,(Below.heap_alloc _ _ _ (by simp)).trans (Qf w _ _),by have:=Qf (w.alloc (.cells #[Iv k,Iv r,.slice a len c] 105)) #[Iv 0,Iv 0,Nv] 105;simpa using this⟩
theorem Bx2.below {k r:Int}{len:Nat}(h:Bx2 w wr k r a len c) (b:Below wr.heap.size wr w'):Bx2 w w' k r a len c :=
 ⟨h.bel.trans (b.mono h.bel.size),Qax h.box b,Qax h.res b⟩
theorem Bx2.stored {k r:Int}{len:Nat}(h:Bx2 w wr k r a len c) (e d:Int) (a':Option Addr) (b c':Nat) :
 (((wr.setCell ⟨w.heap.size+1,0,none⟩ (Iv e)).setCell ⟨w.heap.size+1,1,none⟩ (Iv d)).setCell ⟨w.heap.size+1,2,none⟩ (.slice a' b c')).heap[w.heap.size+1]?=some (.cells #[Iv e,Iv d,.slice a' b c'] 105 (0,0)) /\
 Below w.heap.size w (((wr.setCell ⟨w.heap.size+1,0,none⟩ (Iv e)).setCell ⟨w.heap.size+1,1,none⟩ (Iv d)).setCell ⟨w.heap.size+1,2,none⟩ (.slice a' b c')):=by
 refine⟨?_,((h.bel.setCell (by simp) _).setCell (by simp) _).setCell (by simp) _⟩
 have g:=Qh h.res 0 (Iv e);have f:=Qh g 1 (Iv d);have i:=Qh f 2 (.slice a' b c');simpa using i
def QkQ (w:World) (b:Option Addr) (m:Nat) (nm:Nat->Int):Prop:=∀ i,i<m->∃ g o,b=some ⟨g,o,none⟩/\w.cell? ⟨g,o+i,none⟩=some (Iv (nm i))
theorem QkQ.below {b:Option Addr}{a:Nat->Int}(h:QkQ w b m a) (k:Below w.heap.size w w'):QkQ w' b m a:=fun i d=>by
 obtain⟨g,o,e,c⟩:=h i d
 exact⟨g,o,e,(k.cell (p:=⟨g,o+i,none⟩) (Xi w ⟨g,o+i,none⟩ c)).trans c⟩
def Qok (o:Option Int) (e:Ending):Prop:=match o with
 | some v=>e=.returned (.tuple #[.int .i64 v,.bool true])
 | none=>e=.returned (.tuple #[.int .i64 0,.bool false])
theorem QfQ (k r:Int) (a:Option Addr) (len c:Nat) (b:Option Addr) (m d:Nat) (f:Nat->Int) (w:World) (i:QkQ w b m f) :
 Calls prog 290 #[.agg #[Iv k,Iv r,.slice a len c],.slice b m d] w fun e w'=>Qok (Qay m f k r) e/\Below w.heap.size w w':=by
 have q:Hid (QkQ w b m f):=i;clear i;by_cases h:k=1
 ·subst h;rw[show Qay m f 1 r=some r by simp[Qay]]
  go_enter func290,ntmps290
  go_wp2_with fail
  go_ret2;exact⟨Z,(Below.refl _ w).alloc Ze _⟩
 ·have t:(k==1)=false:=by simpa using h
  rcases (show r<0\/(0<=r/\(m:Int)<=r)\/(0<=r/\r<m) by omega) with l | ⟨l,s⟩|⟨l,s⟩
  ·rw[show Qay m f k r=none by unfold Qay;rw[Xr h,Xs (Or.inl l)]]
   clear h;go_enter func290,ntmps290
   go_wp2_with fail
   go_ret2;exact⟨Z,(Below.refl _ w).alloc Ze _⟩
  ·rw[show Qay m f k r=none by unfold Qay;rw[Xr h,Xs (Or.inr s)]]
   clear h;have u:¬ r<0:=by omega
   go_enter func290,ntmps290
   go_wp2_with fail
   go_ret2;exact⟨Z,(Below.refl _ w).alloc Ze _⟩
  ·obtain⟨j,rfl⟩:=Xc l
   obtain⟨g,o,rfl,p⟩:=q.out j (by omega)
   have x:g<w.heap.size:=Xi w ⟨g,o+j,none⟩ p;have u:¬ (j:Int)<0:=by omega
   have y:¬ (m:Int)<=j:=by omega
   by_cases n:f j<0
   ·rw[show Qay m f k j=none by unfold Qay;rw[Xr h,Xr (by omega),Xs (by simpa using n)]]
    clear h;generalize f j=v at p n;go_enter func290,ntmps290
    go_wp2_with fail
    go_ret2;exact⟨Z,(Below.refl _ w).alloc Ze _⟩
   ·rw[show Qay m f k j=some (f j) by unfold Qay;rw[Xr h,Xr (by omega),Xr (by simpa using n)];rfl]
    clear h;generalize f j=v at p n |-;go_enter func290,ntmps290
    go_wp2_with fail
    go_ret2;exact⟨Z,(Below.refl _ w).alloc Ze _⟩
structure Qcv (w:World) (G len:Nat){n:Nat}(l:List (TT n)):Prop where
 row:∃ cur,w.heap[G]?=some (.cells cur 105 (0,0))/\cur.size=len*3/\∀ (i:Nat) (x:TT n),l[i]?=some x->∃ a c,cur[i*3]?=some (Iv x.kind)/\cur[i*3+1]?=some (Iv x.r)/\cur[i*3+2]?=some (.slice a x.len c)/\TIn w (Qb1 (G+1)) x a
theorem Qcv.below {len:Nat}{l:List (TT n)}(h:Qcv w G len l) (b:Below w.heap.size w w'):Qcv w' G len l:=by
 obtain⟨d,e,g,o⟩:=h.row
 refine⟨d,(b.block G (XC e)).trans e,g,fun i x f=>?_⟩
 obtain⟨a,c,k,m,j,p⟩:=o i x f
 exact⟨a,c,k,m,j,p.below b⟩
theorem Qcv.lt {len:Nat}{l:List (TT n)}(h:Qcv w G len l):G<w.heap.size:=by
 obtain⟨b,a,c,d⟩:=h.row
 exact XC a
theorem Qcv.frozen {len:Nat}{l:List (TT n)}(h:Qcv w G len l) (i:Nat):w.frozen? ⟨G,i,none⟩=false:=by
 obtain⟨b,a,c,d⟩:=h.row
 exact Qe a i
theorem Qcv.has {len:Nat}{l:List (TT n)}(h:Qcv w G len l) (i:Nat) (hi:i<len*3):∃ v,w.cell? ⟨G,i,none⟩=some v:=by
 obtain⟨a,b,c,d⟩:=h.row
 exact⟨a[i]'(by omega),Qa b i _ (Xj (by omega))⟩
theorem Qcv.lin {len:Nat}{l:List (TT n)}(h:Qcv w G len l):LIn w (Qb1 G) l (some ⟨G,0,none⟩):=by
 obtain⟨g,b,p,m⟩:=h.row
 intro i x d;obtain⟨a,c,f,j,e,o⟩:=m i x d
 refine⟨G,0,a,c,Z,Ze,?_,?_,?_,o.mono (fun k q _=>by omega)⟩
 ·rw[XK];exact Qa b _ _ f
 ·rw[XK];exact Qa b _ _ j
 ·rw[XK];exact Qa b _ _ e
theorem Qcv.set {len:Nat}{l:List (TT n)}(h:Qcv w G len l) (o:l.length=q) (E:q<len){x:TT n}(j:TIn w (Qb1 (G+1)) x a) :
 Qcv (((w.setCell ⟨G,q*3,none⟩ (Iv x.kind)).setCell ⟨G,q*3+1,none⟩ (Iv x.r)).setCell ⟨G,q*3+2,none⟩ (.slice a x.len c)) G len (l++[x]):=by
 obtain⟨s,z,k,B⟩:=h.row
 have D:=Qh z (q*3) (Iv x.kind);have A:=Qh D (q*3+1) (Iv x.r);have v:=Qh A (q*3+2) (.slice a x.len c)
 have e:∀ {y:TT n} {b:Option Addr},TIn w (Qb1 (G+1)) y b->TIn (((w.setCell ⟨G,q*3,none⟩ (Iv x.kind)).setCell ⟨G,q*3+1,none⟩ (Iv x.r)).setCell ⟨G,q*3+2,none⟩ (.slice a x.len c)) (Qb1 (G+1)) y b :=
  fun f=>((f.setCell (by simp) _).setCell (by simp) _).setCell (by simp) _
 refine⟨_,v,by simp[k],fun i y f=>?_⟩
 rw[List.getElem?_append] at f
 split at f
 ·rename_i m
  obtain⟨b,d,t,u,p,C⟩:=B i y f
  refine⟨b,d,?_,?_,?_,e C⟩
  ·simp only[Array.getElem?_setIfInBounds]
   rw[Xr (by omega),Xr (by omega),Xr (by omega)];exact t
  ·simp only[Array.getElem?_setIfInBounds]
   rw[Xr (by omega),Xr (by omega),Xr (by omega)];exact u
  ·simp only[Array.getElem?_setIfInBounds]
   rw[Xr (by omega),Xr (by omega),Xr (by omega)];exact p
 ·rename_i m
  have g:i=q:=by
   have:=(Zi f).1
   simp at this
   omega
  subst g;simp[o] at f
  subst f;refine⟨a,c,?_,?_,?_,e j⟩
  ·simp only[Array.getElem?_setIfInBounds,Array.size_setIfInBounds]
   rw[Xr (by omega),Xr (by omega),Xs Y,Xs (by omega)]
  ·simp only[Array.getElem?_setIfInBounds,Array.size_setIfInBounds]
   rw[Xr (by omega),Xs Y,Xs (by omega)]
  ·simp only[Array.getElem?_setIfInBounds,Array.size_setIfInBounds]
   rw[Xs Y,Xs (by omega)]
abbrev zeroT:Value:=.agg #[Iv 0,Iv 0,Nv]
def QgH {n:Nat}(w w':World) (o:Option (TT n)) (e:Ending):Prop:=match o with
 | some u=>∃ a' c',e=.returned (.tuple #[Tv u a' c',.bool true])/\TIn w' (Qb1 w.heap.size) u a'/\Below w.heap.size w w'
 | none=>e=.returned (.tuple #[zeroT,.bool false])/\Below w.heap.size w w'
def Qmy (f n:Nat):Prop:=∀ (t:TT n) (a:Option Addr) (c:Nat) (b:Option Addr) (m d:Nat) (nm:Nat->Int) (w:World),TIn w All t a->t.count<=2000->QkQ w b m nm ->
 Calls prog f #[Tv t a c,.slice b m d] w fun e w'=>QgH w w' (t.ren m nm) e
theorem Qim (w:World) (len:Nat) (h:len<=2000):(Instr.makeSlice 80 (Iv len) (Iv len)).run prog w=.ok (.slice (some ⟨w.heap.size,0,none⟩) len len) (w.alloc (.cells (madeCells #[Iv 0,Iv 0,Nv] (len*3)) 105)):=by
 obtain⟨e,d,a,b,c⟩:=infoT_parts
 have:=run_make (P:=prog) w 80 105 e _ underTs d a .i64 .i64 len len (by omega) (by omega) (by rw[c];omega) (by omega)
 rw[b] at this
 exact this
structure RnX (w wr:World) (k r:Int) (a:Option Addr) (len c G:Nat){n:Nat}(l:List (TT n)):Prop where
 bx:Bx2 w wr k r a len c
 row:Qcv wr G len l
 hG:w.heap.size+1<G
section
variable {w wr w':World}{k r:Int}{a:Option Addr}{len c G n:Nat}{l:List (TT n)}
theorem RnX.start (h:Bx2 w wr k r a len c):RnX w (wr.alloc (.cells (madeCells #[Iv 0,Iv 0,Nv] (len*3)) 105)) k r a len c wr.heap.size ([]:List (TT n)) :=
 ⟨h.below ((Below.refl _ wr).alloc Ze _),⟨_,Qf wr _ _,size_madeCells _ _,fun i x b=>by simp at b⟩,XC h.res⟩
theorem RnX.below (h:RnX w wr k r a len c G l) (b:Below wr.heap.size wr w'):RnX w w' k r a len c G l:=⟨h.bx.below b,h.row.below b,h.hG⟩
theorem Bx2.setG (h:Bx2 w wr k r a len c) (b:w.heap.size+1<G) (i:Nat) (v:Value):Bx2 w (wr.setCell ⟨G,i,none⟩ v) k r a len c :=
 ⟨h.bel.setCell (by simp;omega) _,(Xd _ _ _ _ (by simp;omega)).trans h.box,(Xd _ _ _ _ (by simp;omega)).trans h.res⟩
theorem RnX.set (h:RnX w wr k r a len c G l)(d:l.length=q) (b:q<len){x:TT n}{a':Option Addr}{c':Nat}(e:TIn wr (Qb1 (G+1)) x a') :
 RnX w (((wr.setCell ⟨G,q*3,none⟩ (Iv x.kind)).setCell ⟨G,q*3+1,none⟩ (Iv x.r)).setCell ⟨G,q*3+2,none⟩ (.slice a' x.len c')) k r a len c G (l++[x]) :=
 ⟨((h.bx.setG h.hG _ _).setG h.hG _ _).setG h.hG _ _,h.row.set d b e,h.hG⟩
end
theorem Qdq {a:Nat->Int}{n:Nat}{t:TT (n+1)}{c:Int}(e:Qay m a t.kind t.r=some c){l':List (TT n)}(d:QbW (TT.ren m a) t.2.2=some l'):t.ren m a=some (mkT t.kind c l'):=by
 show (match Qay m a t.1 t.2.1 with | none=>none | some r=>match QbW (TT.ren (n:=n) m a) t.2.2 with | none=>none | some l=>some ((t.1,r,l):Int × Int × List (TT n)))=_;have b:Qay m a t.1 t.2.1=some c:=e;rw[b,d]
 rfl
theorem Qfv {a:Nat->Int}{n:Nat}{t:TT (n+1)}(c:Qay m a t.kind t.r=none):t.ren m a=none:=by
 show (match Qay m a t.1 t.2.1 with | none=>none | some r=>match QbW (TT.ren (n:=n) m a) t.2.2 with | none=>none | some l=>some ((t.1,r,l):Int × Int × List (TT n)))=_;have b:Qay m a t.1 t.2.1=none:=c;rw[b]
 rfl
theorem QeJ {a:Nat->Int}{n:Nat}{t:TT (n+1)}(b:QbW (TT.ren m a) t.2.2=none):t.ren m a=none:=by
 show (match Qay m a t.1 t.2.1 with | none=>none | some r=>match QbW (TT.ren (n:=n) m a) t.2.2 with | none=>none | some l=>some ((t.1,r,l):Int × Int × List (TT n)))=_;rw[b]
 cases Qay m a t.1 t.2.1<;>rfl
theorem rename_any:∀ n,Qmy 285 n:=by
 intro n
 induction n with
 | zero=>intro t;exact Empty.elim t
 | succ n ih =>
   intro t a c b m d s w ht af M;have IH:Hid (Qmy 285 n):=ih;have W:Hid (QkQ w b m s):=M;have hT:Hid (LIn w All t.2.2 a):=ht.list;have ac:Hid (∀ x∈t.2.2,x.count<=2000):=fun x H=>by have:=t.count_kid H;omega
   have N:t.2.2.length<=2000:=by have:=t.len_lt_count;rw[t.len_eq] at this;omega
   have J:Hid (Qay m s t.kind t.r=none->t.ren m s=none):=Qfv;have R:Hid (QbW (TT.ren m s) t.2.2=none->t.ren m s=none):=QeJ;have L:Hid (∀ B h,Qay m s t.kind t.r=some B->QbW (TT.ren m s) t.2.2=some h->t.ren m s=some (mkT t.kind B h)):=fun B h h1 h2=>Qdq h1 h2;generalize t.ren m s=S at J R L |-;simp only[Tv,TT.len_eq]
   generalize t.2.2=l at hT ac N R L |-;generalize t.kind=k at J L |-;generalize t.r=r at J L |-;clear ht af M ih t;go_enter func285,ntmps285
   go_wp2_with fail
   have X1:Hid (Bx2 w ((w.alloc (.cells #[Iv k,Iv r,.slice a l.length c] 105)).alloc (.cells #[Iv 0,Iv 0,Nv] 105)) k r a l.length c):=Bx2.start w k r a l.length c;generalize (w.alloc (.cells #[Iv k,Iv r,.slice a l.length c] 105)).alloc (.cells #[Iv 0,Iv 0,Nv] 105)=w1 at X1 |-;refine(QfQ k r a l.length c b m d s w1 (W.out.below X1.out.bel)).mono ?_
   rintro e I ⟨hr,b2⟩;have E:Hid (Bx2 w I k r a l.length c):=X1.out.below b2;clear X1 b2;have e2:I.cell? ⟨w.heap.size,2,none⟩=some (.slice a l.length c):=Qa E.out.box 2 _ Yz
   cases hrr:Qay m s k r with
   | none =>
     rw[hrr] at hr
     obtain rfl:e=_:=hr;have z:S=none:=J.out hrr;subst z;have D:=E.out.stored 0 0 none 0 0;have DD:Hid (Below w.heap.size w _):=D.2;have g0:=Qa E.out.res 0 _ Yz;have g1:=Qa E.out.res 1 _ Yz;have g2:=Qa E.out.res 2 _ Yz;have z0:=Qe E.out.res 0;have z1:=Qe E.out.res 1;have z2:=Qe E.out.res 2;have x0:=Qa D.1 0 _ Yz;have X:=Qa D.1 1 _ Yz;have x2:=Qa D.1 2 _ Yz;clear D hrr J R L;go_wp2_with fail
     exact Xy (v:=.tuple #[zeroT,.bool false]) (by simp[results,results285,go_sem,x0,X,x2]) Yz ⟨Yz,DD.out⟩
   | some B =>
     rw[hrr] at hr
     obtain rfl:e=_:=hr;have HR:Hid (Qay m s k r=some B):=hrr;clear hrr;have ah:=Qim I l.length N;have ad:w.heap.size<I.heap.size:=XC E.out.box;go_wp2_with fail
     have Y0:Hid (RnX w (I.alloc (.cells (madeCells #[Iv 0,Iv 0,Nv] (l.length*3)) 105)) k r a l.length c I.heap.size ([]:List (TT n))):=RnX.start E.out;generalize I.alloc (.cells (madeCells #[Iv 0,Iv 0,Nv] (l.length*3)) 105)=w3 at Y0 |-;generalize I.heap.size=G at Y0 |-;clear ah e2 E ad;go_loopw [27] (fun i wr=>∃ q:Nat,q<=l.length/\i=Iv q/\∃ h:List (TT n),h.length=q/\(∀ (j:Nat) x,j<q->l[j]?=some x->x.ren m s=h[j]?)/\RnX w wr k r a l.length c G h) (fun i _=>l.length - (intOf i).toNat)
     case atStart=>exact⟨0,Xb _,Yz,[],Yz,fun j x hj=>by omega,Y0.out⟩
     case round =>
      clear Y0;obtain⟨q,hq,rfl,h,aa,K,hY⟩:=hrel
      have A:Hid (h.length=q/\∀ (j:Nat) x,j<q->l[j]?=some x->x.ren m s=h[j]?):=⟨aa,K⟩;have Y:Hid (RnX w wr k r a l.length c G h):=hY;clear aa K hY;by_cases ab:q<l.length
      ·have H:l[q]?=some l[q]:=Zg ab;generalize l[q]=x at H;obtain⟨g,o,a',c',rfl,_,d0,d1,d2,hk⟩:=LIn.at (hT.out.below Y.out.bx.bel) H
       have hg:g<wr.heap.size:=Xi wr ⟨g,o+q*3,none⟩ d0;have P:Hid (l[q]?=some x):=H
       have C:Hid (∀ U,Below wr.heap.size wr U->Calls prog 285 #[Tv x a' c',.slice b m d] U fun e w'=>QgH U w' (x.ren m s) e) :=
        fun U hb=>IH.out x a' c' b m d s U (hk.below hb) (ac.out x (Zm H)) ((W.out.below Y.out.bx.bel).below hb)
       clear hk H;simp only[Tv] at C
       generalize x.kind=kx at C d0;generalize x.r=rx at C d1;generalize x.len=lx at C d2;have al:(0:Int)<=q:=by omega
       have ae:(q:Int)<l.length:=by omega
       have ak:(q:Int)<2000:=by omega
       go_wp2_with fail
       have T:Below wr.heap.size wr (wr.alloc (.cells #[Iv kx,Iv rx,.slice a' lx c'] 105)):=(Below.refl _ wr).alloc Ze _;refine(C.out _ T).mono ?_
       rintro e w4 h4;clear C d0 d1 d2
       cases hxr:x.ren m s with
       | none =>
         rw[hxr] at h4
         obtain⟨rfl,V⟩:=h4
         have z:S=none:=R.out (QeU P.out hxr);subst z;have f:=(Y.out.below T).below V;have Q:q*3+2<l.length*3:=by omega
         obtain⟨v0,r0⟩:=f.row.has (q*3) (by omega)
         obtain⟨v1,r1⟩:=f.row.has (q*3+1) (by omega)
         obtain⟨v2,r2⟩:=f.row.has (q*3+2) (by omega)
         have z0:=f.row.frozen (q*3);have z1:=f.row.frozen (q*3+1);have z2:=f.row.frozen (q*3+2);have X5:=((f.bx.setG f.hG (q*3) (Iv 0)).setG f.hG (q*3+1) (Iv 0)).setG f.hG (q*3+2) (Nv);have D:=X5.stored 0 0 none 0 0;have DD:Hid (Below w.heap.size w _):=D.2;have g0:=Qa f.bx.res 0 _ Yz;have g1:=Qa f.bx.res 1 _ Yz;have g2:=Qa f.bx.res 2 _ Yz;have y0:=Qe f.bx.res 0;have y1:=Qe f.bx.res 1;have y2:=Qe f.bx.res 2;have x0:=Qa D.1 0 _ Yz;have X:=Qa D.1 1 _ Yz;have x2:=Qa D.1 2 _ Yz;have am:¬ w.heap.size+1=G:=by have:=f.hG;omega
         have ai:¬ G=w.heap.size+1:=by have:=f.hG;omega
         clear D X5 f V T hxr A Y J R L Q;go_wp2_with fail
         exact Xy (v:=.tuple #[zeroT,.bool false]) (by simp[results,results285,go_sem,x0,X,x2]) Yz ⟨Yz,DD.out⟩
       | some u =>
         rw[hxr] at h4
         obtain⟨a4,c4,rfl,t4,V⟩:=h4
         simp only[Tv]
         have f:=(Y.out.below T).below V;have Q:q*3+2<l.length*3:=by omega
         obtain⟨v0,r0⟩:=f.row.has (q*3) (by omega)
         obtain⟨v1,r1⟩:=f.row.has (q*3+1) (by omega)
         obtain⟨v2,r2⟩:=f.row.has (q*3+2) (by omega)
         have z0:=f.row.frozen (q*3);have z1:=f.row.frozen (q*3+1);have z2:=f.row.frozen (q*3+2);have ag:=Y.out.row.lt;have Y5:=f.set A.out.1 ab (x:=u) (a':=a4) (c':=c4) (t4.mono (fun k hk _=>by have:=T.size;simp at hk;omega))
         have Z:Hid (∃ h:List (TT n),h.length=q+1/\(∀ (j:Nat) x,j<q+1->l[j]?=some x->x.ren m s=h[j]?)/\RnX w (((w4.setCell ⟨G,q*3,none⟩ (Iv u.kind)).setCell ⟨G,q*3+1,none⟩ (Iv u.r)).setCell ⟨G,q*3+2,none⟩ (.slice a4 u.len c4)) k r (some ⟨g,o,none⟩) l.length c G h):=by
          refine⟨h++[u],by simp[A.out.1],fun j y hj hy=>?_,Y5⟩
          by_cases e:j=q
          ·subst e;rw[P.out] at hy
           cases hy
           rw[hxr,XQ (by have:=A.out.1;omega),A.out.1,Nat.sub_self]
           rfl
          ·rw[XP (by have:=A.out.1;omega)]
           exact A.out.2 j y (by omega) hy
         clear Y5 f V T hxr A Y J R Q t4 P ag;generalize u.kind=ku at Z |-;generalize u.r=ru at Z |-;generalize u.len=lu at Z |-;go_wp2
         go_roundw
         case rel=>exact⟨q+1,by omega,by go_num,Z.out⟩
         case measure=>simp[intOf];omega
      ·have ae:¬ (q:Int)<l.length:=by omega
       have F:h.length=l.length:=by have:=A.out.1;omega
       have z:S=some (mkT k B h):=L.out B h HR.out (Qbz.2 ⟨F,fun i x H=>A.out.2 i x (by have:=(Zi H).1;omega) H⟩);subst z;have e0:wr.cell? ⟨w.heap.size,0,none⟩=some (Iv k):=Qa Y.out.bx.box 0 _ Yz;have g0:=Qa Y.out.bx.res 0 _ Yz;have g1:=Qa Y.out.bx.res 1 _ Yz;have g2:=Qa Y.out.bx.res 2 _ Yz;have y0:=Qe Y.out.bx.res 0;have y1:=Qe Y.out.bx.res 1;have y2:=Qe Y.out.bx.res 2;have D:=Y.out.bx.stored k B (some ⟨G,0,none⟩) l.length l.length;have x0:=Qa D.1 0 _ Yz;have X:=Qa D.1 1 _ Yz;have x2:=Qa D.1 2 _ Yz;have aj:=Y.out.hG
       have O:Hid (QgH w (((wr.setCell ⟨w.heap.size+1,0,none⟩ (Iv k)).setCell ⟨w.heap.size+1,1,none⟩ (Iv B)).setCell ⟨w.heap.size+1,2,none⟩ (.slice (some ⟨G,0,none⟩) l.length l.length)) (some (mkT k B h)) (.returned (.tuple #[.agg #[Iv k,Iv B,.slice (some ⟨G,0,none⟩) l.length l.length],.bool true]))):=by
        refine⟨some ⟨G,0,none⟩,l.length,?_,?_,D.2⟩
        ·show _=Ending.returned (.tuple #[.agg #[Iv k,Iv B,.slice (some ⟨G,0,none⟩) h.length l.length],.bool true]);rw[F]
        ·have:=((Y.out.row.lin.setCell (p:=⟨w.heap.size+1,0,none⟩) (by simp;omega) (Iv k)).setCell (p:=⟨w.heap.size+1,1,none⟩) (by simp;omega) (Iv B)).setCell (p:=⟨w.heap.size+1,2,none⟩) (by simp;omega) (.slice (some ⟨G,0,none⟩) l.length l.length)
         exact(LIn.tree this).mono (fun k hk _=>by omega)
       clear D A Y J R L F;go_wp2_with fail
       exact Xy (v:=.tuple #[.agg #[Iv k,Iv B,.slice (some ⟨G,0,none⟩) l.length l.length],.bool true]) (by simp[results,results285,go_sem,x0,X,x2]) Yz O.out
structure RdX (w wr:World) (k r:Int) (a:Option Addr) (len c:Nat) (r':Int) (v:Value){n:Nat}(l:List (TT n)) (xs:List Value):Prop where
 bx:Bx2 w wr k r a len c
 u:wr.heap[w.heap.size+2]?=some (.cells #[Iv k,Iv r',v] 105 (0,0))
 row:QeG wr (w.heap.size+3) v l xs
section
variable {w wr w':World}{k r r':Int}{a:Option Addr}{len c n:Nat}{v:Value}{l:List (TT n)}{xs:List Value}
theorem RdX.start (w:World) (k r:Int) (a:Option Addr) (len c:Nat) (b:Int):RdX w (((w.alloc (.cells #[Iv k,Iv r,.slice a len c] 105)).alloc (.cells #[Iv 0,Iv 0,Nv] 105)).alloc (.cells #[Iv k,Iv b,Nv] 105)) k r a len c b (Nv) ([]:List (TT n)) [] :=
 ⟨(Bx2.start w k r a len c).below (Zr.alloc Ze _),by have:=Qf ((w.alloc (.cells #[Iv k,Iv r,.slice a len c] 105)).alloc (.cells #[Iv 0,Iv 0,Nv] 105)) #[Iv k,Iv b,Nv] 105;simpa using this,QeG.nil _ _⟩
theorem RdX.below (h:RdX w wr k r a len c r' v l xs) (b:Below wr.heap.size wr w'):RdX w w' k r a len c r' v l xs:=⟨h.bx.below b,Qax h.u b,h.row.below b⟩
theorem QeG.setOther (h:QeG w' (w.heap.size+3) v l xs) (i:Nat) (y:Value):QeG (w'.setCell ⟨w.heap.size+2,i,none⟩ y) (w.heap.size+3) v l xs:=by
 obtain⟨⟨s,m⟩,t⟩:=h
 refine⟨⟨s,?_⟩,fun i x j=>?_⟩
 ·rcases m with p | ⟨g,d,b,e,k,f,r⟩
  ·exact Or.inl p
  ·exact Or.inr ⟨g,d,b,e,k,(Xd _ _ _ _ (by simp;omega)).trans f,r⟩
 ·obtain⟨a,c,o,q,n,u⟩:=t i x j
  exact⟨a,c,o,q,n,u.setCell (fun z=>by have:=z.1;simp at this) _⟩
theorem RdX.push (h:RdX w wr k r a len c r' v l xs){x:TT n}{a':Option Addr}{c':Nat}(o:TIn wr (But (w.heap.size+3) v) x a')
  (b:wr.grownBy w' v.ownBlock) (d:v.ownBlock=some g\/g=wr.heap.size)
 (p:w'.ownsRow (w.heap.size+3) 105 3 (.slice (some ⟨g,0,none⟩) (l.length+1) cap) (l.length+1) (xs++[Iv x.kind,Iv x.r,.slice a' x.len c'])) :
 w'.heap[w.heap.size+2]?=some (.cells #[Iv k,Iv r',v] 105 (0,0)) /\
 RdX w (w'.setCell ⟨w.heap.size+2,2,none⟩ (.slice (some ⟨g,0,none⟩) (l.length+1) cap)) k r a len c r' (.slice (some ⟨g,0,none⟩) (l.length+1) cap) (l++[x]) (xs++[Iv x.kind,Iv x.r,.slice a' x.len c']):=by
 have f:∀ i,i<w.heap.size+3->i<wr.heap.size->w'.heap[i]?=wr.heap[i]?:=fun i s q=>b.block i q (fun e=>by have:=(h.row.lo_le e.symm).1;omega);have m:=(f (w.heap.size+2) (by omega) (XC h.u)).trans h.u;have j:Below w.heap.size w w':=h.bx.bel.grown b h.bx.bel.size (fun i e=>by have:=(h.row.lo_le e).1;omega);refine⟨m,⟨⟨j.setCell (by simp) _,?_,?_⟩,?_,QeG.setOther (h.row.push o b d p) 2 _⟩⟩
 ·exact(Xd _ _ _ _ (by simp)).trans ((f _ (by omega) (XC h.bx.box)).trans h.bx.box)
 ·exact(Xd _ _ _ _ (by simp)).trans ((f _ (by omega) (XC h.bx.res)).trans h.bx.res)
 ·have:=Qh m 2 (.slice (some ⟨g,0,none⟩) (l.length+1) cap)
  simpa using this
end
def Q6 (e:Ending) (A:Prop):Prop:=∃ q:Bool,e=.returned (.bool q)/\(q=true↔A)
theorem Q6.yes {A:Prop}(h:A):Q6 (.returned (.bool true)) A:=⟨true,Z,by simp[h]⟩
theorem Q6.no {A:Prop}(h:¬ A):Q6 (.returned (.bool false)) A:=⟨false,Z,by simp[h]⟩
def Qd2 (f:Nat) (n:Nat):Prop:=∀ (t u:TT n) (a b:Option Addr) (c d:Nat) (w:World),TIn w All t a->TIn w All u b->t.count<=100000 ->
 Calls prog f #[Tv t a c,Tv u b d] w fun e w'=>Q6 e (t=u)/\Below w.heap.size w w'
theorem QiN (n:Nat) (I:Qd2 97 n) (l m:List (TT n)) (a b:Option Addr) (c d:Nat) (w:World) (L:LIn w All l a) (M:LIn w All m b) (aa:l.length<=100000) (z:∀ x∈l,x.count<=100000) :
 Calls prog 61 #[.slice a l.length c,.slice b m.length d] w fun e w'=>Q6 e (l=m)/\Below w.heap.size w w':=by
 have IH:Hid (Qd2 97 n):=I;have hl:Hid (LIn w All l a):=L;have hm:Hid (LIn w All m b):=M;have Q:Hid (∀ x∈l,x.count<=100000):=z;clear I L M z;by_cases f:l.length=m.length
 ·have J:((l.length:Int) != (m.length:Int))=false:=by simp;omega
  have E:Hid (l.length=m.length):=f;clear f;go_enter func61,ntmps61
  go_wp2_with fail
  go_loopw [5] (fun i wr=>∃ q:Nat,q<=l.length/\i=Iv q/\(∀ j,j<q->l[j]?=m[j]?)/\Below w.heap.size w wr) (fun i _=>l.length - (intOf i).toNat)
  case atStart=>exact⟨0,Xb _,Z,fun j hj=>by omega,Zr⟩
  case round =>
   obtain⟨q,hq,rfl,D,U⟩:=hrel
   have A:Hid (∀ j,j<q->l[j]?=m[j]?):=D;have B:Hid (Below w.heap.size w wr):=U;clear D U;by_cases P:q<l.length
   ·have K:l[q]?=some l[q]:=Zg P;have O:q<m.length:=by have:=E.out;omega
    have N:m[q]?=some m[q]:=Zg O;generalize l[q]=x at K;generalize m[q]=y at N;obtain⟨g,o,X,W,rfl,_,d0,d1,d2,hk⟩:=LIn.at (hl.out.below B.out) K
    obtain⟨g',o',b',T,rfl,_,d3,d4,d5,H⟩:=LIn.at (hm.out.below B.out) N
    have C:Hid (∀ k,Calls prog 97 #[Tv x X W,Tv y b' T] (wr.drewN k) fun e w'=>Q6 e (x=y)/\Below wr.heap.size wr w') :=
     fun k=>(IH.out x y X b' W T _ (hk.drewN k) (H.drewN k) (Q.out x (Zm K))).mono (fun e w' h=>⟨h.1,QeC h.2⟩)
    have s:Hid (l[q]?=some x):=K;have u:Hid (m[q]?=some y):=N;clear hk H K N;have ab:(0:Int)<=q:=by omega
    have S:(q:Int)<l.length:=by omega
    have ac:(q:Int)<m.length:=by omega
    go_upto_region 6 with fail
    go_cut [26] (fun t wx=>∃ p:Bool,t=.bool (!p)/\(p=true↔x=y)/\Below wr.heap.size wr wx)
    case first =>
     go_region_with (go_at_call 97;refine(C.out 1).mono ?_;rintro r w5 ⟨⟨p,rfl,F⟩,G⟩;have HP:Hid (p=true↔x=y):=F;have B5:Hid (Below wr.heap.size wr w5):=G;clear F G)
     all_goals
      go_wp2
      go_meet;exact⟨p,Z,HP.out,B5.out⟩
    case rest =>
     obtain⟨p,rfl,F,G⟩:=hcut
     have V:Hid (Below w.heap.size w wc):=B.out.trans (G.mono B.out.size);clear C G B d0 d1 d2 d3 d4 d5
     cases p with
     | true =>
       have v:x=y:=F.1 Z
       have A2:Hid (∀ j,j<q+1->l[j]?=m[j]?):=fun j hj=>by
        by_cases e:j=q
        ·subst e;rw[s.out,u.out,v]
        ·exact A.out j (by omega)
       clear F v s u A;go_wp2
       go_roundw
       case rel=>exact⟨q+1,by omega,by go_num,A2.out,V.out⟩
       case measure=>simp[intOf];omega
     | false =>
       have v:Hid (¬ l=m):=fun h=>by
        have h1:=s.out;rw[h,u.out] at h1
        have:=F.2 (Xn h1).symm
        cases this
       clear F s u A;go_wp2
       go_ret;exact⟨Q6.no v.out,V.out⟩
   ·have R:Hid (l=m):=by
     have:=E.out
     refine List.ext_getElem? (fun i=>?_);by_cases hi:i<q
     ·exact A.out i hi
     ·rw[Xk (by omega),Xk (by omega)]
    have S:¬ (q:Int)<l.length:=by omega
    clear A;go_wp2
    go_ret;exact⟨Q6.yes R.out,B.out⟩
 ·have J:((l.length:Int) != (m.length:Int))=true:=by simp;omega
  have E:Hid (l.length≠m.length):=f;clear f;go_enter func61,ntmps61
  go_wp2
  go_ret;exact⟨Q6.no (fun h=>E.out (by rw[h])),Zr⟩
theorem TT.eq_iff {t u:TT (n+1)}:t=u↔t.kind=u.kind/\t.r=u.r/\t.2.2=u.2.2:=by
 obtain⟨a,b,c⟩:=t
 obtain⟨d,e,f⟩:=u
 constructor
 ·intro h;cases h;exact⟨Z,Z,Z⟩
 ·rintro ⟨rfl,rfl,rfl⟩;rfl
theorem samet_any:∀ n,Qd2 97 n:=by
 intro n
 induction n with
 | zero=>intro t;exact Empty.elim t
 | succ n ih =>
   intro t u a b c d w F D G;have i:∀ x∈t.2.2,x.count<=100000:=fun x L=>by have:=t.count_kid L;omega
   have f:t.2.2.length<=100000:=by have:=t.len_lt_count;rw[t.len_eq] at this;omega
   have C:Hid (∀ g,Below w.heap.size w g->Calls prog 61 #[.slice a t.2.2.length c,.slice b u.2.2.length d] g fun e J=>Q6 e (t.2.2=u.2.2)/\Below g.heap.size g J) :=
    fun g y=>QiN n ih t.2.2 u.2.2 a b c d g (F.below y) (D.below y) f i
   rw[TT.eq_iff]
   simp only[Tv,TT.len_eq] at C |-
   generalize t.2.2.length=p at C |-;generalize u.2.2.length=q at C |-;generalize (t.2.2=u.2.2)=E at C |-;generalize t.kind=k;generalize t.r=r;generalize u.kind=o;generalize u.r=s;clear i f G F D ih t u;by_cases m:k=o
   ·subst m;by_cases j:r=s
    ·subst j;go_enter func97,ntmps97
     go_wp2_with fail
     have l:Below w.heap.size w ((w.alloc (.cells #[Iv k,Iv r,.slice a p c] 105)).alloc (.cells #[Iv k,Iv r,.slice b q d] 105)):=((Below.refl _ w).alloc Ze _).alloc (by simp) _;refine(C.out _ l).mono ?_
     rintro e I ⟨⟨v,rfl,z⟩,A⟩;have B:Hid (Below w.heap.size w I):=l.trans (A.mono l.size);have V:Hid (v=true↔E):=z;clear A C z l
     cases v
     all_goals
      go_wp2
      go_ret
     ·exact⟨Q6.no (fun h=>by have:=V.out.2 h.2.2;cases this),B.out⟩
     ·exact⟨Q6.yes (by have:=V.out;simpa using this),B.out⟩
    ·have K:(r==s)=false:=by simpa using j
     have R:Hid (¬ r=s):=j;clear j;go_enter func97,ntmps97
     go_wp2_with fail
     go_ret;exact⟨Q6.no (fun h=>R.out h.2.1),((Below.refl _ w).alloc Ze _).alloc (by simp) _⟩
   ·have H:(k==o)=false:=by simpa using m
    have R:Hid (¬ k=o):=m;clear m;go_enter func97,ntmps97
    go_wp2_with fail
    go_ret;exact⟨Q6.no (fun h=>R.out h.1),((Below.refl _ w).alloc Ze _).alloc (by simp) _⟩
def IV (w:World) (l:List Int) (v:Value):Prop:=∃ a c,v=.slice a l.length c/\intsL.In w (fun _=>True) l [.slice a l.length c]
theorem IV.below (h:IV w l v) (k:Below w.heap.size w w'):IV w' l v:=by
 obtain⟨a,c,e,h⟩:=h
 exact⟨a,c,e,Ya h k⟩
def k9E (b X N lc gL nl cL lg lo k j uc vc:Nat) (u y:TT 6) (ua va:Option Addr) (q:Bool) (t:Tmp) (v:Value) (w:World):Prop :=
 v=(([(0,Pv b 0),(1,.slice (some ⟨lg,lo,none⟩) N lc),(9,Iv (k:Int)),(10,Pv X 0),(11,.bool true),(49,.bool true),(50,.bool false),(51,.bool false),(52,.agg #[Iv u.kind,Iv u.r,.slice ua u.len uc]),(53,Pv b 0),(54,Pv b 0),(55,Pv b 6),(56,.slice (some ⟨gL,0,none⟩) nl cL),(57,.slice (some ⟨lg,lo,none⟩) N lc),(58,Iv (k:Int)),(59,Pv lg (lo+k)),(60,Iv (j:Int)),(61,Pv gL (j*3)),(62,.agg #[Iv y.kind,Iv y.r,.slice va y.len vc]),(63,.bool q),(64,.bool (!q)),(65,.bool (!q))]:List (Tmp × Value)).lookup t).getD undef
theorem k9 {E f x G o lo D vc:Nat}{u y:TT 6}{i va:Option Addr}{q:Bool}{R:Nat->Prop}
 (U:w6.cell? ⟨X,0,none⟩=some (Iv u.kind)) (x1:w6.cell? ⟨X,1,none⟩=some (Iv u.r)) (O:w6.cell? ⟨X,2,none⟩=some (.slice i u.len D))
 (M:w6.cell? ⟨b,6,none⟩=some (.slice (some ⟨f,0,none⟩) x G)) (P:w6.cell? ⟨o,lo+k,none⟩=some (Iv (j:Int)))
 (T:w6.cell? ⟨f,j*3,none⟩=some (Iv y.kind)) (J:w6.cell? ⟨f,j*3+1,none⟩=some (Iv y.r)) (v2:w6.cell? ⟨f,j*3+2,none⟩=some (.slice va y.len vc))
 (I:(k:Int)<N) (aa:(j:Int)<x) (L:Hid (TIn w6 Q u i)) (W:Hid (TIn w6 R y va)) (V:Hid (u.count<=100000)) (HQ:Hid (q=true↔u=y))
 (a:Act) (m:Nat) (hn:a.tmps.size=m) (C:66<=m) (S:a.tmps.getD 0 undef=Pv b 0) (h1:a.tmps.getD 1 undef=.slice (some ⟨o,lo,none⟩) N E) (H:a.tmps.getD 9 undef=Iv (k:Int)) (p:a.tmps.getD 10 undef=Pv X 0) (z:a.tmps.getD 11 undef=.bool true) :
 Code.wp prog ((Tryz.f105.body.bind (Qg 9)).getD .skip) (fun e a' w'=>e=.normal/\∃ vs,a'=QI a vs [49,50,51,52,53,54,55,56,57,58,59,60,61,62,63,64,65]/\vs 65=.bool (!q)/\Below w6.heap.size w6 w') a w6:=by
 conv=>arg 2;whnf
 refine QV (k9E b X N E f x G o lo k j D vc u y i va q) (fun w=>Below w6.heap.size w6 w) (fun w w'=>Below w.heap.size w w') (outs:=[0,1,9,10,11]) (gs:=[(2,some false)]) (bs:=[true,true,true,true,true,true,true,true,true,true,true,true,true,true,true,true,true]) (by kernel_rfl) (n:=66) hn C (by kernel_rfl) ?hR ?hG (Qs Zr 1) ⟨S,h1,H,p,z,Y⟩ ?hA ?hend
 case hR=>exact fun t v w w' _ h=>h
 case hG=>exact⟨fun t ht v w _ h=>by cases ht;exact h,Y⟩
 case hend=>exact fun vs w' c g=>⟨Z,vs,Z,g 65 (by kernel_rfl),c⟩
 case hA =>
  repeat
   refine⟨fun a w c g K B=>?_,?_⟩
   focus first
    | obtain⟨d,-⟩:=g
      conv at d=>whnf;rhs;whnf
      have c0:=Qo U c;have c1:=Qo x1 c;have c2:=Qo O c;have c3:=Qo M c;have c4:=Qo P c;have c5:=Qo T c;have c6:=Qo J c;have c7:=Qo v2 c;go_simp;exact B _ _ Zr c Z
    | obtain⟨d,s,-⟩:=g
      conv at d=>whnf;rhs;whnf
      conv at s=>whnf;rhs;whnf
      go_simp;exact B _ _ Zr c Z
    | obtain⟨d,s,-⟩:=g
      conv at d=>whnf;rhs;whnf
      conv at s=>whnf;rhs;whnf
      go_simp;refine(samet_any 6 u y i va D vc w (L.out.below c).all (W.out.below c).all V.out).mono ?_;rintro r7 w7 ⟨⟨q7,rfl,l⟩,F⟩
      have A:q7=q:=Bool.eq_iff_iff.2 (l.trans HQ.out.symm);subst A;go_simp;exact B _ _ F (c.trans (F.mono c.size)) Z
  trivial
abbrev toV (x:MTo) (rg ag:Option Addr) (rc ac:Nat):Value:=.agg #[Iv x.block,.slice rg x.regs.length rc,.slice ag x.args.length ac]
theorem underBk:∃ fs,prog.underlying 86=some (.struct fs):=⟨_,underlying86⟩
theorem sizeBk:(prog.info? 86).map (·.size)=some 12:=by kernel_rfl
theorem QfY {m:List (MBlock 6)}(h:(Zq 6).list.In w Q m [.slice p n c]){g:MBlock 6}(r:m[k]?=some g) :
 ∃ mg mo a1 c1 es,p=some ⟨mg,mo,none⟩/\w.rangeAt mg (mo+k*12) (Iv g.regs::.slice a1 g.params.length c1::es)/\es.length=10/\(Qx 6).In w Q g.params [.slice a1 g.params.length c1]/\∀ v∈es,v.oneCell'=true:=by
 obtain⟨mg,mo,P,E,L,O,d,u⟩:=Yf h r
 obtain⟨a1,c1,a2,J,es,rfl,A,T,B,N⟩:=Qcb u
 obtain⟨M,R,ae,F,rfl,l,z,I,K⟩:=QgZ B
 obtain⟨H,u2,V,S,rfl,-,-,-⟩:=QfM l
 obtain⟨X,W,U,G,rfl,-,-,-⟩:=QfM z
 have f:∀ a,a.length=12->(∀ v∈a,v.oneCell'=true)->(∀ j,j<12->w.cell? ⟨mg,mo+k*12+j,none⟩=a[j]?)->∀ x y es,a=x::y::es->w.rangeAt mg (mo+k*12) (x::y::es)/\es.length=10/\∀ v∈es,v.oneCell'=true:=by
  intro a o C d x y es e;subst e;refine⟨fun j v i=>?_,by simpa using o,fun v b=>C v (by simp[b])⟩
  have q:=(Zi i).1;rw[d j (by omega),i]
 obtain⟨D,s,t⟩:=f _ Z (fun v b=>by
  simp only[List.mem_cons,List.cons_append,List.nil_append,List.not_mem_nil,or_false] at b
  rcases b with rfl | rfl | rfl | rfl | rfl | rfl | rfl | rfl | rfl | rfl | rfl | rfl<;>rfl) d _ _ _ Z
 exact⟨mg,mo,a1,c1,_,E,D,s,A,t⟩
theorem QcU (h:w.rangeAt b o cs) (k:Below w.heap.size w w'):w'.rangeAt b o cs:=fun j v a=>Qo (h j v a) k
theorem Qk {p:Prop}(h:p):Hid p:=h
structure FbS (w wx:World) (R:Nat) (l:List (Nat × Array Value × TypeId)):Prop where
 bel:Below w.heap.size w wx
 ge:w.heap.size<=R
 r:Blk wx R #[Iv 0,Iv 0] 32
 box:∀ (i:Nat) b,l[i]?=some b->Blk wx b.1 b.2.1 b.2.2
section
variable {w wx w':World}{R:Nat}{l:List (Nat × Array Value × TypeId)}
theorem FbS.below (h:FbS w wx R l) (k:Below wx.heap.size wx w'):FbS w w' R l :=
 ⟨h.bel.trans (k.mono h.bel.size),h.ge,h.r.below k,fun i b a=>(h.box i b a).below k⟩
theorem FbS.add (h:FbS w wx R l){c:Array Value}(hb:Blk wx B c t):FbS w wx R ((B,c,t)::l) :=
 ⟨h.bel,h.ge,h.r,fun i b a=>by
  cases i with
  | zero=>cases a;exact hb
  | succ i=>exact h.box i b a⟩
theorem FbS.new (h:FbS w wx R l) (c:Array Value) (t:TypeId):FbS w (wx.alloc (.cells c t)) R ((wx.heap.size,c,t)::l):=(h.below (ZO _ _)).add (Blk.new _ _ _)
theorem FbS.start (w:World) (c:Array Value) (t:TypeId):FbS w ((w.alloc (.cells c t)).alloc (.cells #[Iv 0,Iv 0] 32)) (w.heap.size+1) [(w.heap.size,c,t)] :=
 FbS.add ⟨(ZO w _).trans ((ZO _ _).mono (ZO w _).size),by omega,Blk.new2 ..,fun i b a=>by simp at a⟩ (Blk.new1 ..)
theorem FbS.cells (h:FbS w wx R l):wx.cell? ⟨R,0,none⟩=some (Iv 0)/\wx.cell? ⟨R,1,none⟩=some (Iv 0)/\wx.frozen? ⟨R,0,none⟩=false/\wx.frozen? ⟨R,1,none⟩=false :=
 ⟨Qa h.r 0 _ Z,Qa h.r 1 _ Z,Qe h.r 0,Qe h.r 1⟩
theorem FbS.fin (h:FbS w wx R l) (c a:Int):Blk ((wx.setCell ⟨R,0,none⟩ (Iv c)).setCell ⟨R,1,none⟩ (Iv a)) R #[Iv c,Iv a] 32/\Below w.heap.size w ((wx.setCell ⟨R,0,none⟩ (Iv c)).setCell ⟨R,1,none⟩ (Iv a)) :=
 ⟨by have:=Qh (Qh h.r 0 (Iv c)) 1 (Iv a);simpa using this,(h.bel.setCell (p:=⟨R,0,none⟩) h.ge _).setCell (p:=⟨R,1,none⟩) h.ge _⟩
structure Qm6 (wx:World) (cs:List Value):Prop where
 size:(prog.info? 86).map (·.size)=some cs.length
 size2:(prog.info? 86).map (·.size)=some cs.toArray.size
 there:(wx.alloc (.cells #[Iv 0,Nv,Nv,Iv 0,Iv 0,Iv 0,Nv,Nv,Iv 0,Nv,Nv,Nv] 86)).there wx.heap.size 0 cs.toArray.size
 blk:Blk ((wx.alloc (.cells #[Iv 0,Nv,Nv,Iv 0,Iv 0,Iv 0,Nv,Nv,Iv 0,Nv,Nv,Nv] 86)).setCells wx.heap.size 0 cs) wx.heap.size cs.toArray 86
 bel:Below wx.heap.size wx ((wx.alloc (.cells #[Iv 0,Nv,Nv,Iv 0,Iv 0,Iv 0,Nv,Nv,Iv 0,Nv,Nv,Nv] 86)).setCells wx.heap.size 0 cs)
theorem Qm6.of (a:World)(c:cs.length=12):Qm6 a cs:=by
 have d:=Qf a #[Iv 0,Nv,Nv,Iv 0,Iv 0,Iv 0,Nv,Nv,Iv 0,Nv,Nv,Nv] 86;refine⟨by rw[c];exact pSizeB,by rw[List.size_toArray,c];exact pSizeB,fun j hj=>?_,?_,?_⟩
 ·rw[List.size_toArray,c] at hj
  rw[XK]
  refine⟨?_,Qe d j⟩
  rw[Qa d j ((#[Iv 0,Nv,Nv,Iv 0,Iv 0,Iv 0,Nv,Nv,Iv 0,Nv,Nv,Nv]:Array Value)[j]'hj) (by simp)];rfl
 ·have e:Blk (a.alloc (.cells #[Iv 0,Nv,Nv,Iv 0,Iv 0,Iv 0,Nv,Nv,Iv 0,Nv,Nv,Nv] 86)) a.heap.size ([]++(#[Iv 0,Nv,Nv,Iv 0,Iv 0,Iv 0,Nv,Nv,Iv 0,Nv,Nv,Nv]:Array Value).toList).toArray 86:=d;exact Blk.sets cs [] (#[Iv 0,Nv,Nv,Iv 0,Iv 0,Iv 0,Nv,Nv,Iv 0,Nv,Nv,Nv]:Array Value).toList _ (by rw[c];rfl) e
 ·have:=QE.setCells (O:=fun k=>k=a.heap.size) (O':=fun k=>k=a.heap.size) (b:=a.heap.size) Z cs 0 _ (QE.refl _ (a.alloc (.cells #[Iv 0,Nv,Nv,Iv 0,Iv 0,Iv 0,Nv,Nv,Iv 0,Nv,Nv,Nv] 86)))
  exact(ZO a _).trans (this.below (by simp) (fun k f=>by omega))
end
theorem underEnd:∃ fs,prog.underlying 84=some (.struct fs):=⟨_,underlying84⟩
theorem sizeEnd:(prog.info? 84).map (·.size)=some 9:=by kernel_rfl
abbrev Qdl (x:Z0) (e:EP):Array Value:=#[Iv x.op,Iv x.a,Iv x.yes.block,.slice e.pYR x.yes.regs.length e.cYR,.slice e.pYA x.yes.args.length e.cYA,Iv x.no.block,.slice e.pNR x.no.regs.length e.cNR,.slice e.pNA x.no.args.length e.cNA,.slice e.pA x.args.length e.cA]
structure Qej (w:World) (Q:Nat->Prop) (x:Z0) (e:EP):Prop where
 yr:intsL.In w Q x.yes.regs [.slice e.pYR x.yes.regs.length e.cYR]
 ya:intsL.In w Q x.yes.args [.slice e.pYA x.yes.args.length e.cYA]
 nr:intsL.In w Q x.no.regs [.slice e.pNR x.no.regs.length e.cNR]
 na:intsL.In w Q x.no.args [.slice e.pNA x.no.args.length e.cNA]
 ar:intsL.In w Q x.args [.slice e.pA x.args.length e.cA]
theorem Qej.below {x:Z0}{e:EP}(h:Qej w Q x e) (k:Below w.heap.size w w'):Qej w' Q x e :=
 ⟨Ya h.yr k,Ya h.ya k,Ya h.nr k,Ya h.na k,Ya h.ar k⟩
structure EnS (w wc:World) (b X:Nat) (O Q:Nat->Prop) (s:JSt) (x:Z0) (e:EP):Prop where
 known:KAt wc b O s
 box:Blk wc X (Qdl x e) 84
 lists:Qej wc Q x e
 bel:Below w.heap.size w wc
theorem EnS.below {s:JSt}{x:Z0}{e:EP}(h:EnS w wc b X O Q s x e) (k:Below wc.heap.size wc w'):EnS w w' b X O Q s x e :=
 ⟨h.known.below k,(k.block X (XC h.box)).trans h.box,h.lists.below k,h.bel.trans (k.mono h.bel.size)⟩
theorem EnS.range {s:JSt}{x:Z0}{e:EP}(h:EnS w wc b X O Q s x e):wc.rangeAt X 0 (Qdl x e).toList:=fun j v a=>by
 rw[XK]
 rw[Array.getElem?_toList] at a
 exact Qa h.box j v a
theorem EnS.cells {s:JSt}{x:Z0}{e:EP}(h:EnS w wc b X O Q s x e):wc.cell? ⟨X,0,none⟩=some (Iv x.op)/\wc.cell? ⟨X,1,none⟩=some (Iv x.a)/\wc.cell? ⟨X,2,none⟩=some (Iv x.yes.block)/\wc.cell? ⟨X,3,none⟩=some (.slice e.pYR x.yes.regs.length e.cYR)/\wc.cell? ⟨X,4,none⟩=some (.slice e.pYA x.yes.args.length e.cYA)/\wc.cell? ⟨X,5,none⟩=some (Iv x.no.block)/\wc.cell? ⟨X,6,none⟩=some (.slice e.pNR x.no.regs.length e.cNR)/\wc.cell? ⟨X,7,none⟩=some (.slice e.pNA x.no.args.length e.cNA)/\wc.cell? ⟨X,8,none⟩=some (.slice e.pA x.args.length e.cA) :=
 ⟨Qa h.box 0 _ Z,Qa h.box 1 _ Z,Qa h.box 2 _ Z,Qa h.box 3 _ Z,Qa h.box 4 _ Z,Qa h.box 5 _ Z,Qa h.box 6 _ Z,Qa h.box 7 _ Z,Qa h.box 8 _ Z⟩
theorem QaM {a:Nat}{t:MTo}(h:t.form a true=0):(0<=t.block/\t.block<a)/\t.regs.length<=16/\t.args.length<=8:=by
 unfold MTo.form at h;rw[Xr (by simp)] at h
 split at h
 ·cases h
 split at h
 ·cases h
 omega
section
variable {w w' w2:World}{b most n:Nat}{m:List (MFunc 6)}{M M' N:IM}{sc sa:Int}{g g1:MG}{e:Ending}
theorem QbU {a:Nat}{t:MTo}(h:t.form a true=0):0<=t.block/\t.block<(a:Int)/\t.regs.length<=16/\t.args.length<=8:=by
 unfold MTo.form at h;rw[Xr (by simp)] at h
 split at h
 ·cases h
 ·split at h
  ·cases h
  ·omega
theorem Qfo {a:Nat}{x:Z0}(h:x.form a=0):(1<=x.op/\x.op<=3)/\x.args.length<=8/\(x.op≠3->x.yes.form a true=0)/\(x.op=2->x.no.form a true=0):=by
 unfold Z0.form at h;split at h
 ·cases h
 rename_i c
 split at h
 ·cases h
 split at h
 ·cases h
 rename_i d
 split at h
 ·rename_i b;exact absurd h b
 rename_i b
 refine⟨by omega,by omega,fun e=>?_,fun e=>?_⟩
 ·have:decide (x.op≠3)=true:=Xt e
  rw[this] at b
  exact Xq.1 b
 ·have:decide (x.op=2)=true:=Xt e
  rw[this] at h
  exact h
theorem Qi0 (S:MAt w b most m M sc sa g) (I:Qai n M) (hd:M.rest.length<=39) (aa:∀ d∈M.rest,d.v.length+8<=1000000){fn:MFunc 6}(hf:m[M.top.f]?=some fn) (hm:m.length<=8) (hr:fn.right m.length){x:Z0}{j:EP}(EI:EIn w Q2 x j) (hx:x.form fn.blocks.length=0) :
 Calls prog 87 #[Pv b 0,Pv g.t.c 0,.agg (Qdl x j)] w fun e w'=>Qc6 g w b most m M sc sa (IM.endd fn M x) e w':=by
 obtain⟨ae,ab,J,W⟩:=Qfo hx
 have F:=Qc (QW w (.cells (Qdl x j) 84));have A:=Qc (Qf w (Qdl x j) 84);have HS:=Qc S;have S1:=Qc (S.below F.out);have HI:=Qc I;have TB:=Qc (S.stepB F.out)
 have B:Hid (∀ t:MTo,t.form fn.blocks.length true=0->∃ (P:Nat) (bl:MBlock 6),t.block=(P:Int)/\fn.blocks[P]?=some bl/\bl.params.length<=1000):=fun t ht=>by
  obtain⟨h0,l,-,-⟩:=QbU ht
  obtain⟨P,ac⟩:=Xc h0
  have hl:P<fn.blocks.length:=by omega
  exact⟨P,fn.blocks[P],ac,Zg hl,by have:=(hr.blocks _ (List.getElem_mem hl)).params.1;omega⟩
 have Q:Hid (∀ (t:MTo) (pr pa:Option Addr) (cr ca:Nat) u,t.form fn.blocks.length true=0->Qgm w Q2 t pr cr pa ca->Below w.heap.size w u->Calls prog 132 #[Pv b 0,Pv g.t.c 0,.agg #[Iv t.block,.slice pr t.regs.length cr,.slice pa t.args.length ca]] u fun e w'=>Ql g w b most m M sc sa (IM.to fn M t) e w'):=fun t pr pa cr ca u ht hi G=>by
  obtain⟨P,bl,l,s,K⟩:=B.out t ht
  obtain⟨-,-,h4,i⟩:=QbU ht
  refine(QhX (S.below G) I hf l s ⟨by omega,by have:=hr.many.2;omega,K⟩ (Ya hi.regs G) (Ya hi.args G) ⟨by omega,by omega⟩).mono (fun e w' h=>?_)
  have T:=S.stepB G
  cases hres:IM.to fn M t with
  | none=>rw[hres] at h;exact⟨h.1,XTo.then T Z Z h.2⟩
  | some M' =>
    rw[hres] at h
    rcases h with ⟨l,s⟩|⟨N,k,l,s,K⟩
    ·exact .inl ⟨l,XTo.then T Z Z s⟩
    ·exact .inr ⟨N,k,l,s,XTo.then T Z Z K⟩
 have CG:Hid (∀ u,Below w.heap.size w u->Calls prog 134 #[Pv b 0,Pv g.t.c 0,.slice j.pA x.args.length j.cA] u fun e w'=>Qc6 g w b most m M sc sa (IM.ret fn M x.args) e w'):=fun u G=>by
  refine(Qii (S.below G) I hd aa hf ⟨by omega,by have:=hr.results.1;omega⟩ (Ya EI.args G) ab).mono (fun e w' h=>?_)
  have T:=S.stepB G
  cases hres:IM.ret fn M x.args with
  | none=>rw[hres] at h;exact⟨h.1,XTo.then T Z Z h.2⟩
  | some M' =>
    rw[hres] at h
    rcases h with ⟨l,s⟩|⟨N,k,l,s,K⟩
    ·exact .inl ⟨l,XGo.then T s⟩
    ·exact .inr ⟨N,k,l,s,XTo.then T Z Z K⟩
 have CN:Hid (∀ u,Below w.heap.size w u->Calls prog 133 #[Pv g.t.c 0,Iv x.a] u fun e w'=>Ask (Qu M.top.v x.a) (.int .i64) e/\Below u.heap.size u w'):=fun u G=>ZH (S.top.below G) (by have:=I.len;omega) x.a;have r:=Qc EI;have O:=Qc (Xh J W);have E:=Qc (show IM.endd fn M x=if x.op=1 then M.to fn x.yes else if x.op=2 then (match Qu M.top.v x.a with | none=>none | some n=>if n=0 then M.to fn x.no else M.to fn x.yes) else IM.ret fn M x.args from Z);generalize IM.endd fn M x=y at E |-;clear S I EI hx J W aa hf hr B;go_enter func87,ntmps87
 go_upto_region 1 with fail
 generalize w.alloc (.cells (Qdl x j) 84)=z at F A S1 TB |-;generalize w.heap.size=X at A |-;have V:z.cell? ⟨X,0,none⟩=some (Iv x.op):=Qa A.out 0 _ Z;have x1:z.cell? ⟨X,1,none⟩=some (Iv x.a):=Qa A.out 1 _ Z;have x2:z.cell? ⟨X,2,none⟩=some (Iv x.yes.block):=Qa A.out 2 _ Z;have x3:z.cell? ⟨X,3,none⟩=some (.slice j.pYR x.yes.regs.length j.cYR):=Qa A.out 3 _ Z;have x4:z.cell? ⟨X,4,none⟩=some (.slice j.pYA x.yes.args.length j.cYA):=Qa A.out 4 _ Z;have x5:z.cell? ⟨X,5,none⟩=some (Iv x.no.block):=Qa A.out 5 _ Z;have x6:z.cell? ⟨X,6,none⟩=some (.slice j.pNR x.no.regs.length j.cNR):=Qa A.out 6 _ Z;have x7:z.cell? ⟨X,7,none⟩=some (.slice j.pNA x.no.args.length j.cNA):=Qa A.out 7 _ Z;have x8:z.cell? ⟨X,8,none⟩=some (.slice j.pA x.args.length j.cA):=Qa A.out 8 _ Z;by_cases l:x.op=1
 ·have p:Hid (y=M.to fn x.yes):=by show _=_;rw[E.out,Xs l]
  have C:=Qc (Q.out x.yes _ _ _ _ z (O.out.1 (by omega)) r.out.yes F.out);rw[l] at V
  clear Q CG CN E x1 x5 x6 x7 x8 O r;generalize M.to fn x.yes=L at p C;go_wp2_with fail
  refine C.out.mono ?_;rintro R w5 i;have i:=Ql.toEnd i;have o:=Qc i
  cases L with
  | none=>rcases i with ⟨rfl,-⟩;exact⟨Z,by rw[p.out];exact o.out⟩
  | some M' =>
    rcases i with ⟨rfl,-⟩|⟨N,k,-,rfl,-⟩
    ·clear C V x2 x3 x4;go_wp2
     exact Xz (v:=.tuple #[]) (by simp[results,results87,go_sem]) Z (by rw[p.out];exact o.out)
    ·exact⟨Z,by rw[p.out];exact o.out⟩
 by_cases s:x.op=2
 ·have p:Hid (y=match Qu M.top.v x.a with | none=>none | some n=>if n=0 then M.to fn x.no else M.to fn x.yes):=by show _=_;rw[E.out,Xr l,Xs s]
  have C:=Qc (CN.out z F.out);rw[s] at V
  clear CG CN E x8;go_upto_region 5 with fail
  cases hn:Qu M.top.v x.a with
  | none =>
    rw[hn] at C p
    go_wp2_with fail
    refine C.out.mono ?_;rintro R w5 ⟨i,D⟩;have i:R=.panicked stuckP:=i;subst i;exact⟨Z,by rw[p.out];exact⟨Z,XTo.same HS.out (F.out.trans (D.mono F.out.size))⟩⟩
  | some q =>
    rw[hn] at C p
    have E3:Hid (y=if q=0 then M.to fn x.no else M.to fn x.yes):=p.out;go_wp2_with fail
    refine C.out.mono ?_;rintro R w5 ⟨i,D⟩;have i:R=.returned (Iv q):=i;subst i;have B5:=Qc (F.out.trans (D.mono F.out.size));have y2:=Qo x2 D;have y3:=Qo x3 D;have y4:=Qo x4 D;have y5:=Qo x5 D;have y6:=Qo x6 D;have y7:=Qo x7 D;clear V x1 x2 x3 x4 x5 x6 x7 D C p;by_cases U:q=0
    ·have ad:(q != 0)=false:=by simpa using U
     have H:Hid (y=M.to fn x.no):=by show _=_;rw[E3.out,Xs U]
     have C:=Qc (Q.out x.no _ _ _ _ w5 (O.out.2 s) r.out.no B5.out);clear Q E3 O r U y2 y3 y4;generalize M.to fn x.no=L at H C;go_wp2_with fail
     refine C.out.mono ?_;rintro R w6 i;have i:=Ql.toEnd i;have o:=Qc i
     cases L with
     | none=>rcases i with ⟨rfl,-⟩;exact⟨Z,by rw[H.out];exact o.out⟩
     | some M' =>
       rcases i with ⟨rfl,-⟩|⟨N,k,-,rfl,-⟩
       ·clear C y5 y6 y7;go_wp2
        exact Xz (v:=.tuple #[]) (by simp[results,results87,go_sem]) Z (by rw[H.out];exact o.out)
       ·exact⟨Z,by rw[H.out];exact o.out⟩
    ·have ad:(q != 0)=true:=by simpa using U
     have H:Hid (y=M.to fn x.yes):=by show _=_;rw[E3.out,Xr U]
     have C:=Qc (Q.out x.yes _ _ _ _ w5 (O.out.1 (by omega)) r.out.yes B5.out);clear Q E3 O r U y5 y6 y7;generalize M.to fn x.yes=L at H C;go_wp2_with fail
     refine C.out.mono ?_;rintro R w6 i;have i:=Ql.toEnd i;have o:=Qc i
     cases L with
     | none=>rcases i with ⟨rfl,-⟩;exact⟨Z,by rw[H.out];exact o.out⟩
     | some M' =>
       rcases i with ⟨rfl,-⟩|⟨N,k,-,rfl,-⟩
       ·clear C y2 y3 y4;go_wp2
        exact Xz (v:=.tuple #[]) (by simp[results,results87,go_sem]) Z (by rw[H.out];exact o.out)
       ·exact⟨Z,by rw[H.out];exact o.out⟩
 have K:x.op=3:=by omega
 have p:Hid (y=IM.ret fn M x.args):=by show _=_;rw[E.out,Xr l,Xr s]
 have C:=Qc (CG.out z F.out);rw[K] at V
 clear Q CG CN E x1 x2 x3 x4 x5 x6 x7 O r l s K;generalize IM.ret fn M x.args=L at p C;go_wp2_with fail
 refine C.out.mono ?_;rintro R w5 i;have o:=Qc i
 cases L with
 | none=>rcases i with ⟨rfl,-⟩;exact⟨Z,by rw[p.out];exact o.out⟩
 | some M' =>
   rcases i with ⟨rfl,-⟩|⟨N,k,-,rfl,-⟩
   ·clear C V x8;go_wp2
    exact Xz (v:=.tuple #[]) (by simp[results,results87,go_sem]) Z (by rw[p.out];exact o.out)
   ·exact⟨Z,by rw[p.out];exact o.out⟩
end
def tru (p:Bool):Int:=if p then 1 else 0
theorem Qoo (a b:Int) (w:World):Calls prog 136 #[Iv 1,Iv a,Iv b] w fun e w'=>e=.returned (.tuple #[Iv (wrap64 (a+b)),.bool true])/\w'=w:=by
 go_enter func136,ntmps136
 go_wp2
 go_ret2;exact⟨Z,Z⟩
theorem Qoa (a b:Int) (w:World):Calls prog 136 #[Iv 2,Iv a,Iv b] w fun e w'=>e=.returned (.tuple #[Iv (wrap64 (a - b)),.bool true])/\w'=w:=by
 go_enter func136,ntmps136
 go_wp2
 go_ret2;exact⟨Z,Z⟩
theorem Qor (a b:Int) (w:World):Calls prog 136 #[Iv 3,Iv a,Iv b] w fun e w'=>e=.returned (.tuple #[Iv (wrap64 (a*b)),.bool true])/\w'=w:=by
 go_enter func136,ntmps136
 go_wp2
 go_ret2;exact⟨Z,Z⟩
theorem Qn5 (a b:Int) (w:World) (hb:(b==0)=false) (hn:¬ b=0):Calls prog 136 #[Iv 4,Iv a,Iv b] w fun e w'=>e=.returned (.tuple #[Iv (wrap64 (a.tdiv b)),.bool true])/\w'=w:=by
 go_enter func136,ntmps136
 go_wp2
 go_ret2;exact⟨Z,Z⟩
theorem Qne (a:Int) (w:World):Calls prog 136 #[Iv 4,Iv a,Iv 0] w fun e w'=>e=.returned (.tuple #[Iv 0,.bool false])/\w'=w:=by
 go_enter func136,ntmps136
 go_wp2
 go_ret2;exact⟨Z,Z⟩
theorem Qoq (a b:Int) (w:World) (hb:(b==0)=false) (hn:¬ b=0):Calls prog 136 #[Iv 5,Iv a,Iv b] w fun e w'=>e=.returned (.tuple #[Iv (a.tmod b),.bool true])/\w'=w:=by
 go_enter func136,ntmps136
 go_wp2
 go_ret2;exact⟨Z,Z⟩
theorem Qnn (a:Int) (w:World):Calls prog 136 #[Iv 5,Iv a,Iv 0] w fun e w'=>e=.returned (.tuple #[Iv 0,.bool false])/\w'=w:=by
 go_enter func136,ntmps136
 go_wp2
 go_ret2;exact⟨Z,Z⟩
theorem Qoh (a b:Int) (w:World):Calls prog 136 #[Iv 6,Iv a,Iv b] w fun e w'=>e=.returned (.tuple #[Iv (tru (decide (a<b))),.bool true])/\w'=w:=by
 by_cases h:a<b
 ·have c:tru (decide (a<b))=1:=by simp[tru,h]
  rw[c]
  go_enter func136,ntmps136
  go_wp2
  go_ret2;exact⟨Z,Z⟩
 ·have c:tru (decide (a<b))=0:=by simp[tru,h]
  rw[c]
  go_enter func136,ntmps136
  go_wp2
  go_ret2;exact⟨Z,Z⟩
theorem Qn8 (a b:Int) (w:World):Calls prog 136 #[Iv 7,Iv a,Iv b] w fun e w'=>e=.returned (.tuple #[Iv (tru (a==b)),.bool true])/\w'=w:=by
 cases h:(a==b)
 ·go_enter func136,ntmps136
  go_wp2
  go_ret2;exact⟨Z,Z⟩
 ·go_enter func136,ntmps136
  go_wp2
  go_ret2;exact⟨Z,Z⟩
theorem Qov (a b:Int) (w:World):Calls prog 136 #[Iv 8,Iv a,Iv b] w fun e w'=>e=.returned (.tuple #[Iv (bits .and .i64 a b),.bool true])/\w'=w:=by
 go_enter func136,ntmps136
 go_wp2
 go_ret2;exact⟨Z,Z⟩
theorem Qoe (a b:Int) (w:World):Calls prog 136 #[Iv 9,Iv a,Iv b] w fun e w'=>e=.returned (.tuple #[Iv (bits .xor .i64 a b),.bool true])/\w'=w:=by
 go_enter func136,ntmps136
 go_wp2
 go_ret2;exact⟨Z,Z⟩
theorem Qom (k a b:Int) (w:World) (c:k<1\/9<k):Calls prog 136 #[Iv k,Iv a,Iv b] w fun e w'=>e=.returned (.tuple #[Iv 0,.bool false])/\w'=w:=by
 rcases c with c | c
 ·go_enter func136,ntmps136
  go_wp2
  go_ret2;exact⟨Z,Z⟩
 ·go_enter func136,ntmps136
  go_wp2
  go_ret2;exact⟨Z,Z⟩
def aOp (k a b:Int):Option Int :=
 if k=1 then some (wrap64 (a+b)) else if k=2 then some (wrap64 (a - b)) else if k=3 then some (wrap64 (a*b))
 else if k=4 then (if b=0 then none else some (wrap64 (a.tdiv b))) else if k=5 then (if b=0 then none else some (a.tmod b))
 else if k=6 then some (tru (decide (a<b))) else if k=7 then some (tru (a==b)) else if k=8 then some (bits .and .i64 a b) else if k=9 then some (bits .xor .i64 a b) else none
theorem QlY (k a b:Int) (w:World):Calls prog 136 #[Iv k,Iv a,Iv b] w fun e w'=>e=.returned (.tuple #[Iv ((aOp k a b).getD 0),.bool (aOp k a b).isSome])/\w'=w:=by
 by_cases l:k=1
 ·subst l;exact Qoo a b w
 by_cases g:k=2
 ·subst g;exact Qoa a b w
 by_cases m:k=3
 ·subst m;exact Qor a b w
 by_cases i:k=4
 ·subst i;by_cases c:b=0
  ·subst c;exact Qne a w
  ·have:aOp 4 a b=some (wrap64 (a.tdiv b)):=by simp[aOp,c]
   rw[this];exact Qn5 a b w (by simpa using c) c
 by_cases j:k=5
 ·subst j;by_cases c:b=0
  ·subst c;exact Qnn a w
  ·have:aOp 5 a b=some (a.tmod b):=by simp[aOp,c]
   rw[this];exact Qoq a b w (by simpa using c) c
 by_cases n:k=6
 ·subst n;exact Qoh a b w
 by_cases f:k=7
 ·subst f;exact Qn8 a b w
 by_cases d:k=8
 ·subst d;exact Qov a b w
 by_cases h:k=9
 ·subst h;exact Qoe a b w
 ·have:aOp k a b=none:=by simp[aOp,l,g,m,i,j,n,f,d,h]
  rw[this];exact Qom k a b w (by omega)
theorem Qcf (x:Int):Zp (wrap64 x):=by unfold Zp wrap64;omega
theorem Ql3 (a b:Int):Zp (bits .and .i64 a b):=by
 have:bits .and .i64 a b=wrap64 ((BitVec.ofInt 64 a &&& BitVec.ofInt 64 b).toNat:Int):=by show IntKind.i64.wrap _=_;rw[IntKind.wrap_i64];unfold wrap64;rfl
 rw[this];exact Qcf _
theorem QmP (a b:Int):Zp (bits .xor .i64 a b):=by
 have:bits .xor .i64 a b=wrap64 ((BitVec.ofInt 64 a ^^^ BitVec.ofInt 64 b).toNat:Int):=by show IntKind.i64.wrap _=_;rw[IntKind.wrap_i64];unfold wrap64;rfl
 rw[this];exact Qcf _
theorem QkT (p:Bool):Zp (tru p):=by cases p<;>exact⟨by decide,by decide⟩
theorem QmK {a b:Int}(hb:Zp b) (d:b≠0):Zp (a.tmod b):=by
 have c:=Int.natAbs_tmod a b;have e:(a.tmod b).natAbs<b.natAbs:=by rw[c];exact Nat.mod_lt _ (Int.natAbs_pos.2 d)
 generalize a.tmod b=x at *;unfold Zp at *;omega
theorem Qg6 {k a b n:Int}(p:Zp a) (hb:Zp b) (h:aOp k a b=some n):Zp n:=by
 unfold aOp at h;by_cases l:k=1
 ·rw[Xs l] at h;cases h;exact Qcf _
 rw[Xr l] at h
 by_cases f:k=2
 ·rw[Xs f] at h;cases h;exact Qcf _
 rw[Xr f] at h
 by_cases m:k=3
 ·rw[Xs m] at h;cases h;exact Qcf _
 rw[Xr m] at h
 by_cases i:k=4
 ·rw[Xs i] at h
  by_cases c:b=0
  ·rw[Xs c] at h;cases h
  ·rw[Xr c] at h;cases h;exact Qcf _
 rw[Xr i] at h
 by_cases j:k=5
 ·rw[Xs j] at h
  by_cases c:b=0
  ·rw[Xs c] at h;cases h
  ·rw[Xr c] at h;cases h;exact QmK hb c
 rw[Xr j] at h
 by_cases o:k=6
 ·rw[Xs o] at h;cases h;exact QkT _
 rw[Xr o] at h
 by_cases e:k=7
 ·rw[Xs e] at h;cases h;exact QkT _
 rw[Xr e] at h
 by_cases d:k=8
 ·rw[Xs d] at h;cases h;exact Ql3 _ _
 rw[Xr d] at h
 by_cases g:k=9
 ·rw[Xs g] at h;cases h;exact QmP _ _
 rw[Xr g] at h
 cases h
end Go.Proofs.YtjhdpajpibdnaafGreat
