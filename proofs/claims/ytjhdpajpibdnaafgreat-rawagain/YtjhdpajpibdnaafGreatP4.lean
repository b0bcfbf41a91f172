import Derived.Test.YtjhdpajpibdnaafGreatP3
import Derived.Deep.Upon
import Derived.SizedLaws
set_option maxHeartbeats 16000000
set_option maxRecDepth 100000
namespace Go.Proofs.YtjhdpajpibdnaafGreat
open Go.ChangeShapes Go.WideShapes Go.ChangeAt Go.RowKit _root_.Go.Proofs.Tryz
set_option linter.unusedSimpArgs false
set_option linter.unusedVariables false
variable {w w' w6 w1 w2:World}{n b c k m rc ac X j B i cm g N d f fi cap bp q R pages id bi cc funcs s ci rl al ca ri vl most cR cA G:Nat}{O Q O':Nat→Prop}{l xs regs inp:List Int}{p a rg ag pm pi pa pR pA ra aa:Option Addr}{t e:TypeId}{v:Value}{P:Program}{L bs:List Bool}{x ya xc xk fr xa xb xn yb:Int}{ds cs:List Value}{ops:Array Oper}
def Qcf (w:World) (l:List Int) (e:Ending) (w':World):Prop:=∃ a cap,e=.returned (.slice a l.length cap)/\l.length<=cap/\w'.ownsRow 0 2 1 (.slice a l.length cap) l.length (l.map (Value.int .i64))/\(∀ x,(Value.slice a l.length cap).ownBlock=some x->w.heap.size<=x)/\Below w.heap.size w w'
theorem Qkf (h:w.ownsRow 0 2 1 (.slice a l.length cap) l.length (l.map (Value.int .i64))) (c:∀ x∈l,Qnb x) (o:∀ x,(Value.slice a l.length cap).ownBlock=some x->O x):intsL.In w O l [.slice a l.length cap]:=by
 refine⟨a,cap,Z,fun i x b=>?_⟩
 have r:=(Zi b).1;rcases h.2 with ⟨e,t⟩|⟨g,u,n,e,_,k,q,p,s,m⟩
 ·omega
 ·rw[Value.slice.injEq] at e
  obtain⟨rfl,-,rfl⟩:=e
  refine⟨g,0,[Iv x],Z,o g Z,XC k,fun j d=>?_,Z,c x (Zm b)⟩
  have d:j<1:=d
  have:j=0:=by omega
  subst this;show w.cell? ⟨g,0+i*1+0,none⟩=_;rw[XK,XL,Nat.add_zero]
  have f:(l.map (Value.int .i64))[i]?=some (Iv x):=by rw[XS,b];rfl
  rw[<-m,XR,Xs (by omega),Array.getElem?_toList] at f
  exact Qb k _ _ f
theorem QcV (h:∀ i,i<l.length->∃ g o,p=some ⟨g,o,none⟩/\w.cell? ⟨g,o+i,none⟩=some (Iv (l.getD i 0))) (hn:l.length<=1000000) :
 Calls prog 48 #[.slice p l.length c] w fun e w'=>Qcf w l e w':=by
 obtain⟨W,hi,v,F,E⟩:=iInfo64
 have q:∀ (w:World) (a:Option Addr) (n c z D:Nat),(binOp .eql 25 (.slice a n c) (.slice none z D)).run prog w=.ok (.bool a.isNone) w:=fun w a n c z D=>Lib.run_eql_slice_nil w _ _ a n c z D iUnder64
 cases p with
 | none =>
   have H:l=[]:=by
    cases l with
    | nil=>rfl
    | cons y T =>
      obtain⟨g,o,e,-⟩:=h 0 (by simp)
      cases e
   subst H;clear h;go_enter func48,ntmps48
   go_wp2
   go_ret;exact⟨none,0,Z,Ze,⟨Z,.inl ⟨Z,Z⟩⟩,fun x C=>by simp[Value.ownBlock] at C,Zr⟩
 | some ad =>
   have O:Hid (∀ (j:Nat) (u:Value),(l.map (Value.int .i64))[j]?=some u->(w.alloc (.cells #[] 2)).cell? (ad.add j)=some u):=by
    intro j u t;rw[XS] at t
    obtain⟨y,J,rfl⟩:=Option.map_eq_some_iff.1 t
    have hj:=(Zi J).1;obtain⟨g,o,e,hc⟩:=h j hj
    cases e
    rw[Addr.add_lit]
    refine Lib.cell?_alloc_some _ ?_;rw[hc]
    simp[List.getD,J]
   have S:Hid (∀ u∈l.map (Value.int .i64),u.oneCell'=true):=by intro u t;obtain⟨x,_,rfl⟩:=List.mem_map.1 t;rfl
   have Q:Hid ((l.map (Value.int .i64)).length=l.length*1):=by show _=_;simp
   have f:=Qc (ZO w (.cells #[] 2));have K:Hid ((w.alloc (.cells #[] 2)).heap.size=w.heap.size+1):=by show _=_;simp
   clear h;generalize r:l.map (Value.int .i64)=T at *;have A:=Qc r;generalize s:l.length=nn at *;have G:=Qc s;clear r s;go_enter func48,ntmps48
   go_wp2_with (at_builtin;refine ZP _ Z _ _ 25 Z 2 W (Iv 0) 1 8 iUnder64 hi v F E Z (by decide) _ _ _ Z (World.ownsRow_made w #[] 0 (Xb _) (Xb _) Z) ad nn c T Z Q.out O.out S.out (by unfold maxLen;omega) (by omega) ?_)
   intro M N B d P
   have R:Hid (Qcf w l (.returned M) N):=by
    have b:N.ownsRow 0 2 1 M l.length (l.map (Value.int .i64)):=by rw[A.out,G.out];simpa using B
    obtain⟨L,I,rfl⟩:=QaR b
    have m:l.length<=I:=by
     rcases b.2 with ⟨e,e0⟩|⟨g,cp,V,e,_,hh,U,_⟩
     ·rw[Value.slice.injEq] at e;omega
     ·rw[Value.slice.injEq] at e;omega
    refine⟨L,I,Z,m,b,fun x C=>?_,?_⟩
    ·rcases P x C with e | e
     ·simp[Value.ownBlock] at e;omega
     ·have:=K.out;omega
    ·refine⟨d.os.trans f.out.os,d.tape.trans f.out.tape,d.output.trans f.out.output,Zt f.out.size d.size,fun k X=>(d.block k (by have:=K.out;omega) (fun e=>by simp[Value.ownBlock] at e;omega)).trans (f.out.block k X)⟩
   obtain⟨L,I,rfl⟩:=QaR B
   clear B d P O S Q f;go_wp2
   go_ret;exact R.out
theorem Qhv (h:intsL.In w Q l [.slice p l.length c]) (b:l.length<=1000000) :
 Calls prog 48 #[.slice p l.length c] w fun e w'=>Qcf w l e w' :=
 QcV (fun i a=>by obtain⟨g,o,e,-,-,d⟩:=ZI h a;exact⟨g,o,e,d⟩) b
def QiZ (lo:Nat) (l:List Int) (v:Value) (w:World):Prop:=∃ a cap,v=.slice a l.length cap/\l.length<=cap/\w.ownsRow 0 2 1 (.slice a l.length cap) l.length (l.map (Value.int .i64))/\∀ x,(Value.slice a l.length cap).ownBlock=some x->lo<=x
theorem QiZ.below {lo:Nat}{w w':World}(h:QiZ lo l v w) (b:Below w.heap.size w w'):QiZ lo l v w':=by
 obtain⟨a,c,f,g,d,i⟩:=h
 exact⟨a,c,f,g,QZ d (fun x e=>b.block x (XC (ZU d e).choose_spec)),i⟩
section
variable {w w' w2:World}{b most n:Nat}{m:List (MFunc 6)}{M M' N:IM}{sc sa:Int}{g g1:MG}{e:Ending}
theorem QhV {w:World}{a0 f e g:Value}(h:w.heap[R]?=some (.cells #[a0,f,e,g] 44 (0,0))) (b c d a:Value) :
 ((((w.setCell ⟨R,0,none⟩ b).setCell ⟨R,1,none⟩ c).setCell ⟨R,2,none⟩ d).setCell ⟨R,3,none⟩ a).heap[R]?=some (.cells #[b,c,d,a] 44 (0,0)):=by
 have:=Qh (Qh (Qh (Qh h 0 b) 1 c) 2 d) 3 a
 simpa using this
end
theorem WIn.cells {w:World}(h:WIn w O l (.slice p n c)):∀ i,i<l.length->∃ g o,p=some ⟨g,o,none⟩/\w.cell? ⟨g,o+i,none⟩=some (Iv (l.getD i 0)):=fun i a=>by
 obtain⟨q,d,e,h⟩:=h
 cases e
 obtain⟨k,o,b,-,-,f⟩:=h i a
 exact⟨k,o,b,f⟩
def QnH (w6:World) (Z cb co:Nat) (pb po:Option Addr) (lb lo:List Int) (t:Tmp) (v:Value) (w:World):Prop :=
 match ([(10,QiZ w6.heap.size lb),(13,QiZ w6.heap.size lo)]:List (Tmp × (Value->World->Prop))).lookup t with
 | some p=>p v w
 | none=>v=(([(3,.pointer (some ⟨Z,0,none⟩)),(8,.pointer (some ⟨Z,1,none⟩)),(9,.slice pb lb.length cb),(11,.pointer (some ⟨Z,2,none⟩)),(12,.slice po lo.length co),(14,.pointer (some ⟨Z,1,none⟩))]:List (Tmp × Value)).lookup t).getD undef
theorem wo2 {Z u A:Nat}{y s:Option Addr}{j lo:List Int}(F:w6.cell? ⟨Z,1,none⟩=some (.slice y j.length u)) (E:w6.cell? ⟨Z,2,none⟩=some (.slice s lo.length A)) (I:Hid (∀ wx,Below w6.heap.size w6 wx->Calls prog 48 #[.slice y j.length u] wx fun e w'=>Qcf wx j e w')) (G:Hid (∀ wx,Below w6.heap.size w6 wx->Calls prog 48 #[.slice s lo.length A] wx fun e w'=>Qcf wx lo e w')){Q:Exit->Act->World->Prop}
 (a:Act) (m:Nat) (C:a.tmps.size=m) (k:17<=m) (i:a.tmps.getD 3 undef=Pv Z 0)
 (hend:∀ ops vs w',(QiZ w6.heap.size j) (vs 10) w'->(QiZ w6.heap.size lo) (vs 13) w'->vs 14=Pv Z 1->Below w6.heap.size w6 w'->wpList prog ops Q (Qam 7 ((Tryz.f37.body.bind (Qi 2)).getD .skip)) (QM a vs [8,9,10,11,12,13,14]) w') :
 Code.wp prog ((Tryz.f37.body.bind (Qi 2)).getD .skip) Q a w6:=by
 conv=>arg 2;whnf
 refine Qg 7 (QnH w6 Z u A y s j lo) (fun w=>Below w6.heap.size w6 w) (fun w w'=>Below w.heap.size w w') (outs:=[3]) (gs:=[]) (bs:=[true,true,true,true,true,true,true]) (by kernel_rfl) (n:=17) C k (by kernel_rfl) (by kernel_rfl) ?hR ?hG (QI Zr 1) ⟨i,Y⟩ ?hA ?hend
 case hR =>
  intro t v w w' B h;unfold QnH at h |-;split at h
  ·rename_i p d
   simp only[List.lookup_cons,List.lookup_nil] at d
   split at d
   ·cases d;exact h.below B
   ·split at d
    ·cases d;exact h.below B
    ·cases d
  ·exact h
 case hG=>exact Y
 case hend=>exact fun ops vs w' b c=>hend ops vs w' (c 10 (by kernel_rfl)) (c 13 (by kernel_rfl)) (c 14 (by kernel_rfl)) b
 case hA =>
  repeat
   refine⟨fun a w b c K l=>?_,?_⟩
   focus first
    | obtain⟨g,-⟩:=c
      conv at g=>whnf;rhs;whnf
      have L:=Qk F b;have J:=Qk E b;go_simp;exact l _ _ Zr b Yz
    | obtain⟨g,-⟩:=c
      conv at g=>whnf;rhs;whnf
      go_simp;refine Xm (I.out w b) ?_;rintro D H ⟨o,z,rfl,q,r,i,f⟩;go_simp;exact l _ _ f (b.trans (f.mono b.size)) ⟨o,z,Yz,q,r,fun x hx=>Zt b.size (i x hx)⟩
    | obtain⟨g,-⟩:=c
      conv at g=>whnf;rhs;whnf
      go_simp;refine Xm (G.out w b) ?_;rintro D H ⟨o,z,rfl,q,r,i,f⟩;go_simp;exact l _ _ f (b.trans (f.mono b.size)) ⟨o,z,Yz,q,r,fun x hx=>Zt b.size (i x hx)⟩
  trivial
section
variable {w w' w2:World}{b most:Nat}{m:List (MFunc 6)}{M M':RM}{g g1:WG}
def QjI (lo:Nat) (M:RM) (v:Value) (w:World):Prop:=∃ vb vo,v=.agg #[Iv M.fin,vb,vo,Iv M.fuel]/\QiZ lo M.back vb w/\QiZ lo M.out vo w
theorem Qch (S:WAt w b most m M g) (ho:M.out.length<=1000000) (hb:M.back.length<=1000000) :
 Calls prog 37 #[Pv b 0] w fun e w'=>∃ v,e=.returned v/\QjI w.heap.size M v w'/\Below w.heap.size w w':=by
 obtain⟨po,co,eo⟩:=QaR S.out
 obtain⟨pb,cb,eb,-⟩:=S.back
 have J:=Qc (ZO w (.cells #[Iv 0,Nv,Nv,Iv 0] 44));have BR:=Qc (Qe w #[Iv 0,Nv,Nv,Iv 0] 44);have z:=S.below J.out;have q5:=Qb z.box 5 _ Yz;have q6:(w.alloc (.cells #[Iv 0,Nv,Nv,Iv 0] 44)).cell? ⟨b,6,none⟩=some g.vb:=Qb z.box 6 _ Yz;have q7:(w.alloc (.cells #[Iv 0,Nv,Nv,Iv 0] 44)).cell? ⟨b,7,none⟩=some g.vo:=Qb z.box 7 _ Yz;have q8:=Qb z.box 8 _ Yz;rw[eb] at q6
 rw[eo] at q7
 have HB:=Qc z.back;have HO:=Qc z.out;rw[eb] at HB
 rw[eo] at HO
 clear S z eo eb;go_enter func37,ntmps37
 go_upto_region 1 with fail
 generalize w.alloc (.cells #[Iv 0,Nv,Nv,Iv 0] 44)=L at J BR q5 q6 q7 q8 HB HO |-;generalize hR:w.heap.size=R at BR |-;have HR:=Qc hR;clear hR;have I:=Qc (ZO L (.cells #[Iv M.fin,.slice pb M.back.length cb,.slice po M.out.length co,Iv M.fuel] 44));have D:=Qc (Qe L #[Iv M.fin,.slice pb M.back.length cb,.slice po M.out.length co,Iv M.fuel] 44);go_upto_region 2 with fail
 have C:Hid (R≠L.heap.size):=by show _≠_;have:=XC BR.out;omega
 have H:Hid (w.heap.size<=L.heap.size):=J.out.size;generalize L.alloc (.cells #[Iv M.fin,.slice pb M.back.length cb,.slice po M.out.length co,Iv M.fuel] 44)=K at I D |-;generalize L.heap.size=Z at D C H |-;have CB:Hid (∀ o,Below K.heap.size K o->Calls prog 48 #[.slice pb M.back.length cb] o fun e w'=>Qcf o M.back e w'):=fun o bx=>QcV (WIn.cells (WIn.keep (fun k _ f=>bx.block k f) (fun _ h _=>h) (WIn.keep (fun k _ f=>I.out.block k f) (fun _ h _=>h) HB.out))) hb;have CO:Hid (∀ o,Below K.heap.size K o->Calls prog 48 #[.slice po M.out.length co] o fun e w'=>Qcf o M.out e w'):=fun o bx=>QcV (WIn.cells (WIn.keep (fun k _ f=>bx.block k f) (fun _ h _=>h) (WIn.keep (fun k _ f=>I.out.block k f) (fun _ h _=>h) (HO.out.lin (O:=fun _=>True) (fun _ _=>trivial))))) ho;have G:=Qc (J.out.trans (I.out.mono J.out.size));have ac:=Qc (Blk.below BR.out I.out);refine wo2 (Qb D.out 1 _ Yz) (Qb D.out 2 _ Yz) CB CO _ _ Yz (Xg (by kernel_rfl)) Yz ?_;rintro af vs q ⟨i,j,y,N,P,ad⟩ ⟨l,a,s,T,aa,V⟩ t b5;show wpList _ af _ [_,_,_] (QM _ vs [8,9,10,11,12,13,14]) q;simp only[QM,Act.put,List.setIfInBounds_toArray,List.set_cons_zero,List.set_cons_succ,y,s,t]
 have c:=Blk.below D.out b5;have ah:=Qc (Blk.below ac.out b5);have B5:=Qc (G.out.trans (b5.mono G.out.size));have ag:Hid (Z<K.heap.size):=XC D.out;have B:=Qc (Xh P ad);have F:=Qc (Xh aa V);have X:=Qc (Xh N T);have k0:=Qb c 0 _ Yz;have k1:=Qb c 1 _ Yz;have k2:=Qb c 2 _ Yz;have k3:=Qb c 3 _ Yz;have y0:=Qj c 0;have y1:=Qj c 1;have y2:=Qj c 2;have y3:=Qj c 3;have A:=Qh (Qh c 1 (.slice i M.back.length j)) 2 (.slice l M.out.length a);have A:Hid (((q.setCell ⟨Z,1,none⟩ (.slice i M.back.length j)).setCell ⟨Z,2,none⟩ (.slice l M.out.length a)).heap[Z]?=some (.cells #[Iv M.fin,.slice i M.back.length j,.slice l M.out.length a,Iv M.fuel] 44 (0,0))):=A.trans (by simp);have E:Hid (∀ k,k≠Z->((q.setCell ⟨Z,1,none⟩ (.slice i M.back.length j)).setCell ⟨Z,2,none⟩ (.slice l M.out.length a)).heap[k]?=q.heap[k]?):=fun k f=>by rw[Xd _ _ _ _ f,Xd _ _ _ _ f]
 have ae:Hid (q.heap.size=((q.setCell ⟨Z,1,none⟩ (.slice i M.back.length j)).setCell ⟨Z,2,none⟩ (.slice l M.out.length a)).heap.size):=by show _=_;simp
 have Q:Hid (Below w.heap.size w ((q.setCell ⟨Z,1,none⟩ (.slice i M.back.length j)).setCell ⟨Z,2,none⟩ (.slice l M.out.length a))):=(B5.out.setCell (p:=⟨Z,1,none⟩) H.out _).setCell (p:=⟨Z,2,none⟩) H.out _;clear y s t N P ad T aa V b5 CB CO c D q5 q6 q7 q8 HB HO J I;go_upto_region 3 with fail
 generalize (q.setCell ⟨Z,1,none⟩ (.slice i M.back.length j)).setCell ⟨Z,2,none⟩ (.slice l M.out.length a)=w6 at A E ae Q |-;clear k0 k1 k2 k3 y0 y1 y2 y3;have d:=Qc ((E.out R C.out).trans ah.out);have e0:=Qb A.out 0 _ Yz;have e1:=Qb A.out 1 _ Yz;have e2:=Qb A.out 2 _ Yz;have e3:=Qb A.out 3 _ Yz;have r0:=Qb d.out 0 _ Yz;have r1:=Qb d.out 1 _ Yz;have r2:=Qb d.out 2 _ Yz;have r3:=Qb d.out 3 _ Yz;have z0:=Qj d.out 0;have z1:=Qj d.out 1;have z2:=Qj d.out 2;have z3:=Qj d.out 3;have ai:¬ R=Z:=C.out;go_wp2_with fail
 have W:=QhV d.out (Iv M.fin) (.slice i M.back.length j) (.slice l M.out.length a) (Iv M.fuel);have r:w.heap.size<=R:=by rw[HR.out];exact Ze
 have B9:=(((Q.out.setCell (p:=⟨R,0,none⟩) r (Iv M.fin)).setCell (p:=⟨R,1,none⟩) r (.slice i M.back.length j)).setCell (p:=⟨R,2,none⟩) r (.slice l M.out.length a)).setCell (p:=⟨R,3,none⟩) r (Iv M.fuel);have O9:∀ k,k≠R->((((w6.setCell ⟨R,0,none⟩ (Iv M.fin)).setCell ⟨R,1,none⟩ (.slice i M.back.length j)).setCell ⟨R,2,none⟩ (.slice l M.out.length a)).setCell ⟨R,3,none⟩ (Iv M.fuel)).heap[k]?=w6.heap[k]?:=fun k f=>by rw[Xd _ _ _ _ f,Xd _ _ _ _ f,Xd _ _ _ _ f,Xd _ _ _ _ f]
 generalize ((((w6.setCell ⟨R,0,none⟩ (Iv M.fin)).setCell ⟨R,1,none⟩ (.slice i M.back.length j)).setCell ⟨R,2,none⟩ (.slice l M.out.length a)).setCell ⟨R,3,none⟩ (Iv M.fuel))=w9 at W B9 O9 |-
 have n:∀ x,K.heap.size<=x->w9.heap[x]?=q.heap[x]?:=fun x u=>by
  have h1:=ag.out;have h2:=XC ac.out;exact(O9 x (by omega)).trans (E.out x (by omega))
 have f0:=Qb W 0 _ Yz;have f1:=Qb W 1 _ Yz;have f2:=Qb W 2 _ Yz;have f3:=Qb W 3 _ Yz;have U:=G.out.size;exact Xy (v:=.agg #[Iv M.fin,.slice i M.back.length j,.slice l M.out.length a,Iv M.fuel]) (by simp[results,results37,go_sem,f0,f1,f2,f3]) Yz ⟨_,Yz,⟨_,_,Yz,⟨i,j,Yz,X.out.1,QZ B.out.1 (fun x u=>n x (B.out.2 x u)),fun x u=>Zt U (B.out.2 x u)⟩,⟨l,a,Yz,X.out.2,QZ F.out.1 (fun x u=>n x (F.out.2 x u)),fun x u=>Zt U (F.out.2 x u)⟩⟩,B9⟩
end
def Qhu {α:Type}(A:Lay α) (w w':World) (l:List α) (e:Ending):Prop:=∃ a' c',e=.returned (.slice a' l.length c')/\A.list.In w' (Qcv w.heap.size) l [.slice a' l.length c']/\Below w.heap.size w w'
def iv (l:List Int):List Value:=l.map (fun x=>Value.int .i64 x)
theorem QkH {lo:Nat}(h:w.ownsRow lo e 1 v l.length (iv l)) (d:∀ x∈l,I64 x):intsL.In w (Qcv lo) l [v] :=
 Qap.lay (A:=Lay.int) (e:=e) (xs:=iv l) ⟨h,fun i x a=>by
  have f:Lay.int.size=1:=rfl;rw[f,XL]
  have b:((iv l).drop i).take 1=[Iv x]:=by
   obtain⟨c,e⟩:=Zi a
   unfold iv;rw[<-List.map_drop,List.drop_eq_getElem_cons c]
   simp[e]
  rw[b]
  exact⟨Z,d x (Zm a)⟩⟩
theorem QkW (h:intsL.In w O l [.slice a m c]):∀ x∈l,I64 x:=by
 intro x e;obtain⟨i,d⟩:=List.mem_iff_getElem?.1 e
 obtain⟨g,o,f,_,_,_,_,b⟩:=Yf h d
 exact b.2
theorem Qj6 (h:intsL.In w O l [.slice a m c]) (n:0<l.length) :
 ∃ ad,a=some ad/\ad.block<w.heap.size/\∀ j v,(iv l)[j]?=some v->w.cell? (ad.add j)=some v:=by
 obtain⟨g,o,e,_,d,_⟩:=ZI h n
 refine⟨⟨g,o,none⟩,e,d,fun j v f=>?_⟩
 have b:j<l.length:=by have:=(Zi f).1;simpa[iv] using this
 obtain⟨q,p,i,_,_,k⟩:=ZI h b
 rw[e] at i
 cases i
 rw[show (⟨g,o,none⟩:Addr).add j=⟨g,o+j,none⟩ from by unfold Addr.add;split<;>simp_all,k,<-f]
 simp[iv,List.getD,b]
theorem Qdb (l:List Int):(iv l).length=l.length:=by simp[iv]
theorem Qmq (l:List Int):∀ v∈iv l,v.oneCell'=true:=by
 intro v a;obtain⟨x,_,rfl⟩:=List.mem_map.1 a
 rfl
theorem underIs:prog.underlying 76=some (.slice 3):=by kernel_rfl
theorem infoI:(prog.info? 3).map (fun i=>(i.zero,i.size,i.bytes))=some (some (Iv 0),1,8):=by kernel_rfl
theorem infoI1:(prog.info? 3).map (·.size)=some 1:=by kernel_rfl
theorem QaP (l:List Int) (p:Option Addr) (c:Nat) (w:World) (i:intsL.In w All l [.slice p l.length c]) (x:l.length<=4294967296) :
 Calls prog 231 #[.slice p l.length c] w fun e w'=>Qhu Lay.int w w' l e:=by
 have y:Hid _:=i;have t:Hid _:=QkW i;clear i;have q:=fun A=>run_make_row' (P:=prog) 76 3 (Iv 0) 8 underIs infoI Z .i64 .i64 l.length (by omega) (by omega) A
 have f:(w.alloc (.cells (madeCells #[Iv 0] l.length) 3)).heap[w.heap.size]?=some (.cells (madeCells #[Iv 0] l.length).toList.toArray 3 (0,0)):=by
  rw[Array.toArray_toList];exact Qe w _ _
 have g:(iv l).length=Nat.min l.length l.length:=by rw[Qdb];exact(Nat.min_self _).symm
 have b:Hid (0<(iv l).length->(some ⟨w.heap.size,0,none⟩:Option Addr)=some ⟨w.heap.size,0,none⟩/\∃ m,p=some m/\∀ j v,(iv l)[j]?=some v->(w.alloc (.cells (madeCells #[Iv 0] l.length) 3)).cell? (m.add j)=some v):=by
  intro r;rw[Qdb] at r
  obtain⟨m,e,n,u⟩:=Qj6 y.out r
  exact⟨Z,m,e,fun j v z=>(XU (w:=w) (a:=m.add j) (Below.heap_alloc _ _ _ (by unfold Addr.add;split<;>exact n))).trans (u j v z)⟩
 have h:0+(iv l).length<=(madeCells #[Iv 0] l.length).toList.length:=by rw[Qdb,toList_madeCells_one];simp
 have k:Hid (Below w.heap.size w (w.alloc (.cells (madeCells #[Iv 0] l.length) 3))):=(Below.refl _ w).alloc Ze _;go_enter func231,ntmps231
 go_wp2_with (refine wpList_copy_splice Z (.tmp 7) (.tmp 8) 76 76 Z 3 underIs infoI1 _ _ l.length l.length l.length c Z Z w.heap.size 0 (madeCells #[Iv 0] l.length).toList 3 f (iv l) g b.out h (Qmq l) w.heap.size w k.out Ze ?_)
 ·intro w' o d;clear b h k f g
  have R:Hid (Qhu Lay.int w w' l (.returned (.slice (some ⟨w.heap.size,0,none⟩) l.length l.length))):=by
   have s:splice (madeCells #[Iv 0] l.length).toList 0 (iv l)=iv l:=by
    rw[toList_madeCells_one];simp[splice,Qdb]
   rw[s] at o
   refine⟨_,_,Z,QkH ⟨by rw[Qdb,XL],Or.inr ⟨w.heap.size,l.length,(iv l).toArray,Z,Ze,o.out,Ze,by unfold maxLen;omega,by simp[Qdb],?_⟩⟩ t.out,d⟩
   rw[XL,<-Qdb l];simp
  clear o d q;go_wp2
  go_ret;exact R.out
theorem QaK {rest:List Oper}{o:Oper}{a:Act}{Q:Exit->Act->World->Prop}(c:o.guard=none) (s x:Operand) (t:TypeId)
 (i:o.op=.call { callee:=.builtin .append,args:=#[s,x],argTypes:=#[t,t] }) (v d:Value) (g:a.eval s=v) (e:a.eval x=d) (b:(Builtin.append_ #[t,t] o.type #[v,d]).run P w=.ok v w)
 (h:wpList P ops Q rest (a.put o.dst v) w):wpList P ops Q (o::rest) a w:=by
 refine wpList_plain c fun K f=>?_;unfold Oper.wp;simp[execOp,i,resolve,invoke,builtin,g,e,b,Result.andThen]
 exact f _ _ h
abbrev FV:Value:=.func (.func 261) #[] #[]
theorem Qjx (n:Nat) (D:QjF 261 n) (l m:List (TT n)) (a b:Option Addr) (c d:Nat) (w:World) (K:LIn w All l a) (z:LIn w All m b) (aa:l.length<=100000) (u:∀ x∈l,x.count<=100000) :
 Calls prog 260 #[.slice a l.length c,.slice b m.length d,FV] w fun e w'=>ZM e (l=m)/\Below w.heap.size w w':=by
 have IH:Hid (QjF 261 n):=D;have hl:Hid (LIn w All l a):=K;have hm:Hid (LIn w All m b):=z;have P:Hid (∀ x∈l,x.count<=100000):=u;clear D K z u;by_cases k:l.length=m.length
 ·have I:((l.length:Int) != (m.length:Int))=false:=by simp;omega
  have E:Hid (l.length=m.length):=k;clear k;go_enter func260,ntmps260
  go_wp2_with fail
  go_loopw [17] (fun i wr=>∃ q:Nat,q<=l.length/\i=Iv q/\(∀ j,j<q->l[j]?=m[j]?)/\Below w.heap.size w wr) (fun i _=>l.length - (intOf i).toNat)
  case atStart=>exact⟨0,Xb _,Z,fun j hj=>by omega,Zr⟩
  case round =>
   obtain⟨q,hq,rfl,v,J⟩:=hrel
   have A:Hid (∀ j,j<q->l[j]?=m[j]?):=v;have B:Hid (Below w.heap.size w wr):=J;clear v J;by_cases U:q<l.length
   ·have F:l[q]?=some l[q]:=Zg U;have T:q<m.length:=by have:=E.out;omega
    have L:m[q]?=some m[q]:=Zg T;generalize l[q]=x at F;generalize m[q]=y at L;obtain⟨g,o,V,W,rfl,_,X,d1,d2,hk⟩:=LIn.at (hl.out.below B.out) F
    obtain⟨g',o',S,Q,rfl,_,d3,d4,d5,G⟩:=LIn.at (hm.out.below B.out) L
    have C:Hid (∀ H,Below wr.heap.size wr H->Calls prog 261 #[Tv x V W,Tv y S Q] H fun e w'=>ZM e (x=y)/\Below H.heap.size H w') :=
     fun H J=>IH.out x y V S W Q _ (hk.below J) (G.below J) (P.out x (Zm F))
    have t:Hid (l[q]?=some x):=F;have s:Hid (m[q]?=some y):=L;have hg:g<wr.heap.size:=Xi wr ⟨g,o+q*3,none⟩ X;have ad:g'<wr.heap.size:=Xi wr ⟨g',o'+q*3,none⟩ d3;clear hk G F L;simp only[Tv] at C
    generalize x.kind=kx at C X;generalize x.r=rx at C d1;generalize x.len=lx at C d2;generalize y.kind=ky at C d3;generalize y.r=ry at C d4;generalize y.len=ly at C d5;have ab:(0:Int)<=q:=by omega
    have O:(q:Int)<l.length:=by omega
    have ac:(q:Int)<m.length:=by omega
    go_wp2_with fail
    have M:Below wr.heap.size wr ((wr.alloc (.cells #[Iv kx,Iv rx,.slice V lx W] 105)).alloc (.cells #[Iv ky,Iv ry,.slice S ly Q] 105)):=((Below.refl _ wr).alloc Ze _).alloc (by simp) _;refine(C.out _ M).mono ?_
    rintro r w5 ⟨⟨p,rfl,N⟩,b5⟩;have HB:Hid (Below w.heap.size w w5):=(B.out.trans (M.mono B.out.size)).trans (b5.mono (Zt B.out.size M.size));clear C b5 B X d1 d2 d3 d4 d5 M
    cases p with
    | true =>
      have f:x=y:=N.1 Z
      have A2:Hid (∀ j,j<q+1->l[j]?=m[j]?):=fun j hj=>by
       by_cases e:j=q
       ·subst e;rw[t.out,s.out,f]
       ·exact A.out j (by omega)
      clear N f t s A;go_wp2
      go_roundw
      case rel=>exact⟨q+1,by omega,by go_num,A2.out,HB.out⟩
      case measure=>simp[intOf];omega
    | false =>
      have f:Hid (¬ l=m):=fun h=>by
       have h1:=t.out;rw[h,s.out] at h1
       have:=N.2 (Xn h1).symm
       cases this
      clear N t s A;go_wp2
      go_ret;exact⟨ZM.no f.out,HB.out⟩
   ·have R:Hid (l=m):=by
     have:=E.out
     refine List.ext_getElem? (fun i=>?_);by_cases hi:i<q
     ·exact A.out i hi
     ·rw[Xk (by omega),Xk (by omega)]
    have O:¬ (q:Int)<l.length:=by omega
    clear A;go_wp2
    go_ret;exact⟨ZM.yes R.out,B.out⟩
 ·have I:((l.length:Int) != (m.length:Int))=true:=by simp;omega
  have E:Hid (l.length≠m.length):=k;clear k;go_enter func260,ntmps260
  go_wp2
  go_ret;exact⟨ZM.no (fun h=>E.out (by rw[h])),Zr⟩
theorem same_any:∀ n,QjF 261 n:=by
 intro n
 induction n with
 | zero=>intro t;exact Empty.elim t
 | succ n ih =>
   intro t u a b c d w z y J;have i:∀ x∈t.2.2,x.count<=100000:=fun x H=>by have:=t.count_kid H;omega
   have f:t.2.2.length<=100000:=by have:=t.len_lt_count;rw[t.len_eq] at this;omega
   have C:Hid (∀ g,Below w.heap.size w g->Calls prog 260 #[.slice a t.2.2.length c,.slice b u.2.2.length d,FV] g fun e K=>ZM e (t.2.2=u.2.2)/\Below g.heap.size g K) :=
    fun g F=>Qjx n ih t.2.2 u.2.2 a b c d g (z.below F) (y.below F) f i
   rw[TT.eq_iff]
   simp only[Tv,TT.len_eq] at C |-
   generalize t.2.2.length=p at C |-;generalize u.2.2.length=q at C |-;generalize (t.2.2=u.2.2)=E at C |-;generalize t.kind=k;generalize t.r=r;generalize u.kind=s;generalize u.r=o;clear i f J z y ih t u;by_cases m:k=s
   ·subst m;by_cases l:r=o
    ·subst l;go_enter func261,ntmps261
     go_wp2_with fail
     have j:Below w.heap.size w ((w.alloc (.cells #[Iv k,Iv r,.slice a p c] 105)).alloc (.cells #[Iv k,Iv r,.slice b q d] 105)):=((Below.refl _ w).alloc Ze _).alloc (by simp) _;refine(C.out _ j).mono ?_
     rintro e L ⟨⟨v,rfl,D⟩,A⟩;have B:Hid (Below w.heap.size w L):=j.trans (A.mono j.size);have V:Hid (v=true↔E):=D;clear A C D j
     cases v
     all_goals
      go_wp2
      go_ret
     ·exact⟨ZM.no (fun h=>by have:=V.out.2 h.2.2;cases this),B.out⟩
     ·exact⟨ZM.yes (by have:=V.out;simpa using this),B.out⟩
    ·have G:(r==o)=false:=by simpa using l
     have R:Hid (¬ r=o):=l;clear l;go_enter func261,ntmps261
     go_wp2_with fail
     go_ret;exact⟨ZM.no (fun h=>R.out h.2.1),((Below.refl _ w).alloc Ze _).alloc (by simp) _⟩
   ·have I:(k==s)=false:=by simpa using m
    have R:Hid (¬ k=s):=m;clear m;go_enter func261,ntmps261
    go_wp2_with fail
    go_ret;exact⟨ZM.no (fun h=>R.out h.1),((Below.refl _ w).alloc Ze _).alloc (by simp) _⟩
section
variable {α:Type}{A:Lay α}{e:TypeId}{w w':World}{lo g n q s:Nat}{l:List α}{xs:List Value}{x:α}{ds:List Value}
theorem Qap.start (q:A.size=s) (h:w.ownsRow lo e s (.slice (some ⟨g,0,none⟩) m m) m xs):Qap A e w lo (.slice (some ⟨g,0,none⟩) 0 m) (l.take 0) []:=by
 subst q;obtain⟨t,n⟩:=h
 rcases n with ⟨a,_⟩|⟨r,j,c,a,p,k,o,b,d,f⟩
 ·simp at a
 ·simp only[Value.slice.injEq,Option.some.injEq,Addr.mk.injEq,and_true,true_and] at a
  obtain⟨rfl,rfl⟩:=a
  exact⟨⟨by simp,.inr ⟨g,m,c,Z,p,k,Xb _,b,d,by simp⟩⟩,fun i x h=>by simp at h⟩
theorem Qap.blk (h:Qap A e w lo (.slice (some ⟨g,0,none⟩) q n) l xs) (p:A.size=s):∃ c,Blk w g c e/\c.size=n*s:=by
 subst p;obtain⟨u,k⟩:=h.own
 rcases k with ⟨a,_⟩|⟨r,i,b,a,t,j,m,o,d,f⟩
 ·simp at a
 ·simp only[Value.slice.injEq,Option.some.injEq,Addr.mk.injEq,and_true,true_and] at a
  obtain⟨rfl,-,rfl⟩:=a
  exact⟨b,j,d⟩
theorem Qap.fillq (h:Qap A e w lo (.slice (some ⟨g,0,none⟩) q n) (l.take q) xs) (f:A.size=s) (j:q<l.length) (i:l.length=n) (b:l[q]?=some x) (c:A.In w (fun k=>lo<=k/\k≠g) x ds) (d:w'=w.setCells g (0+q*s) ds) :
 ∃ xs',Qap A e w' lo (.slice (some ⟨g,0,none⟩) (q+1) n) (l.take (q+1)) xs':=by
 subst f d;have a:(l.take q).length=q:=by simp;omega
 have T:l.take (q+1)=l.take q++[x]:=by rw[XV,b];rfl
 have:=Qap.fill (l:=l.take q) (g:=g) (n:=n) (by rw[a];exact h) c (by omega)
 rw[a] at this
 rw[T,XK]
 exact⟨_,this⟩
theorem Qap.done (h:Qap A e w lo (.slice (some ⟨g,0,none⟩) q n) (l.take q) xs) (a:q=l.length):A.list.In w (Qcv lo) l [.slice (some ⟨g,0,none⟩) l.length n]:=by
 have:=h.lay
 subst a;rw[List.take_length] at this
 exact this
end
theorem Qbx {z:Value}{s:Nat}(h:(prog.info? t).map (fun i=>(i.zero,i.size,i.bytes))=some (some z,s,b)):∃ i,prog.info? t=some i/\i.zero=some z/\i.size=s/\i.bytes=b:=by
 obtain⟨i,a,e⟩:=Option.map_eq_some_iff.1 h
 simp only[Prod.mk.injEq] at e
 exact⟨i,a,e⟩
theorem infoIns:(prog.info? 78).map (fun i=>(i.zero,i.size,i.bytes))=some (some (.agg #[Iv 0,Iv 0,Iv 0,Iv 0,Iv 0,Iv 0,Nv,Nv]),8,96):=by kernel_rfl
theorem infoBlock:(prog.info? 86).map (fun i=>(i.zero,i.size,i.bytes))=some (some (.agg #[Iv 0,Nv,Nv,Iv 0,Iv 0,Iv 0,Nv,Nv,Iv 0,Nv,Nv,Nv]),12,208):=by kernel_rfl
theorem infoFunc:(prog.info? 89).map (fun i=>(i.zero,i.size,i.bytes))=some (some (.agg #[Iv 0,Nv,Nv,Nv]),4,80):=by kernel_rfl
section
open Go.Deep
def Wt {H:Type}(P:Program) (t:TypeId) (d:DataW H):Prop:=∀ n∈d.weights P t,n<=reachBytes
def Qy (P:Program) (t:TypeId){α:Type}(A:Lay α) (n:Nat) (Bd:α->Prop):Prop :=
 P.cellsOf t=A.size/\∀ {H:Type} {enc:TypeId × Value->H} {w:World} {base:Nat} {spare:Nat->Bool} {held:Bool} {fuel:Nat} {cs:List Value} {x:DataW H × List MemPlace},
  fuel<=n->DataW.trod enc P w base spare held fuel t cs=some x->Wt P t x.1->∃ d,A.In w (fun _=>True) d cs/\Bd d
theorem Qy.int (n:Nat) (h:P.underlying t=some (.int .i64)) (c:P.cellsOf t=1):Qy P t Lay.int n (fun _=>True) :=
 ⟨c,fun _ b _=>by
  obtain⟨k,e,_,a⟩:=DataW.trod_int h b
  exact⟨k,⟨e,Go.bounds_i64 a⟩,Y⟩⟩
theorem Qbi {H:Type}{P:Program}{e:TypeId}:∀ {l:List (DataW H)}{d:DataW H},d∈l->∀ n∈d.weights P e,n∈DataW.weightsAll P e l
 | d0::l,d,h,n,hn=>by
   simp only[DataW.weightsAll,List.mem_append]
   rcases List.mem_cons.1 h with rfl | h
   ·exact .inl hn
   ·exact .inr (Qbi h n hn)
theorem Qy.list {α:Type}{A:Lay α}{Bd:α->Prop}(h:P.underlying t=some (.slice e)) (hc:P.cellsOf t=1) (X:Qy P e A n Bd) (F:0<A.size) (J:0<P.bytesOf e):Qy P t A.list n (fun l=>l.length<1152921504606846976) :=
 ⟨hc,fun {H af w u I aa ab cs x} hf h' W=>by
  rcases DataW.trod_slice h h' with ⟨N,_⟩|⟨a,r,L,c,f,q,rfl,N,ex,hb,hl,hm,U,S,_,_⟩
  ·exact⟨[],by rw[N];exact Yg A _ _ _ _,by simp⟩
  ·have ac:(c.length+f.length)*P.bytesOf e<=reachBytes:=W _ (by rw[ex];simp[DataW.weights,h])
   have ad:r<1152921504606846976:=by
    have h1:c.length*1<=(c.length+f.length)*P.bytesOf e:=Nat.mul_le_mul (by omega) J;have h2:reachBytes<1152921504606846976:=by decide
    omega
   have C:∀ i,i<r->∃ y,c[i]?=some y/\Wt P e y.1:=fun i D=>by
    refine⟨c[i]'(by omega),Zg (by omega),fun k hk=>W k ?_⟩
    rw[ex]
    simp only[DataW.weights,h,List.mem_cons,List.mem_append]
    exact .inr (.inl (Qbi (List.mem_map_of_mem (List.getElem_mem (by omega))) k hk))
   obtain⟨l,O,hp⟩:=Qky (P:=fun i (d:α)=>∃ g,w.cells? u (a.add (i*A.size)) A.size=some g/\A.In w (fun _=>True) d g) r (fun i D=>by
    have R:=S i D;obtain⟨y,hy,T⟩:=C i D
    rw[hy,X.1] at R
    rw[Option.bind_eq_some_iff] at R
    obtain⟨g,m,K⟩:=R
    obtain⟨d,G,_⟩:=X.2 (by omega) K T
    exact⟨d,g,m,G⟩)
   refine⟨l,⟨some a,L,by rw[N,O],fun i x V=>?_⟩,by omega⟩
   obtain⟨g,m,G⟩:=hp i x V
   obtain⟨_,ae,o⟩:=World.cells?_some m
   obtain⟨b,v,B⟩:=a
   have p:B=none:=by
    have D:0<l.length:=Nat.lt_of_le_of_lt (Xb i) (Zi V).1;obtain⟨Q,z,M⟩:=hp 0 l[0] (Zg D)
    have s:0<Q.length:=by rw[A.len M];exact F
    have:=(World.cells?_some z).2.2 0 F
    rw[Zg s] at this
    simpa[Addr.add] using World.cell?_spot this
   subst p
   have E:∀ j,j<A.size->w.cell? ⟨b,v+i*A.size+j,none⟩=g[j]?:=fun j hj=>by
    have:=o j hj
    rw[Go.WideShapes.add_plain,Go.WideShapes.add_plain] at this
    exact this
   refine⟨b,v,g,Z,Y,?_,E,G⟩
   have s:0<g.length:=by rw[A.len G];exact F
   have:=E 0 F
   rw[Zg s] at this
   exact Xi w _ this⟩
def QH (P:Program) (fs:Array Field):Nat->Nat->{α:Type}->Lay α->Nat->(α->Prop)->Prop:=fun i o α A n Bd =>
 ∀ (H:Type) (enc:TypeId × Value->H) (w:World) (base:Nat) (spare:Nat->Bool) (held:Bool) (fuel:Nat) (cs:List Value) (xs:List (DataW H × List MemPlace)),
  fuel<=n->cs.length=o+A.size->xs.length=fs.size->(∀ (j:Nat) (f:Field),fs[j]?=some f->DataW.trod enc P w base spare held fuel f.type ((cs.drop f.offset).take (P.cellsOf f.type))=xs[j]?) ->
  (∀ (j:Nat) (f:Field) x,fs[j]?=some f->xs[j]?=some x->Wt P f.type x.1)->∃ d,A.In w (fun _=>True) d (cs.drop o)/\Bd d
theorem QH.last {fs:Array Field}{o:Nat}{f:Field}{α:Type}{A:Lay α}{k:α->Prop}(b:fs[i]?=some f) (m:f.offset=o) (l:Qy P f.type A n k):QH P fs i o A n k:=by
 intro H q w e a c j v y p z u h r;have g:=h i f b;have x:i<fs.size:=(Array.getElem?_eq_some_iff.1 b).1;rw[Zg (by omega),m,l.1] at g
 obtain⟨d,t,s⟩:=l.2 p g (r i f _ b (Zg (by omega)))
 refine⟨d,?_,s⟩
 rwa [XO (by simp;omega)] at t
theorem QH.cons {fs:Array Field}{o:Nat}{f:Field}{α β:Type}{A:Lay α}{B:Lay β}{m:α->Prop}{s:β->Prop}(b:fs[i]?=some f) (u:f.offset=o) (p:Qy P f.type A n m) (y:QH P fs (i+1) (o+A.size) B n s):QH P fs i o (A.pair B) n (fun x=>m x.1/\s x.2):=by
 intro H D w j a q r I G k E v h l;have g:=h i f b;have J:i<fs.size:=(Array.getElem?_eq_some_iff.1 b).1;rw[Zg (by omega),u,p.1] at g
 obtain⟨d,t,z⟩:=p.2 k g (l i f _ b (Zg (by omega)))
 have F:(A.pair B).size=A.size+B.size:=rfl;obtain⟨e,C,c⟩:=y _ _ _ _ _ _ _ _ _ k (by omega) v h l
 refine⟨(d,e),⟨_,_,?_,t,C⟩,z,c⟩
 rw[<-List.drop_drop,List.take_append_drop]
theorem Qy.struct {fs:Array Field}{α:Type}{A:Lay α}{i:α->Prop}(h:P.underlying t=some (.struct fs)) (o:P.cellsOf t=A.size) (s:QH P fs 0 0 A n i):Qy P t A n i :=
 ⟨o,fun {H D w g a l p I x} F v u=>by
  obtain⟨G,m,rfl,E,c,b,e⟩:=DataW.trod_struct h v
  obtain⟨d,r,C⟩:=s _ _ _ _ _ _ _ _ _ (by omega) (by rw[c,o];omega) b e (fun j f y B q k z=>u k (by
   rw[E]
   simp only[DataW.weights,h]
   exact DataW.weights_mem_each (j:=j) (t:=f.type) (d:=y.1) (by simp[B]) (by simp[q]) k z))
  exact⟨d,by simpa using r,C⟩⟩
theorem Qy.via {α β:Type}{A:Lay α}{f:β->α}{a:α->Prop}(h:Qy P t A n a) (g:α->β) (b:∀ d,f (g d)=d):Qy P t (A.via f) n (fun x=>a (f x)) :=
 ⟨h.1,fun e j c=>by
  obtain⟨d,k,i⟩:=h.2 e j c
  exact⟨g d,by show A.In _ _ (f (g d)) _;rw[b];exact k,by show a (f (g d));rw[b];exact i⟩⟩
theorem own:ownKnob prog.godebug=none:=by kernel_rfl
theorem laidOut:laidOutB prog=true:=by kernel_rfl
theorem fieldsT:∃ f0 f1 f2:Field,prog.underlying 105=some (.struct #[f0,f1,f2]) /\
 (f0.offset=0/\prog.cellsOf f0.type=1/\prog.underlying f0.type=some (.int .i64))/\(f1.offset=1/\prog.cellsOf f1.type=1/\prog.underlying f1.type=some (.int .i64)) /\
 (f2.offset=2/\prog.cellsOf f2.type=1/\f2.type=80) :=
 ⟨_,_,_,underlying105,⟨Z,by kernel_rfl,by kernel_rfl⟩,⟨Z,by kernel_rfl,by kernel_rfl⟩,⟨Z,by kernel_rfl,Z⟩⟩
theorem QmT (n:Nat):Qy prog 105 (Lay.tt n) n (fun _=>True) :=
 ⟨by kernel_rfl,fun {H i w g d f b v x} l p u=>by
  obtain⟨y,s,r,e,m,h,j⟩:=fieldsT
  obtain⟨t,a,c,q,k,o⟩:=Qmk (ti:=0) underlying80 e (by kernel_rfl) m h j n b l p
  exact⟨t,⟨a,c,q,k,o⟩,Y⟩⟩
theorem QaT (n:Nat):Qy prog 3 Lay.int n (fun _=>True):=Qy.int n underlying3 (by kernel_rfl)
theorem QlJ (n:Nat):Qy prog 2 Lay.int n (fun _=>True):=Qy.int n underlying2 (by kernel_rfl)
theorem Qfw (n:Nat):Qy prog 80 (Qp n) n (fun l=>l.length<1152921504606846976):=Qy.list underlying80 (by kernel_rfl) (QmT n) (by show 0<3;decide) (by rw[show prog.bytesOf 105=40 from by kernel_rfl];decide)
end
def QhT {α:Type}(A:Lay α) (w w':World) (x:α) (e:Ending):Prop:=∃ ds:List Value,e=.returned (.agg ds.toArray)/\A.In w' (Qcv w.heap.size) x ds/\Below w.heap.size w w'
theorem Qm5 (a:World) (z:Array Value) (t:TypeId)(b:cs.length=z.size):(a.alloc (.cells z t)).there a.heap.size 0 cs.toArray.size/\Blk ((a.alloc (.cells z t)).setCells a.heap.size 0 cs) a.heap.size cs.toArray t/\Below a.heap.size a ((a.alloc (.cells z t)).setCells a.heap.size 0 cs):=by
 have c:=Blk.new a z t;refine⟨Blk.there c (by simp[b]),?_,?_⟩
 ·have d:Blk (a.alloc (.cells z t)) a.heap.size ([]++z.toList).toArray t:=c;exact Blk.sets cs [] z.toList _ (by simpa using b) d
 ·exact QJ Ze cs _ _ 0 (Zd a _)
theorem Blk.setsA {c:Array Value}(h:Blk w R c t) (a:List Value) (b:a.length=c.size):Blk (w.setCells R 0 a) R a.toArray t:=Blk.sets a [] c.toList w (by simpa using b) h
theorem infoType0:(prog.info? 105).map (fun i=>(i.zero,i.size,i.bytes))=some (some (.agg #[Iv 0,Iv 0,Nv]),3,40):=by kernel_rfl
theorem Qbm {z:Value}(h:(prog.info? t).map (fun i=>(i.zero,i.size,i.bytes))=some (some z,s,b)):(prog.info? t).map (·.size)=some s:=by
 obtain⟨i,c,-,a,-⟩:=Qbx h
 rw[c];simp[a]
theorem Qca {fn:Func}{R:Ending->World->Prop}{a:Act}{t:Tmp}{b i:TypeId}{c:Array Value}{d:TypeDesc}(m:fn.results=#[.cell t b]) (f:a.tmps.getD t undef=Pv B 0) (k:a.defers=[]) (g:Blk w B c i)
 (h:prog.underlying b=some d) (l:d.isRow=true) (hi:(prog.info? b).map (·.size)=some c.size) (j:R (.returned (.agg c)) w):bodyPost prog fn R .ret a w:=by
 refine Xy ?_ k j;have e:=run_loadVar_mid (P:=prog) w B 0 b c.toList d (Blk.range (by simpa using g)) h l (by simpa using hi);simp only[Array.toArray_toList] at e
 rw[Za] at f
 simp[results,m,f,asAddr,e]
theorem Qaa {α:Type}{A:Lay α}{F K:FuncId}{l:List α}
 (hF:F=122/\A.size=3\/F=186/\A.size=8\/F=124/\A.size=12\/F=76/\A.size=4)
 (J:Qah K) (X:A.list.In w All l [.slice p l.length c]) (hb:l.length<=4294967296) (V:∀ (w:World) (O:Nat->Prop) (x:α) (ds:List Value),A.In w O x ds->∀ v∈ds,v.oneCell'=true)
 (Q:∀ x∈l,∀ ds wx,A.In wx All x ds->Calls prog K #[.agg ds.toArray] wx fun e w'=>QhT A wx w' x e) :
 Calls prog F #[.slice p l.length c,.func (.func K) #[] #[]] w fun e w'=>Qhu A w w' l e:=by
 have hl:=Qf X;have hf:=Qf Q;have h1:=Qf V;have hE:∀ (args:Array Value) (w:World),(callFunc K args).run prog w=.ok (.enter K args) w:=J;clear X Q V J;rcases hF with ⟨rfl,s⟩|⟨rfl,s⟩|⟨rfl,s⟩|⟨rfl,s⟩
 have G:=underlying105;have r:=Qbm infoType0;have hm:=Qf fun (wx:World) (cs:List Value) (h:cs.length=3)=>Qm5 wx #[Iv 0,Iv 0,Nv] 105 h;obtain⟨C,t,b,f,m⟩:=Qbx infoType0
 obtain⟨z,y,a,d⟩:=run_make_full (P:=prog) w w.heap.size 80 105 C _ 3 underlying80 t b f .i64 .i64 l.length (by rw[m];omega) (by unfold maxLen;omega) Ze
 clear t b f m;have hg:Hid (Below w.heap.size w z):=(Below.refl _ w).grown d Ze (fun k r=>by cases r);have U:=Qf (Qap.start (l:=l) s a);clear d a;go_enter func122,ntmps122
 rotate_left
 have G:=underlying78;have r:=Qbm infoIns;have hm:=Qf fun (wx:World) (cs:List Value) (h:cs.length=8)=>Qm5 wx #[Iv 0,Iv 0,Iv 0,Iv 0,Iv 0,Iv 0,Nv,Nv] 78 h;obtain⟨C,t,b,f,m⟩:=Qbx infoIns
 obtain⟨z,y,a,d⟩:=run_make_full (P:=prog) w w.heap.size 79 78 C _ 8 underlying79 t b f .i64 .i64 l.length (by rw[m];omega) (by unfold maxLen;omega) Ze
 clear t b f m;have hg:Hid (Below w.heap.size w z):=(Below.refl _ w).grown d Ze (fun k r=>by cases r);have U:=Qf (Qap.start (l:=l) s a);clear d a;go_enter func186,ntmps186
 rotate_left
 have G:=underlying86;have r:=Qbm infoBlock;have hm:=Qf fun (wx:World) (cs:List Value) (h:cs.length=12)=>Qm5 wx #[Iv 0,Nv,Nv,Iv 0,Iv 0,Iv 0,Nv,Nv,Iv 0,Nv,Nv,Nv] 86 h;obtain⟨C,t,b,f,m⟩:=Qbx infoBlock
 obtain⟨z,y,a,d⟩:=run_make_full (P:=prog) w w.heap.size 87 86 C _ 12 underlying87 t b f .i64 .i64 l.length (by rw[m];omega) (by unfold maxLen;omega) Ze
 clear t b f m;have hg:Hid (Below w.heap.size w z):=(Below.refl _ w).grown d Ze (fun k r=>by cases r);have U:=Qf (Qap.start (l:=l) s a);clear d a;go_enter func124,ntmps124
 rotate_left
 have G:=underlying89;have r:=Qbm infoFunc;have hm:=Qf fun (wx:World) (cs:List Value) (h:cs.length=4)=>Qm5 wx #[Iv 0,Nv,Nv,Nv] 89 h;obtain⟨C,t,b,f,m⟩:=Qbx infoFunc
 obtain⟨z,y,a,d⟩:=run_make_full (P:=prog) w w.heap.size 22 89 C _ 4 underlying22 t b f .i64 .i64 l.length (by rw[m];omega) (by unfold maxLen;omega) Ze
 clear t b f m;have hg:Hid (Below w.heap.size w z):=(Below.refl _ w).grown d Ze (fun k r=>by cases r);have U:=Qf (Qap.start (l:=l) s a);clear d a;go_enter func76,ntmps76
 rotate_left
 all_goals
  go_wp2_with fail
  go_loopw [13] (fun i wr=>∃ q:Nat,q<=l.length/\i=Iv q/\(∃ e xs,Qap A e wr w.heap.size (.slice (some ⟨w.heap.size,0,none⟩) q l.length) (l.take q) xs)/\Below w.heap.size w wr) (fun i _=>l.length - (intOf i).toNat)
  case atStart=>exact⟨0,Xb _,Yz,⟨_,_,U.out⟩,hg.out⟩
  case round =>
   obtain⟨q,hq,rfl,⟨e,xs,hA⟩,hB⟩:=hrel
   have HA:=Qf hA;have E:=Qf hB;clear hA hB hg U y;obtain⟨D,aa⟩:∃ D,D=wr:=⟨_,Yz⟩
   subst aa;by_cases T:q<l.length
   rotate_left
   ·have S:¬ (q:Int)<l.length:=by omega
    have R:Hid (Qhu A w D l (.returned (.slice (some ⟨w.heap.size,0,none⟩) l.length l.length))):=⟨_,_,Yz,HA.out.done (by omega),E.out⟩;clear HA E;go_wp2
    go_ret;exact R.out
   have S:(q:Int)<l.length:=by omega
   have L:l[q]?=some l[q]:=Zg T;generalize l[q]=x at L;obtain⟨g,o,ds,rfl,-,-,E3,I3⟩:=Yf (Ya hl.out E.out) L
   have M:=A.len I3;rw[s] at M E3
   have RG:=Qf (show D.rangeAt g (o+q*_) ds from fun j v hj=>(E3 j (by rw[<-M];exact(Zi hj).1)).trans hj);have TO:=Qf (all_oneCell_toArray (h1.out _ _ _ _ I3));obtain⟨M1,M2,M3⟩:=hm.out D ds M
   have HM:=Qf M1;have N:=Qf (r.trans (congrArg some M.symm));have CC:=Qf (hf.out x (Zm L) ds _ (Ya I3 M3));have B2:=Qf M2;have W:=Qf M3;have HX:=Qf L;clear M1 M2 M3 E3 I3 L M;go_upto_region 5 with (first | (refine wpList_load_mid Yz _ (.tmp 16) Yz g _ Yz ds _ RG.out G Yz N.out ?_) | (refine wpList_store_mid Yz _ (.tmp 7) (.tmp 17) Yz D.heap.size 0 ds.toArray Yz Yz HM.out N.out TO.out ?_))
   clear HM RG TO;generalize World.setCells _ _ _ _=w3 at B2 W CC |-;generalize D.heap.size=Z at B2 |-;have RZ:Hid (w3.rangeAt Z 0 ds):=Blk.range B2.out;clear B2;go_wp2_with (refine wpList_load_mid Yz _ (.tmp 7) Yz Z 0 Yz ds _ RZ.out G Yz N.out ?_)
   refine CC.out.mono ?_;rintro _ w8 ⟨d2,rfl,I8,B8⟩;have u:=A.len I8;rw[s] at u
   have b8:=W.out.trans (B8.mono W.out.size);have B:=HA.out.below b8;obtain⟨cg,I,H⟩:=B.blk s
   have s1:=(HA.out.lo_le (g:=w.heap.size) Yz).2;have s2:=W.out.size;have NX:=Qf (B.fillq s T Yz HX.out (Yc I8 (fun k r _=>⟨by have:_<=k:=r;omega,by have:_<=k:=r;omega⟩)) Yz);have BX:=Qf (QJ Ze d2 _ _ (q*A.size) (E.out.trans (b8.mono E.out.size)));have TO:=Qf (all_oneCell_toArray (h1.out _ _ _ _ I8));have N:=Qf (r.trans (congrArg some u.symm));have HT:=Qf (Blk.there (o:=q*A.size) (n:=d2.length) I (by rw[H,u,s];omega));clear u b8 B I H I8 B8 CC RZ W HA E hl hf h1 hm s1 s2;rw[XK] at NX
   rw[s] at BX HT
   go_wp2_with (refine wpList_store_mid Yz _ (.tmp 23) (.tmp 22) Yz w.heap.size _ d2.toArray Yz Yz HT.out N.out TO.out ?_)
   go_roundw
   case rel=>exact⟨q+1,by omega,by go_num,(by obtain⟨_,h⟩:=NX.out;exact⟨_,_,h⟩),BX.out⟩
   case measure=>simp[intOf];omega
structure Bxs (w wx:World) (l:List (Nat × Array Value × TypeId)):Prop where
 bel:Below w.heap.size w wx
 ge:∀ b∈l,w.heap.size<=b.1
 box:∀ b∈l,Blk wx b.1 b.2.1 b.2.2
 nd:(l.map (·.1)).Nodup
section
variable {w wx w':World}{l a z:List (Nat × Array Value × TypeId)}{B:Nat}{c:Array Value}{t:TypeId}
theorem Bxs.start (w:World):Bxs w w []:=⟨Zr,fun _ h=>by simp at h,fun _ h=>by simp at h,by simp⟩
theorem Bxs.below (h:Bxs w wx l) (k:Below wx.heap.size wx w'):Bxs w w' l:=⟨h.bel.trans (k.mono h.bel.size),h.ge,fun b a=>(h.box b a).below k,h.nd⟩
theorem Bxs.drewN (h:Bxs w wx l) (n:Nat):Bxs w (wx.drewN n) l:=h.below (QI Zr n)
theorem Bxs.drew (h:Bxs w wx l):Bxs w wx.drew l:=h.drewN 1
theorem Bxs.add (h:Bxs w wx l) (g:Blk wx B c t) (f:w.heap.size<=B) (d:∀ b∈l,b.1≠B):Bxs w wx ((B,c,t)::l) :=
 ⟨h.bel,fun b a=>by rcases List.mem_cons.1 a with rfl | e;exact f;exact h.ge b e,fun b a=>by rcases List.mem_cons.1 a with rfl | e;exact g;exact h.box b e,by
  simp only[List.map_cons,List.nodup_cons]
  refine⟨fun e=>?_,h.nd⟩
  obtain⟨b,a,e⟩:=List.mem_map.1 e
  exact d b a e⟩
theorem Bxs.new (h:Bxs w wx l) (c:Array Value) (t:TypeId):Bxs w (wx.alloc (.cells c t)) ((wx.heap.size,c,t)::l) :=
 (h.below (Zd _ _)).add (Blk.new _ _ _) h.bel.size (fun b a e=>by have:=(h.box b a).lt;omega)
theorem Bxs.made (h:Bxs w wx l) (k:Below wx.heap.size wx w') (f:Blk w' B c t) (d:wx.heap.size<=B):Bxs w w' ((B,c,t)::l) :=
 (h.below k).add f (Zt h.bel.size d) (fun b a e=>by have:=(h.box b a).lt;omega)
theorem Bxs.at (h:Bxs w wx (a++(B,c,t)::z)):Blk wx B c t:=h.box (B,c,t) (by simp)
theorem Bxs.cell (h:Bxs w wx (a++(B,c,t)::z)) (i:Nat) (v:Value) (b:c[i]?=some v):wx.cell? ⟨B,i,none⟩=some v:=Qb h.at i v b
theorem Bxs.free (h:Bxs w wx (a++(B,c,t)::z)) (i:Nat):wx.frozen? ⟨B,i,none⟩=false:=Qj h.at i
theorem Bxs.set (h:Bxs w wx (a++(B,c,t)::z)) (i:Nat) (v:Value):Bxs w (wx.setCell ⟨B,i,none⟩ v) (a++(B,c.setIfInBounds i v,t)::z):=by
 have f:∀ b∈a++z,b.1≠B:=fun b d e=>by
  have g:=h.nd;rw[List.map_append,List.map_cons,List.nodup_append] at g
  obtain⟨-,j,k⟩:=g
  rw[List.nodup_cons] at j
  rcases List.mem_append.1 d with d | d
  ·exact k b.1 (List.mem_map_of_mem d) B (by simp) e
  ·exact j.1 (List.mem_map.2 ⟨b,d,e⟩)
 refine⟨h.bel.setCell (p:=⟨B,i,none⟩) (h.ge (B,c,t) (by simp)) v,fun b d=>?_,fun b d=>?_,?_⟩
 ·simp only[List.mem_append,List.mem_cons] at d
  rcases d with d | rfl | d
  ·exact h.ge b (by simp[d])
  ·exact h.ge (B,c,t) (by simp)
  ·exact h.ge b (by simp[d])
 ·simp only[List.mem_append,List.mem_cons] at d
  rcases d with d | rfl | d
  ·exact(Xd _ _ _ _ (f b (by simp[d]))).trans (h.box b (by simp[d]))
  ·have:=Qh h.at i v
   simpa using this
  ·exact(Xd _ _ _ _ (f b (by simp[d]))).trans (h.box b (by simp[d]))
 ·have:=h.nd
  simpa using this
end
def NuI (lo:Nat) (l:List Int) (v:Value) (w:World):Prop:=∃ p c,v=.slice p l.length c/\intsL.In w (Qcv lo) l [v]
theorem NuI.below {lo:Nat}(b:Below w.heap.size w w') (h:NuI lo l v w):NuI lo l v w':=by
 obtain⟨p,c,rfl,h⟩:=h
 exact⟨p,c,Z,Ya h b⟩
theorem NuI.move {lo a:Nat}(h:NuI lo l v w) (e:∀ k,lo<=k->w'.heap[k]?=w.heap[k]?) (d:a<=lo):NuI a l v w':=by
 obtain⟨p,c,rfl,h⟩:=h
 exact⟨p,c,Z,intsL.keep (fun k b _=>e k b) (fun k b _=>Zt d b) h⟩
theorem Qlh {F:FuncId}(hF:F=232/\(∃ n,cs=[Iv n])\/F=187/\∃ a b c d e f,cs=[Iv a,Iv b,Iv c,Iv d,Iv e,Iv f])
 {j l:List Int}    (E:intsL.In w All j [.slice pR j.length cR]) (B:intsL.In w All l [.slice pA l.length cA]) (b1:j.length<=4294967296) (b2:l.length<=4294967296) :
 Calls prog F #[.agg (cs++[Value.slice pR j.length cR,Value.slice pA l.length cA]).toArray] w fun e w'=>∃ u v,e=.returned (.agg (cs++[u,v]).toArray)/\NuI w.heap.size j u w'/\NuI w.heap.size l v w'/\Below w.heap.size w w':=by
 have C:=Qf E;have hg:=Qf B;clear E B;obtain⟨o,H⟩:∃ o,cs.length=o:=⟨_,Z⟩
 obtain⟨A,r⟩:∃ o,cs.length+1=o:=⟨_,Z⟩
 rcases hF with ⟨rfl,n,rfl⟩|⟨rfl,n1,n2,n3,n4,n5,n6,rfl⟩
 have p:=Qf (((Bxs.start w).new #[Iv n,.slice pR j.length cR,.slice pA l.length cA] 82).new #[Iv 0,Nv,Nv] 82);have N:=underlying82;have q:(prog.info? 82).map (·.size)=some 3:=by kernel_rfl
 go_enter func232,ntmps232
 rotate_left
 have p:=Qf (((Bxs.start w).new #[Iv n1,Iv n2,Iv n3,Iv n4,Iv n5,Iv n6,.slice pR j.length cR,.slice pA l.length cA] 78).new #[Iv 0,Iv 0,Iv 0,Iv 0,Iv 0,Iv 0,Nv,Nv] 78);have N:=underlying78;have q:(prog.info? 78).map (·.size)=some 8:=by kernel_rfl
 go_enter func187,ntmps187
 all_goals
  go_upto_region 1 with fail
  generalize World.alloc (World.alloc w _) _=s at p |-;have P:s.cell? ⟨w.heap.size,o,none⟩=some (.slice pR j.length cR):=p.out.cell (a:=[_]) o _ (by subst H;rfl);have V:s.cell? ⟨w.heap.size,A,none⟩=some (.slice pA l.length cA):=p.out.cell (a:=[_]) A _ (by subst r;rfl);simp only[List.length_cons,List.length_nil,Nat.zero_add,Nat.reduceAdd] at H r
  refine Qg 7 (Qls [(5,NuI s.heap.size j),(8,NuI s.heap.size l)] [(1,Pv w.heap.size 0),(3,Pv w.heap.size o),(4,.slice pR j.length cR),(6,Pv w.heap.size A),(7,.slice pA l.length cA),(9,Pv w.heap.size o)]) (fun J=>Below s.heap.size s J) (fun w w'=>Below w.heap.size w w') (by kernel_rfl) (outs:=[1]) (gs:=[]) (bs:=[true,true,true,true,true,true,true]) (n:=12) Z Ze (by kernel_rfl) (by kernel_rfl) ?hR ?hG (QI Zr 1) ⟨Z,Y⟩ ?hA ?hend
  case hR=>exact fun t v w w' C h=>h.keep ⟨NuI.below C,NuI.below C,Y⟩
  case hG=>exact Y
  case hA =>
   subst H r
   repeat
    refine⟨fun a J g i K O=>?_,?_⟩
    focus
     obtain⟨k0,-⟩:=i
     conv at k0=>whnf;rhs;whnf
     have c0:=Qk P g;have c1:=Qk V g;have hw:=p.out.bel.trans (g.mono p.out.bel.size);go_simp
     first
      | with_reducible refine Xm (QaP _ _ _ J (Ya C.out hw) b1) ?_
        rintro e w9 ⟨U,Q,rfl,T,D⟩;exact O _ _ D (g.trans (D.mono g.size)) ⟨U,Q,Z,Yc T (fun k i _=>Zt g.size i)⟩
      | with_reducible refine Xm (QaP _ _ _ J (Ya hg.out hw) b2) ?_
        rintro e w9 ⟨U,Q,rfl,T,D⟩;exact O _ _ D (g.trans (D.mono g.size)) ⟨U,Q,Z,Yc T (fun k i _=>Zt g.size i)⟩
      | exact O _ _ Zr g Z
   trivial
  case hend =>
   rintro aa x y g i;have G:NuI _ _ (x 5) y:=i 5 (by kernel_rfl);have L:NuI _ _ (x 8) y:=i 8 (by kernel_rfl);obtain⟨p5,c5,X,-⟩:=id G
   obtain⟨p8,c8,W,-⟩:=id L
   rw[X] at G
   rw[W] at L
   have e9:x 9=Pv w.heap.size o:=i 9 (by kernel_rfl);have I:=p.out.below g;have c0:=Qk P g;have c1:=Qk V g;have z0:=I.free (a:=[_]) o;have z1:=I.free (a:=[_]) A;have M:=(I.set (a:=[_]) o (.slice p5 j.length c5)).set (a:=[_]) A (.slice p8 l.length c8);have R:=Qf (M.at (a:=[_]));have e1:∀ o,(w.alloc o).heap.size=w.heap.size+1:=fun o=>by simp
   have z:=M.at (a:=[]);have m:=(p.out.at (a:=[])).lt;rw[e1] at z m
   replace z:=Qf z;replace m:=Qf m;clear e1;have E6:=Qf M.bel;have K5:=Qf G;have K8:=Qf L
   have hO:Hid (∀ k,s.heap.size<=k->((y.setCell ⟨w.heap.size,o,none⟩ (.slice p5 j.length c5)).setCell ⟨w.heap.size,A,none⟩ (.slice p8 l.length c8)).heap[k]?=y.heap[k]?):=fun k h=>by
    have:=(p.out.at (a:=[_])).lt
    rw[Xd _ _ _ _ (show k≠w.heap.size by omega),Xd _ _ _ _ (show k≠w.heap.size by omega)]
   subst H r;show wpList _ aa _ [_,_,_] (QM _ x [3,4,5,6,7,8,9]) y;simp only[QM,Act.put,List.setIfInBounds_toArray,List.set_cons_zero,List.set_cons_succ,X,W,e9]
   clear G L i X W e9 I M p C hg P V g;go_upto_region 2 with fail
   generalize World.setCell (World.setCell y _ _) _ _=w6 at R z E6 hO |-;have S:=R.out;simp only[List.setIfInBounds_toArray,List.set_cons_zero,List.set_cons_succ] at S
   have RZ:=Qf (Blk.range S);clear R S;go_wp2_with (first | (refine wpList_load_mid Z _ (.tmp 1) Z w.heap.size 0 Z _ _ RZ.out N Z q ?_) | (refine wpList_store_mid Z _ (.tmp 2) (.tmp 11) Z (w.heap.size+1) 0 _ Z Z (Blk.there z.out Ze) q (all_oneCell_toArray (Xe.1 Z)) ?_))
   have i:∀ x k,s.heap.size<=k->(w6.setCells (w.heap.size+1) 0 x).heap[k]?=y.heap[k]?:=fun x k h=>(QE (by have:=m.out;omega) x 0 w6).trans (hO.out k h);have h3:w.heap.size<=s.heap.size:=by have:=m.out;omega
   exact Qca (t:=2) Z Z Z (Blk.setsA z.out _ Z) N Z q ⟨_,_,Z,K5.out.move (i _) h3,K8.out.move (i _) h3,QJ (by omega) _ _ _ 0 E6.out⟩
def NuT (lo:Nat) (x:MTo) (v:Value) (w:World):Prop:=∃ a b,v=.agg #[Iv x.block,a,b]/\NuI lo x.regs a w/\NuI lo x.args b w
theorem NuT.below {lo:Nat}{x:MTo}(b:Below w.heap.size w w') (h:NuT lo x v w):NuT lo x v w':=by
 obtain⟨p,q,rfl,h,k⟩:=h
 exact⟨p,q,Z,h.below b,k.below b⟩
theorem NuI.in {lo:Nat}(h:NuI lo l v w):intsL.In w (Qcv lo) l [v]:=by obtain⟨p,c,rfl,h⟩:=h;exact h
theorem NuI.lo {lo a:Nat}(h:NuI lo l v w) (b:a<=lo):NuI a l v w:=h.move (fun _ _=>rfl) b
theorem Qli {x:MTo}(h:QhB w All x pR cR pA cA) (d:x.regs.length<=4294967296) (c:x.args.length<=4294967296):Calls prog 232 #[.agg #[Iv x.block,.slice pR x.regs.length cR,.slice pA x.args.length cA]] w fun e w'=>∃ v,e=.returned v/\NuT w.heap.size x v w'/\Below w.heap.size w w' :=
 (Qlh (cs:=[Iv x.block]) (.inl ⟨Z,_,Z⟩) h.regs h.args d c).mono fun e w' ⟨u,v,a,b,f,g⟩=>⟨_,a,⟨u,v,Z,b,f⟩,g⟩
theorem QlY {x:ZA}{i:EP}(h0:EIn w All x i) (s:x.small) :
 Calls prog 188 #[.agg #[Iv x.op,Iv x.a,Iv x.yes.block,.slice i.pYR x.yes.regs.length i.cYR,.slice i.pYA x.yes.args.length i.cYA,Iv x.no.block,.slice i.pNR x.no.regs.length i.cNR,.slice i.pNA x.no.args.length i.cNA,.slice i.pA x.args.length i.cA]] w fun e w'=>QhT endL w w' x e:=by
 have H:=Qf h0;have N:x.yes.regs.length<=4294967296:=by have:=s.1.1;omega
 have U:x.yes.args.length<=4294967296:=by have:=s.1.2;omega
 have L:x.no.regs.length<=4294967296:=by have:=s.2.1.1;omega
 have V:x.no.args.length<=4294967296:=by have:=s.2.1.2;omega
 have X:x.args.length<=4294967296:=by have:=s.2.2;omega
 clear h0 s;have g:=Qf (((Bxs.start w).new #[Iv x.op,Iv x.a,Iv x.yes.block,.slice i.pYR x.yes.regs.length i.cYR,.slice i.pYA x.yes.args.length i.cYA,Iv x.no.block,.slice i.pNR x.no.regs.length i.cNR,.slice i.pNA x.no.args.length i.cNA,.slice i.pA x.args.length i.cA] 84).new #[Iv 0,Iv 0,Iv 0,Nv,Nv,Iv 0,Nv,Nv,Nv] 84);go_enter func188,ntmps188
 go_upto_region 1 with fail
 generalize World.alloc (World.alloc w _) _=q at g |-;refine Qg 10 (Qls [(5,NuT q.heap.size x.yes),(8,NuT q.heap.size x.no),(11,NuI q.heap.size x.args)] [(1,Pv w.heap.size 0),(3,Pv w.heap.size 2),(4,.agg #[Iv x.yes.block,.slice i.pYR x.yes.regs.length i.cYR,.slice i.pYA x.yes.args.length i.cYA]),(6,Pv w.heap.size 5),(7,.agg #[Iv x.no.block,.slice i.pNR x.no.regs.length i.cNR,.slice i.pNA x.no.args.length i.cNA]),(9,Pv w.heap.size 8),(10,.slice i.pA x.args.length i.cA),(12,Pv w.heap.size 2)]) (fun J=>Below q.heap.size q J) (fun w w'=>Below w.heap.size w w') (by kernel_rfl) (outs:=[1]) (gs:=[]) (bs:=[true,true,true,true,true,true,true,true,true,true]) (n:=16) Z Ze (by kernel_rfl) (by kernel_rfl) ?hR ?hG (QI Zr 1) ⟨Z,Y⟩ ?hA ?hend
 case hR=>exact fun t v w w' G h=>h.keep ⟨NuT.below G,NuT.below G,NuI.below G,Y⟩
 case hG=>exact Y
 case hA =>
  have u:=fun j=>g.out.cell (a:=[_]) j
  repeat
   refine⟨fun a J b d K D=>?_,?_⟩
   focus
    obtain⟨k0,-⟩:=d
    conv at k0=>whnf;rhs;whnf
    have c2:=Qk (u 2 _ Z) b;have c3:=Qk (u 3 _ Z) b;have c4:=Qk (u 4 _ Z) b;have c5:=Qk (u 5 _ Z) b;have c6:=Qk (u 6 _ Z) b;have c7:=Qk (u 7 _ Z) b;have c8:=Qk (u 8 _ Z) b;have f:=g.out.bel.trans (b.mono g.out.bel.size);go_simp
    first
     | with_reducible refine Xm (Qli (H.out.yes.below f) N U) ?_
       rintro e w9 ⟨v9,rfl,⟨F,Q,rfl,I,A⟩,l⟩;exact D _ _ l (b.trans (l.mono b.size)) ⟨F,Q,Z,I.lo b.size,A.lo b.size⟩
     | with_reducible refine Xm (Qli (H.out.no.below f) L V) ?_
       rintro e w9 ⟨v9,rfl,⟨F,Q,rfl,I,A⟩,l⟩;exact D _ _ l (b.trans (l.mono b.size)) ⟨F,Q,Z,I.lo b.size,A.lo b.size⟩
     | with_reducible refine Xm (QaP _ _ _ J (Ya H.out.args f) X) ?_
       rintro e w9 ⟨p9,c9,rfl,A,l⟩;exact D _ _ l (b.trans (l.mono b.size)) ⟨p9,c9,Z,Yc A (fun k d _=>Zt b.size d)⟩
     | exact D _ _ Zr b Z
  trivial
 case hend =>
  rintro R B r b d;obtain⟨y1,y2,e5,P,S⟩:NuT _ _ (B 5) r:=d 5 (by kernel_rfl)
  obtain⟨n1,n2,e8,O,W⟩:NuT _ _ (B 8) r:=d 8 (by kernel_rfl)
  have E:NuI _ _ (B 11) r:=d 11 (by kernel_rfl);have C:B 12=Pv w.heap.size 2:=d 12 (by kernel_rfl);obtain⟨q1,d1,rfl,-⟩:=id P
  obtain⟨q2,d2,rfl,-⟩:=id S
  obtain⟨q3,d3,rfl,-⟩:=id O
  obtain⟨q4,d4,rfl,-⟩:=id W
  obtain⟨q5,d5,m,-⟩:=id E
  rw[m] at E
  have c:=g.out.below b;have z2:=c.free (a:=[_]) 2;have z3:=c.free (a:=[_]) 3;have z4:=c.free (a:=[_]) 4;have z5:=c.free (a:=[_]) 5;have z6:=c.free (a:=[_]) 6;have z7:=c.free (a:=[_]) 7;have z8:=c.free (a:=[_]) 8;have c2:=c.cell (a:=[_]) 2 _ Z;have c3:=c.cell (a:=[_]) 3 _ Z;have c4:=c.cell (a:=[_]) 4 _ Z;have c5:=c.cell (a:=[_]) 5 _ Z;have c6:=c.cell (a:=[_]) 6 _ Z;have c7:=c.cell (a:=[_]) 7 _ Z;have c8:=c.cell (a:=[_]) 8 _ Z;have y:=((((((c.set (a:=[_]) 2 (Iv x.yes.block)).set (a:=[_]) 3 (.slice q1 x.yes.regs.length d1)).set (a:=[_]) 4 (.slice q2 x.yes.args.length d2)).set (a:=[_]) 5 (Iv x.no.block)).set (a:=[_]) 6 (.slice q3 x.no.regs.length d3)).set (a:=[_]) 7 (.slice q4 x.no.args.length d4)).set (a:=[_]) 8 (.slice q5 x.args.length d5);simp only[List.setIfInBounds_toArray,List.set_cons_zero,List.set_cons_succ] at y
  generalize f:World.setCell _ _ _=w6 at y;have e1:∀ o,(w.alloc o).heap.size=w.heap.size+1:=fun o=>by simp
  have z:=y.at (a:=[]);have RZ:=Qf (Blk.range (y.at (a:=[_])));have M:=(g.out.at (a:=[])).lt;have aa:=(g.out.at (a:=[_])).lt;rw[e1] at z M
  replace z:=Qf z;have E6:=Qf y.bel;have T:=Qf (show EIn r (Qcv q.heap.size) x ⟨q1,d1,q2,d2,q3,d3,q4,d4,q5,d5⟩ from ⟨⟨P.in,S.in,H.out.yes.bnd⟩,⟨O.in,W.in,H.out.no.bnd⟩,E.in,H.out.bnd⟩)
  have hO:Hid (∀ k,q.heap.size<=k->w6.heap[k]?=r.heap[k]?):=fun k h=>by
   rw[<-f]
   iterate 7 rw[Xd _ _ _ _ (show k≠w.heap.size by omega)]
  show wpList _ R _ [_,_,_,_,_] (QM _ B [3,4,5,6,7,8,9,10,11,12]) r;simp only[QM,Act.put,List.setIfInBounds_toArray,List.set_cons_zero,List.set_cons_succ,e5,e8,m,C]
  clear e5 e8 m C c y b g H e1 P S O W E d;replace f:=Qf f;go_upto_region 2 with fail
  rw[f.out]
  clear f c2 c3 c4 c5 c6 c7 c8 z2 z3 z4 z5 z6 z7 z8;have hu:=underlying84;have p:(prog.info? 84).map (·.size)=some 9:=by kernel_rfl
  go_wp2_with (first | (refine wpList_load_mid Z _ (.tmp 1) Z w.heap.size 0 Z _ _ RZ.out hu Z p ?_) | (refine wpList_store_mid Z _ (.tmp 2) (.tmp 15) Z (w.heap.size+1) 0 _ Z Z (Blk.there z.out Ze) p (all_oneCell_toArray (Xe.1 Z)) ?_))
  exact Qca (t:=2) Z Z Z (Blk.setsA z.out _ Z) hu Z p ⟨_,Z,QgG (T.out.keep (fun k d _=>(QE (by have:_<=k:=d;omega) _ 0 w6).trans (hO.out k d)) (fun k d _=>by have:_<=k:=d;show _<=k;omega)),QJ (by omega) _ _ _ 0 E6.out⟩
def Qmx (n:Nat):Prop:=∀ (t:TT n) (ds:List Value) (w:World),(Lay.tt n).In w All t ds->t.count<=100000->Calls prog 123 #[.agg ds.toArray] w fun e w'=>QhT (Lay.tt n) w w' t e
theorem QmL (w:World) (O:Nat->Prop) (x:TT n) (b:List Value) (h:(Lay.tt n).In w O x b):∀ v∈b,v.oneCell'=true:=by
 obtain⟨a,c,rfl,-⟩:=h
 exact Xe.1 Z
theorem enters1:Qah 123:=fun _ _=>by kernel_rfl
theorem enters2:Qah 187:=fun _ _=>by kernel_rfl
theorem enters3:Qah 125:=fun _ _=>by kernel_rfl
theorem enters4:Qah 77:=fun _ _=>by kernel_rfl
theorem cOwnType_:∀ n,Qmx n:=by
 intro n
 induction n with
 | zero=>intro t;exact Empty.elim t
 | succ n ih =>
   intro t L w l S;have u:∀ x∈t.2.2,x.count<=100000:=fun x y=>by have:=t.count_kid y;omega
   have E:t.2.2.length<=100000:=by have:=t.len_lt_count;rw[t.len_eq] at this;omega
   obtain⟨p,c,rfl,l,j⟩:=l
   have e:Hid _:=QeN (c:=c) l.list j.2;clear l;simp only[TT.len_eq]
   have g:=Qf (((Bxs.start w).new #[Iv t.kind,Iv t.r,.slice p t.2.2.length c] 105).new #[Iv 0,Iv 0,Nv] 105);have v:∀ o,(w.alloc o).heap.size=w.heap.size+1:=fun o=>by simp
   have b:Hid (w.heap.size+1<((w.alloc (.cells #[Iv t.kind,Iv t.r,.slice p t.2.2.length c] 105)).alloc (.cells #[Iv 0,Iv 0,Nv] 105)).heap.size):=by have:=(g.out.at (a:=[])).lt;rw[v] at this;exact this
   go_enter func123,ntmps123
   go_upto_region 1 with fail
   generalize World.alloc (World.alloc w _) _=Q at g b |-;have B:=g.out.cell (a:=[_]) 2 _ Z;have H:=Qf (Qaa (A:=Lay.tt n) (.inl ⟨Z,Z⟩) enters1 (Ya e.out g.out.bel) (by omega) QmL (fun x y L P h=>ih x L P h (u x y)));go_wp2_with fail
   refine H.out.mono ?_;rintro _ z ⟨q,m,rfl,I,D⟩;have s:=g.out.below D;have B:=s.cell (a:=[_]) 2 _ Z;have M:=s.free (a:=[_]) 2;have i:=s.set (a:=[_]) 2 (.slice q t.2.2.length m);simp only[List.setIfInBounds_toArray,List.set_cons_zero,List.set_cons_succ] at i
   have f:=i.at (a:=[]);rw[v] at f
   replace f:=Qf f;have F:=Qf i.bel;have J:=Qf (Blk.range (i.at (a:=[_])));have G:Hid (∀ k,Q.heap.size<=k->(z.setCell ⟨w.heap.size,2,none⟩ (.slice q t.2.2.length m)).heap[k]?=z.heap[k]?):=fun k h=>Xd _ _ _ _ (show k≠w.heap.size by have:=b.out;omega);have O:=Qf I;clear H s i g I D e v;go_upto_region 2 with fail
   generalize World.setCell z _ _=K at f F J G |-;clear B M;have C:=underlying105;have d:=Qbm infoType0;go_wp2_with (first | (refine wpList_load_mid Z _ (.tmp 1) Z w.heap.size 0 Z _ _ J.out C Z d ?_) | (refine wpList_store_mid Z _ (.tmp 2) (.tmp 7) Z (w.heap.size+1) 0 _ Z Z (Blk.there f.out Ze) d (all_oneCell_toArray (Xe.1 Z)) ?_))
   have R:=b.out;have N:=QX (Lay.keep (Qp n) (w':=K.setCells (w.heap.size+1) 0 [Iv t.kind,Iv t.r,.slice q t.2.2.length m]) (O':=Qcv w.heap.size) (fun k e _=>(QE (by have:_<=k:=e;omega) _ 0 K).trans (G.out k e)) (fun k e _=>by have:_<=k:=e;show _<=k;omega) O.out);exact Qca (t:=2) Z Z Z (Blk.setsA f.out _ Z) C Z d ⟨_,Z,⟨q,m,by rw[TT.len_eq],N.1,j⟩,QJ (by omega) _ _ _ 0 F.out⟩
theorem Qdv {α:Type}{A:Lay α}{lo:Nat}{x:α}(h:A.In w (Qcv lo) x ds){p:Addr}(a:p.block<lo) (v:Value):A.In (w.setCell p v) (Qcv lo) x ds:=Lay.setCell h (fun e=>by have:lo<=p.block:=e;omega) v
theorem QbS {α:Type}{A:Lay α}{lo hi:Nat}{x:α}(h:A.In w (Qcv hi) x ds) (b:lo<=hi):A.In w (Qcv lo) x ds:=Yc h (fun k a _=>Zt b a)
theorem Qnc (w:World) (O:Nat->Prop) (x:Qs) (a:List Value) (h:insL.In w O x a):∀ v∈a,v.oneCell'=true:=by
 obtain⟨i,rfl,-⟩:=Qem h
 exact Xe.1 Z
theorem Qmy (w:World) (O:Nat->Prop) (x:ZA) (a:List Value) (h:endL.In w O x a):∀ v∈a,v.oneCell'=true:=by
 obtain⟨i,rfl,-⟩:=Qev h
 exact Xe.1 Z
theorem Qnv (w:World) (O:Nat->Prop) (x:MBlock n) (a:List Value) (h:(Zo n).In w O x a):∀ v∈a,v.oneCell'=true:=by
 obtain⟨i,rfl,-⟩:=Qb5 h
 exact Xe.1 Z
theorem Qnl (w:World) (O:Nat->Prop) (x:MFunc n) (a:List Value) (h:(ZS n).In w O x a):∀ v∈a,v.oneCell'=true:=by
 obtain⟨i,rfl,-⟩:=QcW h
 exact Xe.1 Z
theorem QcM {l:List (TT n)}(h:(Qp n).In w All l [.slice p l.length c]) (a:Qdc l):Calls prog 122 #[.slice p l.length c,.func (.func 123) #[] #[]] w fun e w'=>Qhu (Lay.tt n) w w' l e :=
 Qaa (.inl ⟨Z,Z⟩) enters1 h (by have:=a.1;omega) QmL (fun x b d f h=>cOwnType_ n x d f h (a.2 x b))
theorem Qly {l:List Qs}(h:insL.list.In w All l [.slice p l.length c]) (t:l.length<=100000) (j:∀ x∈l,x.small):Calls prog 186 #[.slice p l.length c,.func (.func 187) #[] #[]] w fun e w'=>Qhu insL w w' l e :=
 Qaa (.inr (.inl ⟨Z,Z⟩)) enters2 h (by omega) Qnc (fun x g s r h=>by
  obtain⟨i,rfl,f⟩:=Qem h
  refine(Qlh (cs:=[Iv x.op,Iv x.a,Iv x.b,Iv x.c,Iv x.k,Iv x.n]) (.inr ⟨Z,_,_,_,_,_,_,Z⟩) f.regs f.args (by have:=(j x g).1;omega) (by have:=(j x g).2;omega)).mono ?_
  rintro e w' ⟨u,v,rfl,⟨a,c,rfl,m⟩,⟨b,d,rfl,o⟩,q⟩;exact⟨_,Z,Qmg m o f.bnd,q⟩)
theorem QiQ {x:MBlock n}(h:(Zo n).In w All x ds) (hs:x.small):Calls prog 125 #[.agg ds.toArray] w fun e w'=>QhT (Zo n) w w' x e:=by
 obtain⟨i,rfl,hb⟩:=Qb5 h
 have H:=Qf hb;have G:=Qf hs;clear h hb hs;have A:=Qf (((Bxs.start w).new #[Iv x.regs,.slice i.pP x.params.length i.cP,.slice i.pC x.code.length i.cC,Iv x.fin.op,Iv x.fin.a,Iv x.fin.yes.block,.slice i.e.pYR x.fin.yes.regs.length i.e.cYR,.slice i.e.pYA x.fin.yes.args.length i.e.cYA,Iv x.fin.no.block,.slice i.e.pNR x.fin.no.regs.length i.e.cNR,.slice i.e.pNA x.fin.no.args.length i.e.cNA,.slice i.e.pA x.fin.args.length i.e.cA] 86).new #[Iv 0,Nv,Nv,Iv 0,Iv 0,Iv 0,Nv,Nv,Iv 0,Nv,Nv,Nv] 86);have T:∀ o,(w.alloc o).heap.size=w.heap.size+1:=fun o=>by simp
 have b:=Qf ((A.out.at (a:=[])).lt);rw[T] at b
 go_enter func125,ntmps125
 go_upto_region 1 with fail
 generalize World.alloc (World.alloc w _) _=y at A b |-;have c1:=A.out.cell (a:=[_]) 1 _ Z;have C1:=Qf (QcM (Ya H.out.params A.out.bel) G.out.2.1);go_wp2_with fail
 refine C1.out.mono ?_;rintro _ w4 ⟨m,u,rfl,I1,U⟩;have P:=A.out.below U;replace c1:=P.cell (a:=[_]) 1 _ Z;have z1:=P.free (a:=[_]) 1;have D:=Qf (P.set (a:=[_]) 1 (.slice m x.params.length u));have J1:=Qf (Qdv I1 (p:=⟨w.heap.size,1,none⟩) (by have:=b.out;show w.heap.size<_;omega) (.slice m x.params.length u));have b5:=Qf U.size;clear P C1 I1 U A;go_upto_region 2 with fail
 generalize B:World.setCell w4 _ _=w5 at D J1 |-;have s:Hid (y.heap.size<=w5.heap.size):=by show _<=_;rw[<-B];simpa using b5.out
 clear B b5 c1 z1;have c2:=D.out.cell (a:=[_]) 2 _ Z;have C2:=Qf (Qly (Ya H.out.code D.out.bel) G.out.1 G.out.2.2.2);go_wp2_with fail
 refine C2.out.mono ?_;rintro _ w6 ⟨j,g,rfl,I2,M⟩;have R:=D.out.below M;replace c2:=R.cell (a:=[_]) 2 _ Z;have z2:=R.free (a:=[_]) 2;have l:=R.set (a:=[_]) 2 (.slice j x.code.length g);have hp:w.heap.size<y.heap.size:=by have:=b.out;omega
 have K1:=Qf (Qdv (Ya J1.out M) (p:=⟨w.heap.size,2,none⟩) hp (.slice j x.code.length g));have S:=Qf (Qdv (QbS I2 s.out) (p:=⟨w.heap.size,2,none⟩) hp (.slice j x.code.length g));have b7:=Qf (Zt s.out M.size);simp only[List.setIfInBounds_toArray,List.set_cons_zero,List.set_cons_succ] at l
 replace l:=Qf l;clear R C2 I2 M D J1;go_upto_region 3 with fail
 generalize J:World.setCell w6 _ _=w7 at l K1 S |-;have L:Hid (y.heap.size<=w7.heap.size):=by show _<=_;rw[<-J];simpa using b7.out
 clear J b7 c2 z2 s;have hE:=Qf (QlG (l.out.at (a:=[_])) 3 9 Z);have C3:=Qf (QlY (H.out.fin.below l.out.bel) G.out.2.2.1);have hu:=underlying84;have C:(prog.info? 84).map (·.size)=some 9:=by kernel_rfl
 have hp:w.heap.size<y.heap.size:=by have:=b.out;omega
 go_wp2_with (refine wpList_load_mid Z _ (.tmp 11) Z w.heap.size 3 Z _ _ hE.out hu Z C ?_)
 refine C3.out.mono ?_;rintro _ f ⟨c,rfl,N,Q⟩;have E:=endL.len N;have he:=Qf (all_oneCell_toArray (Qmy _ _ _ _ N));have O:=l.out.below Q;have HB:=O.at (a:=[_]);have HT:=Qf (Blk.there (o:=3) (n:=c.toArray.size) HB (by rw[List.size_toArray,E];exact Ze));have HK:=Qf (C.trans (congrArg some E.symm));have HZ:=Blk.sets c [Iv x.regs,.slice m x.params.length u,.slice j x.code.length g] _ f (by rw[E];rfl) HB;have W:=O.at (a:=[]);rw[T] at W
 have V:Hid (Blk (f.setCells w.heap.size 3 c) (w.heap.size+1) _ _):=(QE (by omega) c 3 f).trans W;have E6:=Qf (QJ Ze c f w 3 O.bel);have RZ:=Qf (Blk.range HZ);have hO:Hid (∀ k,y.heap.size<=k->(f.setCells w.heap.size 3 c).heap[k]?=f.heap[k]?):=fun k h=>QE (by omega) c 3 f;have L1:=Qf (Ya K1.out Q);have L2:=Qf (Ya S.out Q);have L3:=Qf (QbS N L.out);have aa:=H.out.bnd;clear O HB HZ W C3 K1 S N Q hE l H G L T;go_upto_region 4 with (refine wpList_store_mid Z _ (.tmp 14) (.tmp 13) Z w.heap.size 3 c.toArray Z Z HT.out HK.out he.out ?_)
 generalize World.setCells f _ _ _=w9 at V E6 RZ hO |-;have K:=underlying86;have r:([Iv x.regs,.slice m x.params.length u,.slice j x.code.length g]++c:List Value).length=12:=by rw[List.length_append,E];rfl
 have d:=Qf ((Qbm infoBlock).trans (congrArg some r.symm));have z:=Qf r;have F:=Qf (all_oneCell_toArray (cs:=[Iv x.regs,.slice m x.params.length u,.slice j x.code.length g]++c) (fun v hv=>(List.mem_append.1 hv).elim (fun h=>Xe.1 (rfl:([Iv x.regs,.slice m x.params.length u,.slice j x.code.length g]:List Value).all (·.oneCell')=true) v h) (Qmy _ _ _ _ L3.out v)));generalize I:([Iv x.regs,.slice m x.params.length u,.slice j x.code.length g]++c:List Value)=q at RZ d z F;replace I:=Qf I;clear r HT HK he E;go_wp2_with (first | (refine wpList_load_mid Z _ (.tmp 1) Z w.heap.size 0 Z q _ RZ.out K Z d.out ?_) | (refine wpList_store_mid Z _ (.tmp 2) (.tmp 15) Z (w.heap.size+1) 0 q.toArray Z Z (Blk.there V.out (by rw[List.size_toArray,z.out];exact Ze)) d.out F.out ?_))
 have hk:∀ k,y.heap.size<=k->(w9.setCells (w.heap.size+1) 0 q).heap[k]?=f.heap[k]?:=fun k h=>(QE (by have:=b.out;omega) _ 0 w9).trans (hO.out k h);have X:w.heap.size<=y.heap.size:=by omega
 replace I:=I.out;subst I;refine Qca (t:=2) Z Z Z (Blk.setsA V.out _ z.out) K Z d.out ⟨_,Z,?_,QJ (by omega) _ _ _ 0 E6.out⟩;exact QgB (Lay.keep _ (fun k h _=>hk k h) (fun k h _=>Zt X h) L1.out) (Lay.keep _ (fun k h _=>hk k h) (fun k h _=>Zt X h) L2.out) (Lay.keep _ (fun k h _=>hk k h) (fun k h _=>Zt X h) L3.out) aa
theorem QjZ {x:MFunc n}(h:(ZS n).In w All x ds) (hs:x.small):Calls prog 77 #[.agg ds.toArray] w fun e w'=>QhT (ZS n) w w' x e:=by
 obtain⟨i,rfl,hb⟩:=QcW h
 have H:=Qf hb;have l:=Qf hs;clear h hb hs;have f:=Qf (((Bxs.start w).new #[Iv x.regs,.slice i.pP x.params.length i.cP,.slice i.pR x.results.length i.cR,.slice i.pB x.blocks.length i.cB] 89).new #[Iv 0,Nv,Nv,Nv] 89);have J:∀ o,(w.alloc o).heap.size=w.heap.size+1:=fun o=>by simp
 have b:=Qf ((f.out.at (a:=[])).lt);rw[J] at b
 go_enter func77,ntmps77
 go_upto_region 1 with fail
 generalize World.alloc (World.alloc w _) _=u at f b |-;have c1:=f.out.cell (a:=[_]) 1 _ Z;have C1:=Qf (QcM (Ya H.out.params f.out.bel) l.out.2.1);go_wp2_with fail
 refine C1.out.mono ?_;rintro _ w4 ⟨X,d1,rfl,I1,L⟩;have D:=f.out.below L;replace c1:=D.cell (a:=[_]) 1 _ Z;have z1:=D.free (a:=[_]) 1;have j:=Qf (D.set (a:=[_]) 1 (.slice X x.params.length d1));have T:=Qf (Qdv I1 (p:=⟨w.heap.size,1,none⟩) (by have:=b.out;show w.heap.size<_;omega) (.slice X x.params.length d1));have b5:=Qf L.size;clear D C1 I1 L f;go_upto_region 2 with fail
 generalize g:World.setCell w4 _ _=w5 at j T |-;have d:Hid (u.heap.size<=w5.heap.size):=by show _<=_;rw[<-g];simpa using b5.out
 clear g b5 c1 z1;have V:=j.out.cell (a:=[_]) 2 _ Z;have C2:=Qf (QcM (Ya H.out.results j.out.bel) l.out.2.2.1);go_wp2_with fail
 refine C2.out.mono ?_;rintro _ w6 ⟨M,K,rfl,I2,B⟩;have G:=j.out.below B;replace V:=G.cell (a:=[_]) 2 _ Z;have z2:=G.free (a:=[_]) 2;have r:=Qf (G.set (a:=[_]) 2 (.slice M x.results.length K));have m:w.heap.size<u.heap.size:=by have:=b.out;omega
 have Q:=Qf (Qdv (Ya T.out B) (p:=⟨w.heap.size,2,none⟩) m (.slice M x.results.length K));have I:=Qf (Qdv (QbS I2 d.out) (p:=⟨w.heap.size,2,none⟩) m (.slice M x.results.length K));have b7:=Qf (Zt d.out B.size);clear G C2 I2 B j T;go_upto_region 3 with fail
 generalize q:World.setCell w6 _ _=w7 at r Q I |-;have v:Hid (u.heap.size<=w7.heap.size):=by show _<=_;rw[<-q];simpa using b7.out
 clear q b7 V z2 d;have c3:=r.out.cell (a:=[_]) 3 _ Z;have C3:=Qf (Qaa (A:=Zo n) (.inr (.inr (.inl ⟨Z,Z⟩))) enters3 (Ya H.out.blocks r.out.bel) (by have:=l.out.1;omega) Qnv (fun y hy ds wx h=>QiQ h (l.out.2.2.2 y hy)));go_wp2_with fail
 refine C3.out.mono ?_;rintro _ w8 ⟨z,F,rfl,I3,E⟩;have C:=r.out.below E;replace c3:=C.cell (a:=[_]) 3 _ Z;have z3:=C.free (a:=[_]) 3;have s:=C.set (a:=[_]) 3 (.slice z x.blocks.length F);simp only[List.setIfInBounds_toArray,List.set_cons_zero,List.set_cons_succ] at s
 have O:=s.at (a:=[]);rw[J] at O
 have N:=Qf O;have E6:=Qf s.bel;have RZ:=Qf (Blk.range (s.at (a:=[_])));have L1:=Qf (Qdv (Ya Q.out E) (p:=⟨w.heap.size,3,none⟩) m (.slice z x.blocks.length F));have L2:=Qf (Qdv (Ya I.out E) (p:=⟨w.heap.size,3,none⟩) m (.slice z x.blocks.length F));have L3:=Qf (Qdv (QbS I3 v.out) (p:=⟨w.heap.size,3,none⟩) m (.slice z x.blocks.length F));have U:=H.out.bnd;clear C s O C3 Q I I3 E r H l v J;go_upto_region 4 with fail
 generalize World.setCell w8 _ _=S at N E6 RZ L1 L2 L3 |-;clear c3 z3;have W:=underlying89;have c:=Qbm infoFunc;go_wp2_with (first | (refine wpList_load_mid Z _ (.tmp 1) Z w.heap.size 0 Z _ _ RZ.out W Z c ?_) | (refine wpList_store_mid Z _ (.tmp 2) (.tmp 15) Z (w.heap.size+1) 0 _ Z Z (Blk.there N.out Ze) c (all_oneCell_toArray (Xe.1 Z)) ?_))
 have R:∀ vs k,u.heap.size<=k->(S.setCells (w.heap.size+1) 0 vs).heap[k]?=S.heap[k]?:=fun vs k h=>QE (by have:=b.out;omega) _ 0 S;have P:w.heap.size<=u.heap.size:=by omega
 exact Qca (t:=2) Z Z Z (Blk.setsA N.out _ Z) W Z c ⟨_,Z,Qjd (Lay.keep _ (fun k h _=>R _ k h) (fun k h _=>Zt P h) L1.out) (Lay.keep _ (fun k h _=>R _ k h) (fun k h _=>Zt P h) L2.out) (Lay.keep _ (fun k h _=>R _ k h) (fun k h _=>Zt P h) L3.out) U,QJ (by omega) _ _ _ 0 E6.out⟩
theorem QgJ (m:List (MFunc n)) (p:Option Addr) (c:Nat) (w:World) (h:(QaN n).In w All m [.slice p m.length c]) (g:Qbe m) :
 Calls prog 47 #[.agg #[.slice p m.length c]] w fun e w'=>∃ v,e=.returned v/\(∃ a' c',v=.agg #[.slice a' m.length c']/\(QaN n).In w' (Qcv w.heap.size) m [.slice a' m.length c'])/\Below w.heap.size w w':=by
 have H:=Qf h;have l:=Qf g;clear h g;have d:=Qf (((Bxs.start w).new #[.slice p m.length c] 24).new #[Nv] 24);have k:∀ o,(w.alloc o).heap.size=w.heap.size+1:=fun o=>by simp
 have b:=Qf ((d.out.at (a:=[])).lt);rw[k] at b
 go_enter func47,ntmps47
 go_upto_region 1 with fail
 generalize World.alloc (World.alloc w _) _=E at d b |-;have L:=d.out.cell (a:=[_]) 0 _ Z;have s:=Qf (Qaa (A:=ZS n) (.inr (.inr (.inr ⟨Z,Z⟩))) enters4 (Ya H.out d.out.bel) (by have:=l.out.1;omega) Qnl (fun y x K I h=>QjZ h (l.out.2 y x)));go_wp2_with fail
 refine s.out.mono ?_;rintro _ J ⟨i,j,rfl,u,r⟩;have q:=d.out.below r;have f:=q.at (a:=[]);rw[k] at f
 have F:=Qb f 0 _ Z;have G:=Qj f 0;have C:w.heap.size+1<E.heap.size:=b.out;have z:=Qf (Qh f 0 (.slice i m.length j));have D:=Qf (Qdv u (p:=⟨w.heap.size+1,0,none⟩) C (.slice i m.length j));have B:=Qf (q.bel.setCell (p:=⟨w.heap.size+1,0,none⟩) (by show w.heap.size<=w.heap.size+1;omega) (.slice i m.length j));clear q s u r d f k H l b;go_wp2
 exact Qca (t:=2) Z Z Z z.out underlying24 Z (by kernel_rfl) ⟨_,Z,⟨i,j,Z,QbS D.out (by omega)⟩,B.out⟩
abbrev Qcn (be:Nat) (pm:Option Addr) (ml cm:Nat) (pi:Option Addr) (il ci most k:Nat):Array Value :=
 #[Pv be 0,.slice pm ml cm,.slice pi il ci,Iv most,.slice (some ⟨k,0,none⟩) 1 1,Iv 0,Nv,Nv,Iv 0,.bool false]
theorem WAt.begin {a:World}{f:Nat}{m:List (MFunc 6)}{d b lo:Nat}(D:Qdt a f bp (fun x=>d<=x/\x<b) (Est.new pages)) (G:(QaN 6).In a (fun x=>b<=x) m [.slice pm m.length cm])
 (H:intsL.In a (fun x=>b<=x) inp [.slice pi inp.length ci]) (J:inp.length<=ci) (N:b<=a.heap.size) (K:d<=b) (C:lo<=a.heap.size) :
 ∃ g,WAt (((a.alloc (.cells #[Iv 0,Iv 0,Iv 0,Nv] 132)).alloc (.cells #[Pv a.heap.size 0] 130)).alloc (.cells (Qcn f pm m.length cm pi inp.length ci most (a.heap.size+1)) 68)) (a.heap.size+1+1) most m (RM.start inp pages) g/\(∀ x,g.A x->d<=x)/\g.lo=lo/\g.lk=b:=by
 have q:=ZO a (.cells #[Iv 0,Iv 0,Iv 0,Nv] 132);have t:=q.trans ((ZO (a.alloc (.cells #[Iv 0,Iv 0,Iv 0,Nv] 132)) (.cells #[Pv a.heap.size 0] 130)).mono q.size);have n:=Qe a #[Iv 0,Iv 0,Iv 0,Nv] 132;have o:=Qe (a.alloc (.cells #[Iv 0,Iv 0,Iv 0,Nv] 132)) #[Pv a.heap.size 0] 130;have s:(a.alloc (.cells #[Iv 0,Iv 0,Iv 0,Nv] 132)).heap.size=a.heap.size+1:=by simp
 generalize a.alloc (.cells #[Iv 0,Iv 0,Iv 0,Nv] 132)=u at *;rw[s] at o
 have r:(u.alloc (.cells #[Pv a.heap.size 0] 130)).heap.size=a.heap.size+1+1:=by simp[s]
 replace n:(u.alloc (.cells #[Pv a.heap.size 0] 130)).heap[a.heap.size]?=_:=(Below.heap_alloc _ _ _ (by omega)).trans n;generalize u.alloc (.cells #[Pv a.heap.size 0] 130)=l at *;have j:=t.trans ((ZO l (.cells (Qcn f pm m.length cm pi inp.length ci most (a.heap.size+1)) 68)).mono t.size);have v:=Qe l (Qcn f pm m.length cm pi inp.length ci most (a.heap.size+1)) 68;rw[r] at v
 have y:(l.alloc (.cells (Qcn f pm m.length cm pi inp.length ci most (a.heap.size+1)) 68)).heap.size=a.heap.size+1+1+1:=by simp[r]
 replace n:(l.alloc (.cells (Qcn f pm m.length cm pi inp.length ci most (a.heap.size+1)) 68)).heap[a.heap.size]?=_:=(Below.heap_alloc _ _ _ (by omega)).trans n;replace o:(l.alloc (.cells (Qcn f pm m.length cm pi inp.length ci most (a.heap.size+1)) 68)).heap[a.heap.size+1]?=_:=(Below.heap_alloc _ _ _ (by omega)).trans o;generalize l.alloc (.cells (Qcn f pm m.length cm pi inp.length ci most (a.heap.size+1)) 68)=z at *;clear q t s r;obtain⟨F,E⟩:∃ F,a.heap.size=F:=⟨_,Z⟩
 rw[E] at n o v y |-
 let ow:Nat->Nat:=fun x=>if x=F+1+1 then 1 else if d<=x/\x<b then 2 else if x=F+1 then 3 else if x=F then 5 else 0
 have w:∀ x,b<=x->x<F->ow x=0:=fun x L M=>by
  show (if x=F+1+1 then 1 else if d<=x/\x<b then 2 else if x=F+1 then 3 else if x=F then 5 else 0)=0;rw[Xr (by omega),Xr (by omega),Xr (by omega),Xr (by omega)]
 have B:∀ x,ow x≠0->d<=x/\x<F+1+1+1:=fun x h=>by
  have h:(if x=F+1+1 then 1 else if d<=x/\x<b then 2 else if x=F+1 then 3 else if x=F then 5 else 0)≠0:=h;split at h
  ·omega
  ·split at h
   ·omega
   ·split at h
    ·omega
    ·split at h
     ·omega
     ·exact absurd Z h
 refine⟨⟨ow,f,bp,pm,cm,pi,ci,.slice (some ⟨F+1,0,none⟩) 1 1,Nv,Nv,⟨F,Nv⟩,[],lo,b⟩,⟨v,?_,?_,?_,J,?_,⟨none,0,Z,fun i I=>by simp[RM.start] at I⟩,⟨Z,.inl ⟨Z,Z⟩⟩,?_,Xs Z,fun x c=>?_,fun x c=>by simp[Value.ownBlock] at c,fun x c=>?_,?_⟩,fun x c=>(B x c).1,Z,Z⟩
 ·have k:=D.step (P:=fun _=>False) (P':=fun _=>False) (w':=z) ⟨j.os,j.tape,j.output,j.size,fun x c _=>j.block x c,fun _ h=>h.elim⟩ (fun _ _ h=>h);refine⟨k.1.mono (fun x c _=>?_),k.2⟩
  show (if x=F+1+1 then 1 else if d<=x/\x<b then 2 else if x=F+1 then 3 else if x=F then 5 else 0)=2;rw[Xr (by omega),Xs c]
 ·exact(QaN 6).keep (fun k e p=>j.block k p) (fun k e p=>⟨w k e (by omega),e,by show k<F+1+1;omega⟩) G
 ·exact intsL.keep (fun k e p=>j.block k p) (fun k e p=>⟨w k e (by omega),e,by show k<F+1+1;omega⟩) H
 ·exact⟨Z,.inr ⟨F+1,1,#[Pv F 0],Z,Xb _,o,Ze,by unfold maxLen;omega,Z,Z⟩⟩
 ·refine⟨⟨⟨n,⟨Z,.inl ⟨Z,Z⟩⟩⟩,?_,fun k e=>by simp[Value.ownBlock] at e⟩,Y⟩
  show (if F=F+1+1 then 1 else if d<=F/\F<b then 2 else if F=F+1 then 3 else if F=F then 5 else 0)=5;rw[Xr (by omega),Xr (by omega),Xr (by omega),Xs Z]
 ·have:x=F+1:=by simpa[Value.ownBlock] using c.symm
  subst this;show (if F+1=F+1+1 then 1 else if d<=F+1/\F+1<b then 2 else if F+1=F+1 then 3 else if F+1=F then 5 else 0)=3;rw[Xr (by omega),Xr (by omega),Xs Z]
 ·rw[y];exact(B x c).2
 ·show lo<=z.heap.size;omega
def QiS (w:World) (m:List (MFunc 6)) (inp:List Int) (most pages:Nat) (e:Ending) (w':World):Prop :=
 ∃ b g,e=.returned (.tuple #[Pv b 0,Qbw 0 0])/\WAt w' b most m (RM.start inp pages) g/\(∀ x,g.A x->w.heap.size<=x)/\w.heap.size<=b/\(g.lo=w.heap.size/\w.heap.size<=g.lk)/\Below w.heap.size w w'
theorem QgI {m:List (MFunc 6)}(hM:(QaN 6).In w All m [.slice pm m.length cm]) (hs:Qbe m) (hI:intsL.In w All inp [.slice pi inp.length ci]) (t:∀ x∈inp,Qnb x) (hi:inp.length<=200) (hf:most<=20000) (hp:pages<=64){a0:Int}
 (CV:∀ wx,Below w.heap.size w wx->Calls prog 66 #[.agg #[.slice pm m.length cm]] wx fun e w'=>e=.returned (Qbw 0 a0)/\Below wx.heap.size wx w') :
 Calls prog 32 #[.agg #[.slice pm m.length cm],.slice pi inp.length ci,Iv (most:Int),Iv (pages:Int)] w fun e w'=>QiS w m inp most pages e w':=by
 have HM:=Qc hM;have HS:=Qc hs;have HI:=Qc hI;have ac:=Qc t;have HL:=Qc (Xh hi (Xh hf hp));have l:=Qc (Qk8 w (.cells #[.slice pm m.length cm] 24) (.cells #[Iv 0,Iv 0] 32));have ad:=Qc CV;have d1:decide ((inp.length:Int)>200)=false:=Xu (by omega);have d2:decide ((most:Int)<0)=false:=Xu (by omega);have d3:decide ((most:Int)>20000)=false:=Xu (by omega);clear hM hs hI t hi hf hp CV;go_enter func32,ntmps32
 go_upto_region 1 with fail
 have D:Hid (Blk ((w.alloc (.cells #[.slice pm m.length cm] 24)).alloc (.cells #[Iv 0,Iv 0] 32)) w.heap.size #[.slice pm m.length cm] 24):=QnO w #[.slice pm m.length cm] 24 _;have K:Hid (Blk ((w.alloc (.cells #[.slice pm m.length cm] 24)).alloc (.cells #[Iv 0,Iv 0] 32)) (w.heap.size+1) #[Iv 0,Iv 0] 32):=QmU w _ #[Iv 0,Iv 0] 32;generalize (w.alloc (.cells #[.slice pm m.length cm] 24)).alloc (.cells #[Iv 0,Iv 0] 32)=w2 at l D K |-;obtain⟨Y,hY⟩:∃ Y,w.heap.size+1=Y:=⟨_,Z⟩
 have HY:Hid (w.heap.size<=Y):=by show _<=_;omega
 rw[hY] at K |-
 clear hY;have x0:=Qb D.out 0 _ Z;generalize hX:w.heap.size=X at x0 D |-;have s:=Qc (ad.out w2 l.out);go_upto_region 2 with (go_at_call 66;refine s.out.mono ?_;rintro L I ⟨rfl,J⟩)
 have E:=Qe I #[Iv 0,Iv a0] 32;have y:=Qc (J.trans ((ZO I (.cells #[Iv 0,Iv a0] 32)).mono J.size));clear J s;generalize I.alloc (.cells #[Iv 0,Iv a0] 32)=O at E y |-;generalize I.heap.size=F at E |-;have c0:=Qb E 0 _ Z;clear E x0;have CE:=Qc (QkR O pages HL.out.2.2);go_upto_region 7 with (go_at_call 67;refine CE.out.mono ?_;rintro L i ⟨be,bp,rfl,hE,G⟩)
 clear c0 CE;have B6:=Qc (G.trans ((ZO i (.cells #[Iv 0,Iv 0] 32)).mono G.size));have C:=Qc (hE.step (P:=fun _=>False) (P':=fun _=>False) (w':=i.alloc (.cells #[Iv 0,Iv 0] 32)) ⟨Z,Z,Z,by simp,fun x f _=>Below.heap_alloc _ _ _ f,fun _ h=>h.elim⟩ (fun _ _ h=>h));have j:Hid (O.heap.size<=i.heap.size/\i.heap.size<=(i.alloc (.cells #[Iv 0,Iv 0] 32)).heap.size):=⟨G.size,by simp⟩;have z:=Qe i #[Iv 0,Iv 0] 32;clear hE G;generalize i.alloc (.cells #[Iv 0,Iv 0] 32)=q at B6 C j z |-;generalize i.heap.size=H at C j z |-;have g0:=Qb z 0 _ Z;clear z;have M:=Qc (y.out.trans (B6.out.mono y.out.size));have X6:=Qk (Qb D.out 0 _ Z) M.out;have A:=Qc (l.out.trans (M.out.mono l.out.size));go_upto_region 9 with fail
 have CO:=Qc (QgJ m pm cm q (Ya HM.out A.out) HS.out);have s:Hid (∀ wx,Below q.heap.size q wx->Calls prog 48 #[.slice pi inp.length ci] wx fun e w'=>Qcf wx inp e w'):=fun wx bx=>Qhv (Ya (Ya HI.out A.out) bx) (by have:=HL.out.1;omega);clear g0;have ab:=Qc (Blk.below K.out M.out);go_wp2_with (first | (go_at_call 47;refine CO.out.mono ?_;rintro L w7 ⟨v7,rfl,⟨T,Q,rfl,p⟩,d⟩) | (go_at_call 48;refine(s.out _ d).mono ?_;rintro L c ⟨V,S,rfl,aa,r,n,b⟩;have U:=(Qk8 c (.cells #[Iv 0,Iv 0,Iv 0,Nv] 132) (.cells #[Pv c.heap.size 0] 130)).alloc (by simp;omega) (.cells #[Pv be 0,.slice T m.length Q,.slice V inp.length S,Iv (most:Int),.slice (some ⟨c.heap.size+1,0,none⟩) 1 1,Iv 0,Nv,Nv,Iv 0,.bool false] 68);have a:=Blk.below (Blk.below (Blk.below ab.out d) b) U;have y0:=Qb a 0 _ Z;have y1:=Qb a 1 _ Z;have z0:=Qj a 0;have z1:=Qj a 1))
 have af:q.heap.size<=w7.heap.size:=d.size;have ah:=b.size;have E8:=(C.out.step (P:=fun _=>False) (P':=fun _=>False) (w':=w7) ⟨d.os,d.tape,d.output,d.size,fun x f _=>d.block x f,fun _ h=>h.elim⟩ (fun _ _ h=>h)).step (P:=fun _=>False) (P':=fun _=>False) (w':=c) ⟨b.os,b.tape,b.output,b.size,fun x f _=>b.block x f,fun _ h=>h.elim⟩ (fun _ _ h=>h);obtain⟨N,ai⟩:=j.out
 have M8:(QaN 6).In c (fun x=>H<=x) m [.slice T m.length Q]:=Ya (Yc p (fun k hk _=>by have hk:q.heap.size<=k:=hk;show H<=k;omega)) b;have I8:intsL.In c (fun x=>H<=x) inp [.slice V inp.length S]:=Qkf r ac.out (fun x f=>by have:=n x f;show H<=x;omega);have W:w.heap.size<=O.heap.size:=Zt l.out.size y.out.size;obtain⟨g,A9,hg,R,ag⟩:=WAt.begin (most:=most) (lo:=w.heap.size) E8 M8 I8 aa (by omega) N (by omega)
 have C9:=A.out.trans ((d.trans ((b.trans (U.mono b.size)).mono d.size)).mono A.out.size);have ae:w.heap.size<=c.heap.size+1+1:=by omega
 have u:w.heap.size<=g.lk:=by omega
 clear y0 y1 z0 z1 U E8 M8 I8 p r n d b CO s C;generalize ((c.alloc (.cells #[Iv 0,Iv 0,Iv 0,Nv] 132)).alloc (.cells #[Pv c.heap.size 0] 130)).alloc (.cells (Qcn be T m.length Q V inp.length S most (c.heap.size+1)) 68)=B at *
 have X9:((B.setCell ⟨Y,0,none⟩ (Iv 0)).setCell ⟨Y,1,none⟩ (Iv 0)).heap[Y]?=some (.cells #[Iv 0,Iv 0] 32 (0,0)):=by
  rw[Qh (Qh a 0 _) 1 _]
  simp
 have o:Below B.heap.size B ((B.setCell ⟨Y,0,none⟩ (Iv 0)).setCell ⟨Y,1,none⟩ (Iv 0)):=⟨Z,Z,Z,by simp,fun k hk=>by
  by_cases e:k=Y
  ·subst e;exact X9.trans a.symm
  ·rw[Xd _ _ _ _ e,Xd _ _ _ _ e]⟩
 have f0:=Qb X9 0 _ Z;have f1:=Qb X9 1 _ Z;exact Xy (v:=.tuple #[Pv (c.heap.size+1+1) 0,Qbw 0 0]) (by simp[results,results32,go_sem,f0,f1]) Z ⟨_,g,Z,A9.below o,fun x f=>Zt W (hg x f),ae,⟨R,u⟩,C9.trans (o.mono C9.size)⟩
section
variable {m:List (MFunc 6)}{op:Int->Int->Int->Option Int}{R N r:RM}{x:Qs}{most:Nat}
theorem Qdw (h size:Int) (l:List Int):(R.thing h size l).fuel=R.fuel/\(R.thing h size l).back=R.back:=by
 unfold RM.thing;split<;>exact⟨Z,Z⟩
theorem QiB (h:R.part x=some r):r.fuel=R.fuel/\r.back=R.back:=by
 unfold RM.part at h;repeat' split at h
 all_goals first | (cases h;done) | (cases h;exact⟨Z,Z⟩)
def FuO (f:Nat) (k:List Int) (o:Option RM):Prop:=∀ N,o=some N->N.fuel=f/\N.back=k
theorem FuO.no {k:List Int}:FuO f k none:=fun N h=>by cases h
theorem FuO.some {k:List Int}(h:R.fuel=f/\R.back=k):FuO f k (some R):=fun N e=>by cases e;exact h
theorem FuO.ite {k:List Int}{c:Prop}[Decidable c] {a b:Option RM}(e:c->FuO f k a) (d:¬ c->FuO f k b):FuO f k (if c then a else b):=by
 by_cases h:c
 ·rw[Xs h];exact e h
 ·rw[Xr h];exact d h
theorem ins_fuO:FuO R.fuel R.back (RM.ins op R x):=by
 unfold RM.ins;refine FuO.ite (fun _=>.some ⟨Z,Z⟩) fun _=>FuO.ite (fun _=>?_) fun _=>FuO.ite (fun _=>FuO.ite (fun _=>.some ⟨Z,Z⟩) (fun _=>.some ⟨Z,Z⟩)) fun _=>FuO.ite (fun _=>?_) fun _=>FuO.ite (fun _=>?_) fun _=>FuO.ite (fun _=>?_) fun _=>FuO.ite (fun _=>?_) fun _=>FuO.ite (fun _=>?_) fun _=>FuO.ite (fun e=>FuO.ite (fun d=>?_) (fun _=>.some ⟨Z,Z⟩)) (fun _ N h=>QiB h)
 ·cases iAt R.top.v x.a with
  | none=>exact .no
  | some a =>
    cases iAt R.top.v x.b with
    | none=>exact .no
    | some b =>
      simp only
      cases op x.k a b with
      | none=>exact .some ⟨Z,Z⟩
      | some c=>exact .some ⟨Z,Z⟩
 ·cases iAt R.top.v x.a with
  | none=>exact .no
  | some a=>exact .some ⟨Z,Z⟩
 ·cases iAt R.top.v x.a with
  | none=>exact .no
  | some a=>cases QaA R.top.v x.args with
    | none=>exact .no
    | some l=>exact .some (Qdw _ _ _)
 ·cases iAt R.top.v x.a with
  | none=>exact .no
  | some a=>cases iAt R.top.v x.b with
    | none=>exact .no
    | some k=>exact FuO.ite (fun _=>.some (Qdw _ _ _)) (fun _=>.some ⟨Z,Z⟩)
 ·cases R.inp with
  | nil=>exact .some ⟨Z,Z⟩
  | cons k l=>exact .some ⟨Z,Z⟩
 ·cases iAt R.top.v x.a with
  | none=>exact .no
  | some a=>exact FuO.ite (fun _=>.some ⟨Z,Z⟩) (fun _=>.some ⟨Z,Z⟩)
 ·cases QaA R.top.v x.args with
  | none=>exact .no
  | some l=>exact .some ⟨Z,Z⟩
theorem QjT (h:RM.ins op R x=some r):r.fuel=R.fuel/\r.back=R.back:=ins_fuO r h
theorem Qea {t:MTo}(h:R.to t=some r):r.fuel=R.fuel/\r.back=R.back:=by
 unfold RM.to at h;split at h
 ·cases h
 ·cases h;exact⟨Z,Z⟩
theorem QjA {e:ZA}(h:R.endd e=some r):r.fuel=R.fuel/\(r.done=true\/r.back=R.back):=by
 unfold RM.endd at h;split at h
 ·split at h
  ·cases h
  ·split at h
   ·cases h;exact⟨Z,.inl Z⟩
   ·cases h;exact⟨Z,.inr Z⟩
 ·split at h
  ·split at h
   ·cases h
   ·split at h<;>exact⟨(Qea h).1,.inr (Qea h).2⟩
  ·exact⟨(Qea h).1,.inr (Qea h).2⟩
theorem Qhk (a:N.fuel<=most) (h:RM.step m op most N=some r):r.fuel<=most/\(r.done=false->r.fuel=N.fuel+1/\r.back=N.back):=by
 unfold RM.step at h;split at h
 ·cases h;exact⟨a,fun h=>by cases h⟩
 split at h
 ·cases h
 split at h
 ·cases h
 split at h
 ·have q:r.fuel=N.fuel+1/\r.back=N.back:=QjT h;exact⟨by omega,fun _=>q⟩
 ·obtain⟨q,k⟩:r.fuel=N.fuel+1/\(r.done=true\/r.back=N.back):=QjA h
  exact⟨by omega,fun e=>⟨q,k.resolve_left (by rw[e];decide)⟩⟩
theorem rsteps_snoc:∀ (k:Nat) (R:RM),RM.steps m op most (k+1) R=(match RM.steps m op most k R with
 | none=>none
 | some N=>if N.done then some N else RM.step m op most N)
 | 0,R=>by
   simp only[RM.steps]
   split
   ·rfl
   ·cases RM.step m op most R<;>rfl
 | k+1,R=>by
   rw[RM.steps]
   split
   ·rename_i a
    rw[RM.steps,Xs a]
    simp[a]
   ·rename_i a
    rw[RM.steps,Xr a]
    cases RM.step m op most R with
    | none=>rfl
    | some R'=>exact rsteps_snoc k R'
theorem Qft (h:RM.steps m op most k R=some N) (b:N.done=true):∀ n,k<=n->RM.steps m op most n R=some N:=fun n a=>by
 obtain⟨j,rfl⟩:=Nat.le.dest a
 clear a
 induction j with
 | zero=>exact h
 | succ j ih=>rw[<-Nat.add_assoc,rsteps_snoc,ih];simp[b]
theorem Qef (H:(Qq m).1=0) (inp:List Int)(a:pages<=64) (n:Nat):∃ N,RM.steps m op most n (RM.start inp pages)=some N:=by
 obtain⟨c,b,-,h,-⟩:=Qj8 (op:=op) (most:=most) H inp a n
 exact⟨b,h⟩
end
def QfL (m:List (MFunc 6)) (most:Nat) (R0:RM):Prop:=∀ k,∃ N,RM.steps m aOp most k R0=some N
structure QeJ (wL w:World) (b most:Nat) (m:List (MFunc 6)) (R0 N:RM) (g:WG) (k:Nat):Prop where
 at_:WAt w b most m N g
 far:∀ x,g.A x->wL.heap.size<=x
 bel:Below wL.heap.size wL w
 st:RM.steps m aOp most k R0=some N
 fu:N.done=false->N.fuel=k
 le:N.fuel<=most
 bk:N.done=false->N.back=[]
def boolW:Value->Bool
 | .bool b=>b
 | _=>false
def Qk3 (b most:Nat) (w:World):Nat:=if boolW ((w.cell? ⟨b,9,none⟩).getD undef) then 0 else most+1 - (intOf ((w.cell? ⟨b,8,none⟩).getD undef)).toNat+1
section
variable {wL w w':World}{b most k:Nat}{m:List (MFunc 6)}{R0 N:RM}{g:WG}
theorem WAt.left (S:WAt w b most m N g):Qk3 b most w=if N.done then 0 else most+1 - N.fuel+1:=by
 unfold Qk3;have d:w.cell? ⟨b,9,none⟩=some (.bool N.done):=Qb S.box 9 _ Z;have c:w.cell? ⟨b,8,none⟩=some (Iv N.fuel):=Qb S.box 8 _ Z;rw[d,c]
 by_cases a:N.done=true
 ·simp[a,boolW]
 ·simp[a,intOf,boolW]
theorem QeJ.below (Z:QeJ wL w b most m R0 N g k) (h:Below w.heap.size w w'):QeJ wL w' b most m R0 N g k:=⟨Z.at_.below h,Z.far,Z.bel.trans (h.mono Z.bel.size),Z.st,Z.fu,Z.le,Z.bk⟩
theorem WAt.high (S:WAt w b most m N g) (h:N.back=[]):WAt w b most m N { g with lo:=w.heap.size } :=
 ⟨S.box,S.est,S.mod,S.inp,S.inpC,S.calls,by
  obtain⟨p,c,e,-⟩:=S.back
  exact⟨p,c,e,fun i a=>by rw[h] at a;exact absurd a (XG i)⟩,S.out,S.frs,S.ob,S.oc,S.oo,S.lt,Ze⟩
theorem QeJ.go (l:(modFault m).1=0) (q:most<=20000) (s:QfL m most R0) (t:ROk m 0 R0) (Z:QeJ wL w b most m R0 N g k) (f:N.done=false) :
 Calls prog 34 #[Pv b 0] w fun e w'=>e=.returned (.tuple #[])/\∃ N' g',QeJ wL w' b most m R0 N' g' (k+1)/\Qz g.A g'.A w w'/\(g'.lo=w.heap.size/\g'.lk=g.lk)/\(N'.done=false->N'.fuel=N.fuel+1):=by
 obtain⟨r,n⟩:=s (k+1)
 have a:=n;rw[rsteps_snoc,Z.st] at a
 simp only[f] at a
 have a:RM.step m aOp most N=some r:=by simpa using a
 have o:=Z.fu f;have d:=Z.le;have I:=Qdd l t k Z.st;obtain⟨p,j⟩:=Qhk d a
 refine(Qh5 (Z.at_.high (Z.bk f)) I (by omega) l d (by omega) f a).mono ?_
 rintro e w' ⟨rfl,g',u,c⟩;refine⟨Yz,r,g',⟨u,fun x i=>?_,?_,n,fun h=>by rw[(j h).1,o],p,fun h=>by rw[(j h).2,Z.bk f]⟩,c.1,⟨c.lo,c.lk⟩,fun h=>(j h).1⟩
 ·rcases c.own x i with e | e
  ·exact Z.far x e
  ·have:=Z.bel.size;omega
 ·exact⟨c.os.trans Z.bel.os,c.tape.trans Z.bel.tape,c.output.trans Z.bel.output,Zt Z.bel.size c.size,fun x i=>(c.block x (by have:=Z.bel.size;omega) (fun e=>by have:=Z.far x e;omega)).trans (Z.bel.block x i)⟩
theorem QeJ.end_ (Z:QeJ wL w b most m R0 N g k) (c:k<=most+1) (a:N.done=true):RM.steps m aOp most (most+1) R0=some N:=Qft Z.st a _ c
def Qd8 (w:World) (m:List (MFunc 6)) (inp:List Int) (most pages:Nat) (e:Ending) (w':World):Prop :=
 ∃ N v,RM.steps m aOp most (most+1) (RM.start inp pages)=some N/\N.done=true/\QjI w.heap.size N v w'/\e=.returned (.tuple #[v,Qbw 0 0])/\Below w.heap.size w w'
theorem QkY (hm:(modFault m).1=0) (P:most<=20000) (HS:QfL m most (RM.start inp pages)) (I0:ROk m 0 (RM.start inp pages))
 (R:∀ wx,Below w.heap.size w wx->Calls prog 32 #[.agg #[.slice pm m.length cm],.slice pi inp.length ci,Iv (most:Int),Iv (pages:Int)] wx fun e w'=>QiS wx m inp most pages e w') :
 Calls prog 30 #[.agg #[.slice pm m.length cm],.slice pi inp.length ci,Iv (most:Int),Iv (pages:Int)] w fun e w'=>Qd8 w m inp most pages e w':=by
 have d:=((((Bxs.start w).new #[.slice pm m.length cm] 24)).new #[Iv 0,Nv,Nv,Iv 0] 44).new #[Iv 0,Iv 0] 32;rw[World.size_alloc,World.size_alloc] at d
 have d:=Qc d;have HM:=Qc hm;have HI:=Qc I0;have aa:=Qc P;have af:=Qc HS;have aj:=Qc R;clear hm I0 P HS R;go_enter func30,ntmps30
 go_upto_region 1 with fail
 generalize ((w.alloc (.cells #[.slice pm m.length cm] 24)).alloc (.cells #[Iv 0,Nv,Nv,Iv 0] 44)).alloc (.cells #[Iv 0,Iv 0] 32)=y at d |-;have ae:Hid (w.heap.size<=w.heap.size+1):=by show _<=_;omega
 have ac:Hid (w.heap.size<=w.heap.size+1+1):=by show _<=_;omega
 generalize w.heap.size+1+1=h at d ac |-;generalize w.heap.size+1=c at d ae |-;generalize hX:w.heap.size=X at d |-;have HX:=Qc hX;have R:=Qc (aj.out y (by rw[<-HX.out] at d;exact d.out.bel));have x0:y.cell? ⟨X,0,none⟩=some (.slice pm m.length cm):=d.out.cell (a:=[_,_]) 0 _ Yz;go_upto_region 2 with (go_at_call 32;refine R.out.mono ?_;rintro S p ⟨b,g,rfl,S4,G,ak,K,I⟩)
 have T:=Qc ((d.out.below I).new #[Iv 0,Iv 0] 32);have Z5:Hid (QeJ y (p.alloc (.cells #[Iv 0,Iv 0] 32)) b most m (RM.start inp pages) (RM.start inp pages) g 0):=⟨S4.below (ZO _ _),G,I.trans ((ZO _ _).mono I.size),Yz,fun _=>rfl,Xb _,fun _=>rfl⟩;have ah:Hid (y.heap.size<=p.heap.size):=I.size;clear S4 G ak K I R x0;have an:=Qc d.out.bel
 have D:Hid (y.heap.size<=p.heap.size/\p.heap.size<(p.alloc (.cells #[Iv 0,Iv 0] 32)).heap.size):=by
  constructor
  ·exact ah.out
  ·simp
 clear hX;generalize p.alloc (.cells #[Iv 0,Iv 0] 32)=w5 at T Z5 D |-;generalize p.heap.size=F at T D |-;have f0:w5.cell? ⟨F,0,none⟩=some (Iv 0):=T.out.cell (a:=[]) 0 _ Yz;go_upto_region 4 with fail
 clear f0;go_loopw [] (fun wr=>∃ N g k,QeJ y wr b most m (RM.start inp pages) N g k/\k<=most+1) (fun wr=>Qk3 b most wr)
 case atStart=>exact⟨_,_,_,Z5.out,Xb _⟩
 case round =>
  obtain⟨N,g',k,Z,hk⟩:=hrel
  have B:=Qc (Qfp Z.at_)
  cases hd:N.done with
  | false =>
    have C:=Qc (Z.go HM.out aa.out af.out HI.out hd);have HL:=Qc Z.at_.left;rw[hd] at B HL
    have ap:=Z.le;have V:k+1<=most+1:=by have:=Z.fu hd;omega
    clear Z hd;go_wp2_with (first | (go_at_call 33;refine B.out.mono ?_;rintro S w' ⟨rfl,o⟩;have o:=o.symm;subst o) | (go_at_call 34;refine C.out.mono ?_;rintro S w6 ⟨rfl,N',g6,Z6,T6,-,W⟩))
    go_roundw
    case rel=>exact⟨N',g6,_,Z6,V⟩
    case measure =>
     rw[HL.out,Z6.at_.left]
     have h6:=Z6.le
     cases hd6:N'.done with
     | true=>simp
     | false=>have:=W hd6;simp;omega
  | true =>
    have ai:=Qc (Z.end_ hk hd);have HD:=Qc hd
    have HK:Hid (N.out.length<=1000000/\N.back.length<=1000000):=by
     have J:=Qdd HM.out HI.out k Z.st;exact⟨by have:=J.out.1;omega,by have:=J.out.2;omega⟩
    have CO:=Qc (Qch Z.at_ HK.out.1 HK.out.2);have A:=Qc (d.out.below Z.bel);have ad:Hid (c<wr.heap.size/\h<wr.heap.size):=⟨(A.out.at (a:=[_])).lt,(A.out.at (a:=[])).lt⟩;have al:Hid (w.heap.size<=wr.heap.size):=A.out.bel.size;rw[hd] at B
    clear Z hd hk;go_upto_region 6 with (go_at_call 33;refine B.out.mono ?_;rintro S w' ⟨rfl,o⟩;have o:=o.symm;subst o)
    go_wp2_with fail
    refine CO.out.mono ?_;rintro S w8 ⟨v,rfl,⟨vb,vo,rfl,⟨q,t,rfl,H,L,O⟩,⟨s,r,rfl,M,z,E⟩⟩,b8⟩;have f:=Qc (A.out.below b8);have r0:=f.out.cell (a:=[_]) 0 _ Yz;have r1:=f.out.cell (a:=[_]) 1 _ Yz;have r2:=f.out.cell (a:=[_]) 2 _ Yz;have r3:=f.out.cell (a:=[_]) 3 _ Yz;have z0:=f.out.free (a:=[_]) 0;have z1:=f.out.free (a:=[_]) 1;have z2:=f.out.free (a:=[_]) 2;have z3:=f.out.free (a:=[_]) 3;have s0:=f.out.cell (a:=[]) 0 _ Yz;have s1:=f.out.cell (a:=[]) 1 _ Yz;have y0:=f.out.free (a:=[]) 0;have y1:=f.out.free (a:=[]) 1;have ag:¬ c=h:=fun e=>by have:=f.out.nd;simp[e] at this
    have am:¬ h=c:=fun e=>ag e.symm;have i:=Qc (Xh H (Xh L O));have j:=Qc (Xh M (Xh z E));clear H L O M z E b8 CO B d T A Z5;go_wp2_with fail
    have l:=(((((f.out.set (a:=[_]) 0 (Iv N.fin)).set (a:=[_]) 1 (.slice q N.back.length t)).set (a:=[_]) 2 (.slice s N.out.length r)).set (a:=[_]) 3 (Iv N.fuel)).set (a:=[]) 0 (Iv 0)).set (a:=[]) 1 (Iv 0)
    have KK:∀ x,wr.heap.size<=x->((((((w8.setCell ⟨c,0,none⟩ (Iv N.fin)).setCell ⟨c,1,none⟩ (.slice q N.back.length t)).setCell ⟨c,2,none⟩ (.slice s N.out.length r)).setCell ⟨c,3,none⟩ (Iv N.fuel)).setCell ⟨h,0,none⟩ (Iv 0)).setCell ⟨h,1,none⟩ (Iv 0)).heap[x]?=w8.heap[x]?:=fun x n=>by
     have h1:=ad.out;have U:x≠c:=by omega
     have n9:x≠h:=by omega
     rw[Xd _ _ _ _ n9,Xd _ _ _ _ n9,Xd _ _ _ _ U,Xd _ _ _ _ U,Xd _ _ _ _ U,Xd _ _ _ _ U]
    generalize ((((((w8.setCell ⟨c,0,none⟩ (Iv N.fin)).setCell ⟨c,1,none⟩ (.slice q N.back.length t)).setCell ⟨c,2,none⟩ (.slice s N.out.length r)).setCell ⟨c,3,none⟩ (Iv N.fuel)).setCell ⟨h,0,none⟩ (Iv 0)).setCell ⟨h,1,none⟩ (Iv 0))=u at l KK |-;have f0:u.cell? ⟨c,0,none⟩=some (Iv N.fin):=l.cell (a:=[_]) 0 _ Yz;have f1:u.cell? ⟨c,1,none⟩=some (.slice q N.back.length t):=l.cell (a:=[_]) 1 _ Yz;have f2:u.cell? ⟨c,2,none⟩=some (.slice s N.out.length r):=l.cell (a:=[_]) 2 _ Yz;have f3:u.cell? ⟨c,3,none⟩=some (Iv N.fuel):=l.cell (a:=[_]) 3 _ Yz;have q0:u.cell? ⟨h,0,none⟩=some (Iv 0):=l.cell (a:=[]) 0 _ Yz;have q1:u.cell? ⟨h,1,none⟩=some (Iv 0):=l.cell (a:=[]) 1 _ Yz;have Q:=al.out
    exact Xy (v:=.tuple #[.agg #[Iv N.fin,.slice q N.back.length t,.slice s N.out.length r,Iv N.fuel],Qbw 0 0]) (by simp[results,results30,go_sem,f0,f1,f2,f3,q0,q1]) Yz
     ⟨N,_,ai.out,HD.out,⟨_,_,Yz,⟨q,t,Yz,i.out.1,QZ i.out.2.1 (fun x n=>KK x (i.out.2.2 x n)),fun x n=>Zt Q (i.out.2.2 x n)⟩,⟨s,r,Yz,j.out.1,QZ j.out.2.1 (fun x n=>KK x (j.out.2.2 x n)),fun x n=>Zt Q (j.out.2.2 x n)⟩⟩,Yz,l.bel⟩
end
section
variable {wL w w':World}{b bx by_ most j k s F:Nat}{m o:List (MFunc 6)}{R X0 Y0 X Y:RM}{g gx gy:WG}{O O':Nat->Prop}{ff:Array Value}{T:TypeId}
theorem WAt.other (S:WAt w b most m R g) (T:Qz O O' w w') (e:∀ x,g.A x->¬ O x) (f:∀ x,g.lk<=x->x<b->¬ O x) (h:WIn w (fun x=>(g.ow x=0/\g.lo<=x)/\¬ O x) R.back g.vb):WAt w' b most m R g:=by
 have d:∀ x,g.A x->w'.heap[x]?=w.heap[x]?:=fun x a=>T.block x (S.lt x a) (e x a);have i:=S.est.step (P:=O) (P':=O') T (fun x a=>e x (by show g.ow x≠0;have a:g.ow x=2:=a;omega));refine⟨(d b (by show g.ow b≠0;rw[S.ob];decide)).trans S.box,?_,?_,?_,S.inpC,QZ S.calls (fun x a=>d x (by show g.ow x≠0;rw[S.oc x a];decide)),?_,QZ S.out (fun x a=>d x (by show g.ow x≠0;rw[S.oo x a];decide)),S.frs.keep (fun _ _=>rfl) (fun x a j _=>d x (by show g.ow x≠0;omega)),S.ob,S.oc,S.oo,fun x a=>Zl (S.lt x a) T.size,Zt S.low T.size⟩
 ·exact i
 ·exact(QaN 6).keep (fun x a c=>T.block x c (f x a.2.1 a.2.2)) (fun x a _=>a) S.mod
 ·exact intsL.keep (fun x a c=>T.block x c (f x a.2.1 a.2.2)) (fun x a _=>a) S.inp
 ·exact WIn.keep (fun x a c=>T.block x c a.2) (fun x a _=>a.1) h
structure Qdk (wL w:World) (bx by_ most:Nat) (m o:List (MFunc 6)) (X0 Y0 X Y:RM) (gx gy:WG) (j k s F:Nat) (ff:Array Value) (T:TypeId):Prop where
 x:QeJ wL w bx most m X0 X gx j
 y:QeJ wL w by_ most o Y0 Y gy k
 ap:∀ z,gx.A z->¬ gy.A z
 ys:∀ z,gy.A z->s<=z
 xs:∀ z,gx.A z->z<s\/by_<z
 bs:bx<s
 ly:s<=gy.lk
 xb:WIn w (fun z=>(gx.ow z=0/\gx.lo<=z)/\¬ gy.A z) X.back gx.vb
 yb:WIn w (fun z=>(gy.ow z=0/\gy.lo<=z)/\¬ gx.A z) Y.back gy.vb
 fb:w.heap[F]?=some (.cells ff T (0,0))
 fx:¬ gx.A F
 fy:¬ gy.A F
theorem Qdk.goX (D:(modFault m).1=0) (i:most<=20000) (C:QfL m most X0) (G:ROk m 0 X0) (Z:Qdk wL w bx by_ most m o X0 Y0 X Y gx gy j k s F ff T) (u:X.done=false) :
 Calls prog 34 #[Pv bx 0] w fun e w'=>e=.returned (.tuple #[])/\∃ X' gx',Qdk wL w' bx by_ most m o X0 Y0 X' Y gx' gy (j+1) k s F ff T/\(X'.done=false->X'.fuel=X.fuel+1):=by
 refine(Z.x.go D i C G u).mono ?_
 rintro e w' ⟨rfl,X',gx',l,b,⟨p,E⟩,r⟩;have I:=XC Z.y.at_.box;have n:=XC Z.fb;have g:∀ z,z<w.heap.size->¬ gx.A z->¬ gx'.A z:=fun z a h e=>(b.own z e).elim h (fun q=>by omega);refine⟨Yz,X',gx',⟨l,⟨Z.y.at_.other b (fun z t d=>Z.ap z d t) (fun z v B d=>?_) Z.yb,Z.y.far,l.bel,Z.y.st,Z.y.fu,Z.y.le,Z.y.bk⟩,fun z h c=>?_,Z.ys,fun z h=>?_,Z.bs,Z.ly,?_,?_,(b.block F n Z.fx).trans Z.fb,g F n Z.fx,Z.fy⟩,r⟩
 ·have H:=Z.ly;rcases Z.xs z d with e | e<;>omega
 ·exact g z (Z.y.at_.lt z c) (fun e=>Z.ap z e c) h
 ·rcases b.own z h with e | e
  ·exact Z.xs z e
  ·exact .inr (by omega)
 ·exact WIn.keep (fun _ _ _=>rfl) (fun z a _=>⟨a,fun c=>by
   have v:=Z.y.at_.lt z c;have B:=a.2;omega⟩) l.at_.back
 ·exact WIn.keep (fun z a f=>b.block z f a.2) (fun z a f=>⟨a.1,g z f a.2⟩) Z.yb
theorem Qdk.goY (E:(modFault o).1=0) (i:most<=20000) (C:QfL o most Y0) (G:ROk o 0 Y0) (Z:Qdk wL w bx by_ most m o X0 Y0 X Y gx gy j k s F ff T) :
 Calls prog 34 #[Pv by_ 0] w fun e w'=>e=.returned (.tuple #[])/\∃ Y' gy' k',Qdk wL w' bx by_ most m o X0 Y0 X Y' gx gy' j k' s F ff T:=by
 cases hd:Y.done with
 | true=>exact(Qg0 Z.y.at_ hd).mono fun e w' h=>⟨h.1,Y,gy,k,by rw[h.2];exact Z⟩
 | false =>
   refine(Z.y.go E i C G hd).mono ?_
   rintro e w' ⟨rfl,Y',gy',l,c,⟨t,g⟩,H⟩;have p:=XC Z.fb;have f:∀ z,z<w.heap.size->¬ gy.A z->¬ gy'.A z:=fun z a h e=>(c.own z e).elim h (fun q=>by omega);refine⟨Yz,Y',gy',k+1,⟨⟨Z.x.at_.other c (fun z u b=>Z.ap z u b) (fun z n r b=>?_) Z.xb,Z.x.far,l.bel,Z.x.st,Z.x.fu,Z.x.le,Z.x.bk⟩,l,fun z h b=>?_,fun z h=>?_,Z.xs,Z.bs,by rw[g];exact Z.ly,?_,?_,(c.block F p Z.fy).trans Z.fb,Z.fx,f F p Z.fy⟩⟩
   ·have B:=Z.ys z b;have D:=Z.bs;omega
   ·exact f z (Z.x.at_.lt z h) (Z.ap z h) b
   ·rcases c.own z h with e | e
    ·exact Z.ys z e
    ·have n:=Z.bs;have r:=Z.ly;have B:=XC Z.y.at_.box;have D:=Z.ys by_ (by show gy.ow by_≠0;rw[Z.y.at_.ob];decide);omega
   ·exact WIn.keep (fun z a d=>c.block z d a.2) (fun z a d=>⟨a.1,f z d a.2⟩) Z.xb
   ·exact WIn.keep (fun _ _ _=>rfl) (fun z a _=>⟨a,fun v=>by
     have n:=Z.x.at_.lt z v;have r:=a.2;omega⟩) l.at_.back
theorem Qdk.start {b:World}(a:QeJ wL w2 bx most m X0 X0 gx 0) (q:bx<w2.heap.size) (s:WIn w2 (fun z=>(gx.ow z=0/\gx.lo<=z)/\z<w2.heap.size) X0.back gx.vb)
 (S:WAt b by_ most o (RM.start inp pages) gy) (f:∀ x,gy.A x->w2.heap.size<=x) (v:w2.heap.size<=by_) (d:w2.heap.size<=gy.lk) (g:Below w2.heap.size w2 b) (l:b.heap[F]?=some (.cells ff T (0,0))) (t:¬ gx.A F) (k:¬ gy.A F) :
 Qdk wL b bx by_ most m o X0 (RM.start inp pages) X0 (RM.start inp pages) gx gy 0 0 w2.heap.size F ff T:=by
 have j:=a.bel.size;refine⟨a.below g,⟨S,fun x h=>Zt j (f x h),a.bel.trans (g.mono j),Z,fun _=>rfl,Xb _,fun _=>rfl⟩,fun z h r=>?_,f,fun z h=>.inl (a.at_.lt z h),q,d,?_,?_,l,t,k⟩
 ·have:=a.at_.lt z h
  have:=f z r
  omega
 ·exact WIn.keep (fun z _ d=>g.block z d) (fun z u d=>⟨u.1,fun e=>by have:=f z e;omega⟩) s
 ·obtain⟨p,c,e,-⟩:=S.back
  exact⟨p,c,e,fun i n=>absurd n (XG i)⟩
end
theorem QiX (x:MTo) (a:Nat):x.form a true=if rangeC x.block 0 ((a:Int) - 1)=0 then handedC x.regs.length 16 x.args.length else rangeC x.block 0 ((a:Int) - 1):=by
 unfold MTo.form rangeC handedC manyC;simp only[Bool.true_eq_false,if_false]
 repeat' split
 all_goals omega
theorem Qiz (x:MTo) (a:Nat):x.form a false=if x.block=0/\x.regs.length=0/\x.args.length=0 then 0 else 4:=by
 unfold MTo.form;simp only[if_true]
 repeat' split
 all_goals omega
theorem QgW (e:ZA) (b:Nat):e.form b=if e.op<1\/3<e.op then 3 else if (e.op≠2/\e.a≠0)\/(e.op≠3/\0<e.args.length) then 4 else if 8<e.args.length then 2
 else if e.yes.form b (e.op != 3)=0 then e.no.form b (e.op==2) else e.yes.form b (e.op != 3):=by
 unfold ZA.form;have i:decide (e.op≠3)=(e.op != 3):=by by_cases h:e.op=3<;>simp[h]
 have j:decide (e.op=2)=(e.op==2):=by by_cases h:e.op=2<;>simp[h]
 rw[i,j]
 by_cases d:e.op<1\/3<e.op
 ·simp[d]
 ·rw[Xr d,Xr d]
  by_cases c:(e.op≠2/\e.a≠0)\/(e.op≠3/\0<e.args.length)
  ·rw[Xs c,Xs (c.imp (fun h=>⟨h.2,h.1⟩) (fun h=>⟨h.2,h.1⟩))]
  ·rw[Xr c,Xr (fun h=>c (h.imp (fun h=>⟨h.2,h.1⟩) (fun h=>⟨h.2,h.1⟩)))]
   by_cases f:8<e.args.length
   ·simp[f]
   ·rw[Xr f,Xr f]
    by_cases g:e.yes.form b (e.op != 3)=0
    ·simp[g]
    ·simp[g]
theorem Qlz {a:Int}{b c:Nat}{j i f:Option Addr}{e m h l d k:Nat}:Rd prog 230 #[.agg #[Iv fr,.slice j e m,.slice i h l,.slice f d k],.agg #[Iv a,.slice pR b cR,.slice pA c cA],.bool false] w (Iv (if a=0/\b=0/\c=0 then 0 else 4)):=by
 unfold Rd;rcases (show a=0/\b=0/\c=0\/¬ a=0\/a=0/\(0:Int)<b\/a=0/\b=0/\(0:Int)<c by omega) with ⟨rfl,rfl,rfl⟩ | g | ⟨rfl,g⟩|⟨rfl,rfl,g⟩
 rw[Xs ⟨Z,Z,Z⟩]
 rotate_left
 all_goals
  try rw[Xr (by omega)]
  try rw[<-bne_iff_ne,bne,Bool.not_eq_true'] at g
  go_enter func230,ntmps230
  go_wp2
  go_ret;exact⟨Z,QhD _ _ _⟩
theorem QlA {b:Int}{d c:Nat}{o l n:Option Addr}{r m j k a q:Nat}(G:a<2305843009213693952):Rd prog 230 #[.agg #[Iv fr,.slice o r m,.slice l j k,.slice n a q],.agg #[Iv b,.slice pR d cR,.slice pA c cA],.bool true] w (Iv (if rangeC b 0 ((a:Int) - 1)=0 then handedC d 16 c else rangeC b 0 ((a:Int) - 1))):=by
 have C:Hid (∀ f:World,Calls prog 262 #[Iv b,Iv 0,Iv ((a:Int) - 1)] f fun e y=>e=.returned (Iv (rangeC b 0 ((a:Int) - 1)))/\Below f.heap.size f y):=fun f=>QaG;have s:Hid (∀ f:World,Calls prog 264 #[.slice pR d cR,Iv 16,.slice pA c cA] f fun e y=>e=.returned (Iv (handedC d 16 c))/\Below f.heap.size f y):=fun f=>Qbg;generalize rangeC b 0 ((a:Int) - 1)=v at C |-;generalize handedC d 16 c=u at s |-;have i:Blk ((w.alloc (.cells #[Iv fr,.slice o r m,.slice l j k,.slice n a q] 89)).alloc (.cells #[Iv b,.slice pR d cR,.slice pA c cA] 82)) (w.heap.size+1) #[Iv b,.slice pR d cR,.slice pA c cA] 82:=Blk.new2 _ _ _ _;have g:Hid (Below w.heap.size w ((w.alloc (.cells #[Iv fr,.slice o r m,.slice l j k,.slice n a q] 89)).alloc (.cells #[Iv b,.slice pR d cR,.slice pA c cA] 82))):=QhD _ _ _;unfold Rd;by_cases x:v=0
 ·subst x;rw[Xs Z]
  go_enter func230,ntmps230
  go_wp2_with fail
  generalize ((w.alloc (.cells #[Iv fr,.slice o r m,.slice l j k,.slice n a q] 89)).alloc (.cells #[Iv b,.slice pR d cR,.slice pA c cA] 82))=B at i g |-;refine(C.out _).mono ?_
  rintro e z ⟨rfl,h⟩;have t:=(h.block _ (XC i)).trans i;have p:Hid (Below w.heap.size w z):=g.out.trans (h.mono g.out.size);have I:=Qb t 1 _ Z;have H:=Qb t 2 _ Z;clear h C i g t;go_wp2_with fail
  refine(s.out _).mono ?_
  rintro e F ⟨rfl,A⟩;have E:Hid (Below w.heap.size w F):=p.out.trans (A.mono p.out.size);clear A s p;go_wp2
  go_ret;exact⟨Z,E.out⟩
 ·rw[Xr x]
  have D:(v==0)=false:=by simpa using x
  go_enter func230,ntmps230
  go_wp2_with fail
  generalize ((w.alloc (.cells #[Iv fr,.slice o r m,.slice l j k,.slice n a q] 89)).alloc (.cells #[Iv b,.slice pR d cR,.slice pA c cA] 82))=B at i g |-;refine(C.out _).mono ?_
  rintro e z ⟨rfl,h⟩;have p:Hid (Below w.heap.size w z):=g.out.trans (h.mono g.out.size);clear h C s i g;go_wp2
  go_ret;exact⟨Z,p.out⟩
theorem QdB {x:MTo}{h g e:Option Addr}{d k f j c i:Nat}(a:Bool)(b:c<2305843009213693952) :
 Rd prog 230 #[.agg #[Iv fr,.slice h d k,.slice g f j,.slice e c i],.agg #[Iv x.block,.slice pR x.regs.length cR,.slice pA x.args.length cA],.bool a] w (Iv (x.form c a)):=by
 cases a
 ·rw[Qiz];exact Qlz
 ·rw[QiX];exact QlA b
theorem Qkj {a r H:Int}{h l d p I:Option Addr}{c n b j m i k g q K:Nat}{B y A:Option Addr}{D x t v u C:Nat}{E N:Int}(Q:¬ (a<1\/3<a)) (R:¬ ((a≠2/\r≠0)\/(a≠3/\0<q))) (T:¬ 8<q)
 (O:Hid (∀ wx:World,Calls prog 230 #[.agg #[Iv fr,.slice B D x,.slice y t v,.slice A u C],.agg #[Iv yb,.slice h c n,.slice l b j],.bool (a != 3)] wx fun e w'=>e=.returned (Iv E)/\Below wx.heap.size wx w'))
 (L:Hid (∀ wx:World,Calls prog 230 #[.agg #[Iv fr,.slice B D x,.slice y t v,.slice A u C],.agg #[Iv H,.slice d m i,.slice p k g],.bool (a==2)] wx fun e w'=>e=.returned (Iv N)/\Below wx.heap.size wx w')) :
 Rd prog 185 #[.agg #[Iv fr,.slice B D x,.slice y t v,.slice A u C],.agg #[Iv a,Iv r,Iv yb,.slice h c n,.slice l b j,Iv H,.slice d m i,.slice p k g,.slice I q K]] w (Iv (if E=0 then N else E)):=by
 obtain⟨s,z⟩:∃ s,s=(w.alloc (.cells #[Iv fr,.slice B D x,.slice y t v,.slice A u C] 89)).alloc (.cells #[Iv a,Iv r,Iv yb,.slice h c n,.slice l b j,Iv H,.slice d m i,.slice p k g,.slice I q K] 84):=⟨_,Z⟩
 have f:Blk s w.heap.size #[Iv fr,.slice B D x,.slice y t v,.slice A u C] 89:=by rw[z];exact Blk.new1 _ _ _ _ _
 have o:Blk s (w.heap.size+1) #[Iv a,Iv r,Iv yb,.slice h c n,.slice l b j,Iv H,.slice d m i,.slice p k g,.slice I q K] 84:=by rw[z];exact Blk.new2 _ _ _ _
 have J:Hid (Below w.heap.size w s):=by rw[z];exact QhD _ _ _
 unfold Rd;have g8:¬ (8:Int)<q:=by omega
 rcases (show a=1/\r=0/\q=0\/a=2/\q=0\/a=3/\r=0 by omega) with ⟨rfl,rfl,rfl⟩|⟨rfl,rfl⟩|⟨rfl,rfl⟩
 all_goals
  clear Q R T;go_enter func185,ntmps185
  go_wp2_with fail
  rw[<-z]
  clear z;refine(O.out _).mono ?_
  rintro e W ⟨rfl,F⟩;replace f:=(F.block _ (XC f)).trans f;replace o:=(F.block _ (XC o)).trans o;have G:Hid (Below w.heap.size w W):=J.out.trans (F.mono J.out.size);clear F O J;by_cases P:E=0
  ·subst P;have c0:=Qb f 0 _ Z;have c1:=Qb f 1 _ Z;have X:=Qb f 2 _ Z;have c3:=Qb f 3 _ Z;have d0:=Qb o 0 _ Z;have d5:=Qb o 5 _ Z;have d6:=Qb o 6 _ Z;have d7:=Qb o 7 _ Z;clear f o;go_wp2_with fail
   refine(L.out _).mono ?_
   rintro e V ⟨rfl,M⟩;have U:Hid (Below w.heap.size w V):=G.out.trans (M.mono G.out.size);clear M L G;go_wp2
   go_ret;exact⟨Z,U.out⟩
  ·have S:(E==0)=false:=by simpa using P
   clear L f o;go_wp2
   go_ret;exact⟨Z,G.out⟩
theorem QfG {a c D:Int}{j n f q y:Option Addr}{e p d l o k m i b A:Nat}{B x z:Option Addr}{E u r t s C:Nat}{v:Int}(h:(v=3/\(a<1\/3<a))\/(v=4/\¬ (a<1\/3<a)/\((a≠2/\c≠0)\/(a≠3/\0<b)))\/(v=2/\¬ (a<1\/3<a)/\¬ ((a≠2/\c≠0)\/(a≠3/\0<b))/\8<b)) :
 Rd prog 185 #[.agg #[Iv fr,.slice B E u,.slice x r t,.slice z s C],.agg #[Iv a,Iv c,Iv yb,.slice j e p,.slice n d l,Iv D,.slice f o k,.slice q m i,.slice y b A]] w (Iv v):=by
 unfold Rd;rcases (show v=3/\a<1\/v=3/\¬ a<1/\3<a\/v=4/\a=1/\c=0/\(0:Int)<b\/v=4/\a=1/\¬ c=0\/v=4/\a=2/\(0:Int)<b\/v=4/\a=3/\¬ c=0\/v=2/\a=3/\c=0/\(8:Int)<b by omega) with ⟨rfl,g⟩|⟨rfl,F,g⟩|⟨rfl,rfl,rfl,g⟩|⟨rfl,rfl,g⟩|⟨rfl,rfl,g⟩|⟨rfl,rfl,g⟩|⟨rfl,rfl,rfl,g⟩
 all_goals
  try rw[<-bne_iff_ne,bne,Bool.not_eq_true'] at g
  clear h;go_enter func185,ntmps185
  go_wp2
  go_ret;exact⟨Z,QhD _ _ _⟩
theorem QgK {x:ZA}{e:EP}{k o i:Option Addr}{h l j n g m:Nat}(p:x.yes.regs.length<2305843009213693952/\x.yes.args.length<2305843009213693952/\x.no.regs.length<2305843009213693952/\x.no.args.length<2305843009213693952) (d:g<2305843009213693952):Rd prog 185 #[.agg #[Iv fr,.slice k h l,.slice o j n,.slice i g m],.agg #[Iv x.op,Iv x.a,Iv x.yes.block,.slice e.pYR x.yes.regs.length e.cYR,.slice e.pYA x.yes.args.length e.cYA,Iv x.no.block,.slice e.pNR x.no.regs.length e.cNR,.slice e.pNA x.no.args.length e.cNA,.slice e.pA x.args.length e.cA]] w (Iv (x.form g)):=by
 rw[QgW]
 by_cases b:x.op<1\/3<x.op
 ·rw[Xs b];exact QfG (.inl ⟨Z,b⟩)
 rw[Xr b]
 by_cases c:(x.op≠2/\x.a≠0)\/(x.op≠3/\0<x.args.length)
 ·rw[Xs c];exact QfG (.inr (.inl ⟨Z,b,c⟩))
 rw[Xr c]
 by_cases f:8<x.args.length
 ·rw[Xs f];exact QfG (.inr (.inr ⟨Z,b,c,f⟩))
 rw[Xr f]
 exact Qkj b c f (fun _=>QdB _ d) (fun _=>QdB _ d)
theorem typeFault_any:∀ n,Qeu 127 n:=by
 intro n
 induction n with
 | zero=>intro t;exact Empty.elim t
 | succ n ih =>
   intro t a c b w ht aa;have IH:Hid (Qeu 127 n):=ih;clear ih;have hT:Hid (LIn w All t.2.2 a):=ht.list;have N:Hid (∀ x∈t.2.2,x.count<=100000):=fun x J=>by have:=t.count_kid J;omega
   have G:t.2.2.length<=100000:=by have:=t.len_lt_count;rw[t.len_eq] at this;omega
   have m:Hid (t.fault b=if ownC t.kind t.r t.2.2.length b≠0 then ownC t.kind t.r t.2.2.length b else Qu (TT.fault b) t.2.2):=rfl;generalize t.fault b=h at m |-;simp only[Tv,TT.len_eq]
   generalize t.2.2=l at hT N m G |-;generalize t.kind=k at m |-;generalize t.r=r at m |-;clear ht aa t;generalize P:l.length=d at m G |-;have U:Hid (l.length=d):=P;clear P;rcases (show k<1\/(¬ k<1/\4<k)\/k=1\/k=2\/k=4\/k=3 by omega) with p | ⟨p,E⟩ | rfl | rfl | rfl | rfl
   ·have f:=m.out;rw[show ownC _ _ d b=3 by unfold ownC;repeat' split;all_goals omega] at f
    clear m;replace f:Hid (h=3):=by show h=3;simpa using f
    go_enter func127,ntmps127
    go_wp2_with fail
    go_ret;exact⟨by rw[f.out];rfl,(Below.refl _ w).alloc Ze _⟩
   ·have f:=m.out;rw[show ownC _ _ d b=3 by unfold ownC;repeat' split;all_goals omega] at f
    clear m;replace f:Hid (h=3):=by show h=3;simpa using f
    go_enter func127,ntmps127
    go_wp2_with fail
    go_ret;exact⟨by rw[f.out];rfl,(Below.refl _ w).alloc Ze _⟩
   ·rcases (show r≠0\/(r=0/\0<d)\/(r=0/\d=0) by omega) with p | ⟨rfl,p⟩|⟨rfl,p⟩
    ·have z:(r != 0)=true:=by simpa using p
     have f:=m.out;rw[show ownC _ _ d b=4 by unfold ownC;repeat' split;all_goals omega] at f
     clear m;replace f:Hid (h=4):=by show h=4;simpa using f
     go_enter func127,ntmps127
     go_wp2_with fail
     go_ret;exact⟨by rw[f.out];rfl,(Below.refl _ w).alloc Ze _⟩
    ·have z:(0:Int)<(d:Int):=by omega
     have f:=m.out;rw[show ownC _ _ d b=4 by unfold ownC;repeat' split;all_goals omega] at f
     clear m;replace f:Hid (h=4):=by show h=4;simpa using f
     go_enter func127,ntmps127
     go_wp2_with fail
     go_ret;exact⟨by rw[f.out];rfl,(Below.refl _ w).alloc Ze _⟩
    ·have z:¬ (0:Int)<(d:Int):=by omega
     have F:¬ (8:Int)<(d:Int):=by omega
     have f:=m.out;rw[show ownC _ _ d b=0 by unfold ownC;repeat' split;all_goals omega] at f
     clear m;have R:Hid (h=Qu (TT.fault b) l):=by show h=Qu (TT.fault b) l;simpa using f
     clear f
     have O:Hid (h=0):=by
      have D:l=[]:=Xf.1 (U.out.trans p)
      have:=R.out
      rw[D] at this
      exact this
     subst p;clear R z F;go_enter func127,ntmps127
     go_wp2_with fail
     have B:=Bx.start w 1 0 a 0 c;generalize w.alloc (.cells #[Iv 1,Iv 0,.slice a 0 c] 105)=I at B |-;have s:Hid (Bx w I 1 0 a 0 c):=B;clear B;go_loopw [5] (fun i wr=>i=Iv 0/\Bx w wr 1 0 a 0 c) (fun _ _=>0)
     case atStart=>exact⟨Z,s.out⟩
     case round =>
      clear s;obtain⟨rfl,u⟩:=hrel
      have s:Hid (Bx w wr 1 0 a 0 c):=u;have W:wr.cell? ⟨w.heap.size,2,none⟩=some (.slice a 0 c):=Qb u.box 2 _ Z;clear u;go_wp2
      go_ret;exact⟨by rw[O.out];rfl,s.out.bel⟩
   ·rcases (show 0<d\/(d=0/\r<0)\/(d=0/\0<=r/\b<=r)\/(d=0/\0<=r/\r<b) by omega) with p | ⟨p,E⟩|⟨p,E,S⟩|⟨p,E,S⟩
    ·have z:(0:Int)<(d:Int):=by omega
     have f:=m.out;rw[show ownC _ _ d b=4 by unfold ownC;repeat' split;all_goals omega] at f
     clear m;replace f:Hid (h=4):=by show h=4;simpa using f
     go_enter func127,ntmps127
     go_wp2_with fail
     go_ret;exact⟨by rw[f.out];rfl,(Below.refl _ w).alloc Ze _⟩
    ·have z:¬ (0:Int)<(d:Int):=by omega
     have F:¬ (8:Int)<(d:Int):=by omega
     have f:=m.out;rw[show ownC _ _ d b=1 by unfold ownC;repeat' split;all_goals omega] at f
     clear m;replace f:Hid (h=1):=by show h=1;simpa using f
     go_enter func127,ntmps127
     go_wp2_with fail
     go_ret;exact⟨by rw[f.out];rfl,(Below.refl _ w).alloc Ze _⟩
    ·have z:¬ (0:Int)<(d:Int):=by omega
     have F:¬ (8:Int)<(d:Int):=by omega
     have f:=m.out;rw[show ownC _ _ d b=1 by unfold ownC;repeat' split;all_goals omega] at f
     clear m;replace f:Hid (h=1):=by show h=1;simpa using f
     go_enter func127,ntmps127
     go_wp2_with fail
     go_ret;exact⟨by rw[f.out];rfl,(Below.refl _ w).alloc Ze _⟩
    ·have z:¬ (0:Int)<(d:Int):=by omega
     have F:¬ (8:Int)<(d:Int):=by omega
     have f:=m.out;rw[show ownC _ _ d b=0 by unfold ownC;repeat' split;all_goals omega] at f
     clear m;have R:Hid (h=Qu (TT.fault b) l):=by show h=Qu (TT.fault b) l;simpa using f
     clear f
     have O:Hid (h=0):=by
      have D:l=[]:=Xf.1 (U.out.trans p)
      have:=R.out
      rw[D] at this
      exact this
     subst p;clear R z F;go_enter func127,ntmps127
     go_wp2_with fail
     have B:=Bx.start w 2 r a 0 c;generalize w.alloc (.cells #[Iv 2,Iv r,.slice a 0 c] 105)=I at B |-;have s:Hid (Bx w I 2 r a 0 c):=B;clear B;go_loopw [5] (fun i wr=>i=Iv 0/\Bx w wr 2 r a 0 c) (fun _ _=>0)
     case atStart=>exact⟨Z,s.out⟩
     case round =>
      clear s;obtain⟨rfl,u⟩:=hrel
      have s:Hid (Bx w wr 2 r a 0 c):=u;have W:wr.cell? ⟨w.heap.size,2,none⟩=some (.slice a 0 c):=Qb u.box 2 _ Z;clear u;go_wp2
      go_ret;exact⟨by rw[O.out];rfl,s.out.bel⟩
   ·rcases (show 0<d\/(d=0/\r<0)\/(d=0/\0<=r/\b<=r)\/(d=0/\0<=r/\r<b) by omega) with p | ⟨p,E⟩|⟨p,E,S⟩|⟨p,E,S⟩
    ·have z:(0:Int)<(d:Int):=by omega
     have f:=m.out;rw[show ownC _ _ d b=4 by unfold ownC;repeat' split;all_goals omega] at f
     clear m;replace f:Hid (h=4):=by show h=4;simpa using f
     go_enter func127,ntmps127
     go_wp2_with fail
     go_ret;exact⟨by rw[f.out];rfl,(Below.refl _ w).alloc Ze _⟩
    ·have z:¬ (0:Int)<(d:Int):=by omega
     have F:¬ (8:Int)<(d:Int):=by omega
     have f:=m.out;rw[show ownC _ _ d b=1 by unfold ownC;repeat' split;all_goals omega] at f
     clear m;replace f:Hid (h=1):=by show h=1;simpa using f
     go_enter func127,ntmps127
     go_wp2_with fail
     go_ret;exact⟨by rw[f.out];rfl,(Below.refl _ w).alloc Ze _⟩
    ·have z:¬ (0:Int)<(d:Int):=by omega
     have F:¬ (8:Int)<(d:Int):=by omega
     have f:=m.out;rw[show ownC _ _ d b=1 by unfold ownC;repeat' split;all_goals omega] at f
     clear m;replace f:Hid (h=1):=by show h=1;simpa using f
     go_enter func127,ntmps127
     go_wp2_with fail
     go_ret;exact⟨by rw[f.out];rfl,(Below.refl _ w).alloc Ze _⟩
    ·have z:¬ (0:Int)<(d:Int):=by omega
     have F:¬ (8:Int)<(d:Int):=by omega
     have f:=m.out;rw[show ownC _ _ d b=0 by unfold ownC;repeat' split;all_goals omega] at f
     clear m;have R:Hid (h=Qu (TT.fault b) l):=by show h=Qu (TT.fault b) l;simpa using f
     clear f
     have O:Hid (h=0):=by
      have D:l=[]:=Xf.1 (U.out.trans p)
      have:=R.out
      rw[D] at this
      exact this
     subst p;clear R z F;go_enter func127,ntmps127
     go_wp2_with fail
     have B:=Bx.start w 4 r a 0 c;generalize w.alloc (.cells #[Iv 4,Iv r,.slice a 0 c] 105)=I at B |-;have s:Hid (Bx w I 4 r a 0 c):=B;clear B;go_loopw [5] (fun i wr=>i=Iv 0/\Bx w wr 4 r a 0 c) (fun _ _=>0)
     case atStart=>exact⟨Z,s.out⟩
     case round =>
      clear s;obtain⟨rfl,u⟩:=hrel
      have s:Hid (Bx w wr 4 r a 0 c):=u;have W:wr.cell? ⟨w.heap.size,2,none⟩=some (.slice a 0 c):=Qb u.box 2 _ Z;clear u;go_wp2
      go_ret;exact⟨by rw[O.out];rfl,s.out.bel⟩
   ·rcases (show 8<d\/(d<=8/\r<0)\/(d<=8/\0<=r/\b<=r)\/(d<=8/\0<=r/\r<b) by omega) with p | ⟨p,E⟩|⟨p,E,S⟩|⟨p,E,S⟩
    ·have z:(8:Int)<(d:Int):=by omega
     have f:=m.out;rw[show ownC _ _ d b=2 by unfold ownC;repeat' split;all_goals omega] at f
     clear m;replace f:Hid (h=2):=by show h=2;simpa using f
     go_enter func127,ntmps127
     go_wp2_with fail
     go_ret;exact⟨by rw[f.out];rfl,(Below.refl _ w).alloc Ze _⟩
    ·have z:¬ (8:Int)<(d:Int):=by omega
     have f:=m.out;rw[show ownC _ _ d b=1 by unfold ownC;repeat' split;all_goals omega] at f
     clear m;replace f:Hid (h=1):=by show h=1;simpa using f
     go_enter func127,ntmps127
     go_wp2_with fail
     go_ret;exact⟨by rw[f.out];rfl,(Below.refl _ w).alloc Ze _⟩
    ·have z:¬ (8:Int)<(d:Int):=by omega
     have f:=m.out;rw[show ownC _ _ d b=1 by unfold ownC;repeat' split;all_goals omega] at f
     clear m;replace f:Hid (h=1):=by show h=1;simpa using f
     go_enter func127,ntmps127
     go_wp2_with fail
     go_ret;exact⟨by rw[f.out];rfl,(Below.refl _ w).alloc Ze _⟩
    ·have z:¬ (8:Int)<(d:Int):=by omega
     have f:=m.out;rw[show ownC _ _ d b=0 by unfold ownC;repeat' split;all_goals omega] at f
     clear m;have R:Hid (h=Qu (TT.fault b) l):=by show h=Qu (TT.fault b) l;simpa using f
     clear f;go_enter func127,ntmps127
     go_wp2_with fail
     have B:=Bx.start w 3 r a d c;generalize w.alloc (.cells #[Iv 3,Iv r,.slice a d c] 105)=I at B |-;have s:Hid (Bx w I 3 r a d c):=B;clear B;go_loopw [5] (fun i wr=>∃ q:Nat,q<=d/\i=Iv q/\(∀ (j:Nat) x,j<q->l[j]?=some x->x.fault b=0)/\Bx w wr 3 r a d c) (fun i _=>d - (intOf i).toNat)
     case atStart=>exact⟨0,Xb _,Z,fun j x hj=>by omega,s.out⟩
     case round =>
      clear s;obtain⟨q,hq,rfl,H,u⟩:=hrel
      have A:Hid (∀ (j:Nat) x,j<q->l[j]?=some x->x.fault b=0):=H;have s:Hid (Bx w wr 3 r a d c):=u;have W:wr.cell? ⟨w.heap.size,2,none⟩=some (.slice a d c):=Qb u.box 2 _ Z;clear H;by_cases ad:q<d
      ·have Q:q<l.length:=by have:=U.out;omega
       have J:l[q]?=some l[q]:=Zg Q;generalize l[q]=x at J;clear Q;obtain⟨g,o,a',c',rfl,_,d0,d1,d2,hk⟩:=LIn.at (hT.out.below u.bel) J
       have T:Hid (l[q]?=some x):=J;have ac:(0:Int)<=q:=by omega
       have X:(q:Int)<d:=by omega
       have C:Hid (∀ M,Below wr.heap.size wr M->Calls prog 127 #[Tv x a' c',Iv b] M fun e w'=>e=.returned (Iv (x.fault b))/\Below M.heap.size M w') :=
        fun M hb=>IH.out x a' c' b M (hk.below hb) (N.out x (Zm J))
       clear u hk J;simp only[Tv] at C
       generalize x.kind=kx at C d0;generalize x.r=rx at C d1;generalize x.len=lx at C d2;go_wp2_with fail
       refine(C.out _ Zr).mono ?_
       rintro e w2 ⟨rfl,b2⟩;have X2:Hid (Bx w w2 3 r (some ⟨g,o,none⟩) d c):=s.out.below b2;clear s b2 C d0 d1 d2 W;by_cases L:x.fault b=0
       ·have A2:Hid (∀ (j:Nat) x,j<q+1->l[j]?=some x->x.fault b=0):=fun j y hj K=>by
         by_cases e:j=q
         ·subst e;rw[T.out] at K
          cases K
          exact L
         ·exact A.out j y (by omega) K
        rw[L]
        clear L A;go_wp2
        go_roundw
        case rel=>exact⟨q+1,by omega,by go_num,A2.out,X2.out⟩
        case measure=>simp[intOf];omega
       ·have V:Hid (h=x.fault b):=R.out.trans (Qav T.out A.out L);have ab:(x.fault b != 0)=true:=by simpa using L
        generalize x.fault b=v at ab V |-;clear L A;go_wp2
        go_ret;exact⟨by rw[V.out];rfl,X2.out.bel⟩
      ·have V:Hid (h=0):=R.out.trans (Qac (fun j y K=>A.out j y (by have:=(Zi K).1;have:=U.out;omega) K));have X:¬ (q:Int)<d:=by omega
       clear u A;go_wp2
       go_ret;exact⟨by rw[V.out];rfl,s.out.bel⟩
theorem Qds {α:Type}(f:α->Nat) (l:List α) (i:Nat) (x:α) (h:l[i]?=some x):((l.map f).take (i+1)).foldl max 0=max (((l.map f).take i).foldl max 0) (f x):=by
 rw[XV,XS,h]
 simp
theorem Qcq (l:List Nat) (i:Nat):(l.take i).foldl max 0<=l.foldl max 0:=by
 rw[QaW]
 exact⟨Xb _,fun x a=>(QaW.1 (Nat.le_refl (l.foldl max 0))).2 x (List.mem_of_mem_take a)⟩
theorem deepOf_any:∀ (n:Nat) (t:TT n) (a:Option Addr) (c:Nat) (w:World) (m:Nat),TIn w All t a->t.count<=100000->m<=4 ->
 Calls prog 126 #[Tv t a c,Iv m] w fun e w'=>e=.returned (Iv ((min t.height (m+1):Nat):Int))/\Below w.heap.size w w':=by
 intro n
 induction n with
 | zero=>intro t;exact Empty.elim t
 | succ n ih =>
   intro t a c w m Q I aa
   have IH:Hid (∀ (t:TT n) (a:Option Addr) (c:Nat) (w:World) (m:Nat),TIn w All t a->t.count<=100000->m<=4 ->
    Calls prog 126 #[Tv t a c,Iv m] w fun e w'=>e=.returned (Iv ((min t.height (m+1):Nat):Int))/\Below w.heap.size w w'):=ih
   clear ih;have hT:Hid (LIn w All t.2.2 a):=Q.list;have u:Hid (∀ x∈t.2.2,x.count<=100000):=fun x d=>by have:=t.count_kid d;omega
   have A:t.2.2.length<=100000:=by have:=t.len_lt_count;rw[t.len_eq] at this;omega
   have D:Hid (t.height=(t.2.2.map (fun x=>1+x.height)).foldl max 0):=rfl;generalize t.height=h at D |-;simp only[Tv,TT.len_eq]
   generalize t.2.2=l at hT u D A |-;generalize t.kind=k;generalize t.r=r;clear Q I t;generalize f:((min h (m+1):Nat):Int)=b;have K:Hid (((min h (m+1):Nat):Int)=b):=f;clear f;go_enter func126,ntmps126
   go_wp2_with fail
   have O:Hid (Bx w (w.alloc (.cells #[Iv k,Iv r,.slice a l.length c] 105)) k r a l.length c):=Bx.start w k r a l.length c;generalize w.alloc (.cells #[Iv k,Iv r,.slice a l.length c] 105)=w1 at O |-;go_loopw [5,6] (fun v i wr=>∃ q y:Nat,q<=l.length/\i=Iv q/\v=Iv y/\y=min (((l.map (fun x=>1+x.height)).take q).foldl max 0) (m+1)/\Bx w wr k r a l.length c) (fun _ i _=>l.length - (intOf i).toNat)
   case atStart=>exact⟨0,0,Xb _,Yz,Yz,by simp,O.out⟩
   case round =>
    clear O;obtain⟨q,y,hq,rfl,rfl,P,p⟩:=hrel
    have Y:Hid (y=min (((l.map (fun x=>1+x.height)).take q).foldl max 0) (m+1)):=P;have B:Hid (Bx w wr k r a l.length c):=p;have e2:wr.cell? ⟨w.heap.size,2,none⟩=some (.slice a l.length c):=Qb p.box 2 _ Yz;have ac:(y:Int)<=5:=by omega
    clear P;by_cases J:q<l.length
    ·have ad:(0:Int)<=q:=by omega
     have H:(q:Int)<l.length:=by omega
     by_cases j:y<=m
     ·have d:l[q]?=some l[q]:=Zg J;generalize l[q]=x at d;obtain⟨g,o,V,X,rfl,_,d0,d1,R,M⟩:=LIn.at (hT.out.below p.bel) d
      have G:=Qds (fun x:TT n=>1+x.height) l q x d;have E:(y:Int)<=m:=by omega
      by_cases hz:m=0
      ·have L:((m:Int)==0)=true:=by simp;omega
       have F:Hid (b=1):=by
        have S:=Qcq (l.map (fun x=>1+x.height)) (q+1);have T:=D.out;have W:=K.out;rw[G] at S
        show b=1;omega
       clear p M d hz G j;go_wp2_with fail
       go_ret;exact⟨by rw[F.out];rfl,B.out.bel⟩
      ·have L:((m:Int)==0)=false:=by simp;omega
       have C:Hid (∀ s,Below wr.heap.size wr s->Calls prog 126 #[Tv x V X,Iv ((m:Int) - 1)] s fun e w'=>e=.returned (Iv ((min x.height m:Nat):Int))/\Below s.heap.size s w'):=fun s hb=>by
        have:=IH.out x V X s (m - 1) (M.below hb) (u.out x (Zm d)) (by omega)
        rw[show ((m - 1:Nat):Int)=(m:Int) - 1 by omega,show m - 1+1=m by omega] at this
        exact this
       have ab:(1:Int)<=m:=by omega
       have af:(m:Int)<=4:=by omega
       generalize N:min x.height m=z at C;have ae:(z:Int)<=4:=by omega
       have Z:Hid (max y (1+z)=min (((l.map (fun x=>1+x.height)).take (q+1)).foldl max 0) (m+1)):=by
        rw[G]
        have:=Y.out
        show _=_;omega
       clear p M d hz G N Y j;simp only[Tv] at C
       generalize x.kind=kx at C d0;generalize x.r=rx at C d1;generalize x.len=lx at C R;go_wp2_with fail
       refine(C.out _ Zr).mono ?_
       rintro e w2 ⟨rfl,U⟩;have X2:Hid (Bx w w2 k r (some ⟨g,o,none⟩) l.length c):=B.out.below U;clear B U C d0 d1 R e2;by_cases hd:(y:Int)<1+z
       ·go_wp2
        go_roundw
        case rel=>exact⟨q+1,1+z,by omega,by go_num,by go_num,by rw[<-Z.out];omega,X2.out⟩
        case measure=>simp[intOf];omega
       ·go_wp2
        go_roundw
        case rel=>exact⟨q+1,y,by omega,by go_num,Yz,by rw[<-Z.out];omega,X2.out⟩
        case measure=>simp[intOf];omega
     ·have F:Hid (b=y):=by
       have S:=Qcq (l.map (fun x=>1+x.height)) q;have T:=D.out;have W:=K.out
       have:=Y.out
       show b=y;omega
      have E:¬ (y:Int)<=m:=by omega
      clear p j Y;go_wp2
      go_ret;exact⟨by rw[F.out];rfl,B.out.bel⟩
    ·have F:Hid (b=y):=by
      have T:=D.out;have W:=K.out
      have:=Y.out
      rw[XO (by simp;omega)] at this
      show b=y;omega
     have H:¬ (q:Int)<l.length:=by omega
     clear p Y;go_wp2
     go_ret;exact⟨by rw[F.out];rfl,B.out.bel⟩
def QhK (f:Nat):Prop:=∀ (n:Nat) (t:TT n) (a:Option Addr) (c:Nat) (regs:Int) (w:World),TIn w All t a->t.count<=100000 ->
 Calls prog f #[Tv t a c,Iv regs] w fun e w'=>e=.returned (Iv (t.check regs))/\Below w.heap.size w w'
theorem typeFaultT_any:QhK 78:=by
 intro n t a c b w o p
 have g:Hid (∀ d,Below w.heap.size w d->Calls prog 126 #[Tv t a c,Iv 4] d fun e u=>e=.returned (Iv ((min t.height 5:Nat):Int))/\Below d.heap.size d u) :=
  fun d s=>deepOf_any n t a c d 4 (o.below s) p (by omega)
 have i:Hid (∀ d,Below w.heap.size w d->Calls prog 127 #[Tv t a c,Iv b] d fun e u=>e=.returned (Iv (t.fault b))/\Below d.heap.size d u) :=
  fun d s=>typeFault_any n t a c b d (o.below s) p
 have E:Hid (t.check b=if 4<t.height then 19 else t.fault b):=rfl;generalize t.check b=j at E |-;clear o p;simp only[Tv] at g i |-
 generalize t.kind=k at g i |-;generalize t.r=r at g i |-;generalize t.len=f at g i |-;generalize t.fault b=v at i E;generalize z:min t.height 5=q at g;go_enter func78,ntmps78
 go_wp2_with fail
 have m:=Bx.start w k r a f c;generalize w.alloc (.cells #[Iv k,Iv r,.slice a f c] 105)=I at m |-;refine(g.out _ m.bel).mono ?_
 rintro e F ⟨rfl,y⟩;have h:Hid (Bx w F k r a f c):=m.below y;have B:=Qb h.out.box 0 _ Z;have A:=Qb h.out.box 1 _ Z;have C:=Qb h.out.box 2 _ Z;clear m y g;by_cases l:4<t.height
 ·have R:Hid (j=19):=by have:=E.out;rwa [Xs l] at this
  have D:(4:Int)<q:=by omega
  clear l z;go_wp2_with fail
  go_ret;exact⟨by rw[R.out];rfl,h.out.bel⟩
 ·have R:Hid (j=v):=by have:=E.out;rwa [Xr l] at this
  have D:¬ (4:Int)<q:=by omega
  clear l z;go_wp2_with fail
  refine(i.out _ h.out.bel).mono ?_
  rintro e G ⟨rfl,x⟩;have H:Hid (Bx w G k r a f c):=h.out.below x;clear h x i B A C;go_wp2_with fail
  go_ret;exact⟨by rw[R.out];rfl,H.out.bel⟩
theorem QfM (k r:Int) (a:Option Addr) (len c:Nat) (regs:Int) (w:World) :
 Calls prog 282 #[.agg #[Iv k,Iv r,.slice a len c],Iv regs] w fun e w'=>e=.returned (Iv (ownC k r len regs))/\Below w.heap.size w w':=by
 rcases (show k<1\/(¬ k<1/\4<k)\/k=1\/k=2\/k=4\/k=3 by omega) with b | ⟨b,f⟩ | rfl | rfl | rfl | rfl
 ·rw[show ownC _ _ len regs=3 by unfold ownC;repeat' split;all_goals omega]
  go_enter func282,ntmps282
  go_wp2_with fail
  go_ret;exact⟨Z,(Below.refl _ w).alloc Ze _⟩
 ·rw[show ownC _ _ len regs=3 by unfold ownC;repeat' split;all_goals omega]
  go_enter func282,ntmps282
  go_wp2_with fail
  go_ret;exact⟨Z,(Below.refl _ w).alloc Ze _⟩
 ·rcases (show r≠0\/(r=0/\0<len)\/(r=0/\len=0) by omega) with b | ⟨rfl,b⟩|⟨rfl,b⟩
  ·have d:(r != 0)=true:=by simpa using b
   rw[show ownC _ _ len regs=4 by unfold ownC;repeat' split;all_goals omega]
   go_enter func282,ntmps282
   go_wp2_with fail
   go_ret;exact⟨Z,(Below.refl _ w).alloc Ze _⟩
  ·have d:(0:Int)<(len:Int):=by omega
   rw[show ownC _ _ len regs=4 by unfold ownC;repeat' split;all_goals omega]
   go_enter func282,ntmps282
   go_wp2_with fail
   go_ret;exact⟨Z,(Below.refl _ w).alloc Ze _⟩
  ·have d:¬ (0:Int)<(len:Int):=by omega
   have g:¬ (8:Int)<(len:Int):=by omega
   rw[show ownC _ _ len regs=0 by unfold ownC;repeat' split;all_goals omega]
   go_enter func282,ntmps282
   go_wp2_with fail
   go_ret;exact⟨Z,(Below.refl _ w).alloc Ze _⟩
 ·rcases (show 0<len\/(len=0/\r<0)\/(len=0/\0<=r/\regs<=r)\/(len=0/\0<=r/\r<regs) by omega) with b | ⟨b,f⟩|⟨b,f,h⟩|⟨b,f,h⟩
  ·have d:(0:Int)<(len:Int):=by omega
   rw[show ownC _ _ len regs=4 by unfold ownC;repeat' split;all_goals omega]
   go_enter func282,ntmps282
   go_wp2_with fail
   go_ret;exact⟨Z,(Below.refl _ w).alloc Ze _⟩
  ·have d:¬ (0:Int)<(len:Int):=by omega
   have g:¬ (8:Int)<(len:Int):=by omega
   rw[show ownC _ _ len regs=1 by unfold ownC;repeat' split;all_goals omega]
   go_enter func282,ntmps282
   go_wp2_with fail
   go_ret;exact⟨Z,(Below.refl _ w).alloc Ze _⟩
  ·have d:¬ (0:Int)<(len:Int):=by omega
   have g:¬ (8:Int)<(len:Int):=by omega
   rw[show ownC _ _ len regs=1 by unfold ownC;repeat' split;all_goals omega]
   go_enter func282,ntmps282
   go_wp2_with fail
   go_ret;exact⟨Z,(Below.refl _ w).alloc Ze _⟩
  ·have d:¬ (0:Int)<(len:Int):=by omega
   have g:¬ (8:Int)<(len:Int):=by omega
   rw[show ownC _ _ len regs=0 by unfold ownC;repeat' split;all_goals omega]
   go_enter func282,ntmps282
   go_wp2_with fail
   go_ret;exact⟨Z,(Below.refl _ w).alloc Ze _⟩
 ·rcases (show 0<len\/(len=0/\r<0)\/(len=0/\0<=r/\regs<=r)\/(len=0/\0<=r/\r<regs) by omega) with b | ⟨b,f⟩|⟨b,f,h⟩|⟨b,f,h⟩
  ·have d:(0:Int)<(len:Int):=by omega
   rw[show ownC _ _ len regs=4 by unfold ownC;repeat' split;all_goals omega]
   go_enter func282,ntmps282
   go_wp2_with fail
   go_ret;exact⟨Z,(Below.refl _ w).alloc Ze _⟩
  ·have d:¬ (0:Int)<(len:Int):=by omega
   have g:¬ (8:Int)<(len:Int):=by omega
   rw[show ownC _ _ len regs=1 by unfold ownC;repeat' split;all_goals omega]
   go_enter func282,ntmps282
   go_wp2_with fail
   go_ret;exact⟨Z,(Below.refl _ w).alloc Ze _⟩
  ·have d:¬ (0:Int)<(len:Int):=by omega
   have g:¬ (8:Int)<(len:Int):=by omega
   rw[show ownC _ _ len regs=1 by unfold ownC;repeat' split;all_goals omega]
   go_enter func282,ntmps282
   go_wp2_with fail
   go_ret;exact⟨Z,(Below.refl _ w).alloc Ze _⟩
  ·have d:¬ (0:Int)<(len:Int):=by omega
   have g:¬ (8:Int)<(len:Int):=by omega
   rw[show ownC _ _ len regs=0 by unfold ownC;repeat' split;all_goals omega]
   go_enter func282,ntmps282
   go_wp2_with fail
   go_ret;exact⟨Z,(Below.refl _ w).alloc Ze _⟩
 ·rcases (show 8<len\/(len<=8/\r<0)\/(len<=8/\0<=r/\regs<=r)\/(len<=8/\0<=r/\r<regs) by omega) with b | ⟨b,f⟩|⟨b,f,h⟩|⟨b,f,h⟩
  ·have d:(8:Int)<(len:Int):=by omega
   rw[show ownC _ _ len regs=2 by unfold ownC;repeat' split;all_goals omega]
   go_enter func282,ntmps282
   go_wp2_with fail
   go_ret;exact⟨Z,(Below.refl _ w).alloc Ze _⟩
  ·have d:¬ (8:Int)<(len:Int):=by omega
   rw[show ownC _ _ len regs=1 by unfold ownC;repeat' split;all_goals omega]
   go_enter func282,ntmps282
   go_wp2_with fail
   go_ret;exact⟨Z,(Below.refl _ w).alloc Ze _⟩
  ·have d:¬ (8:Int)<(len:Int):=by omega
   rw[show ownC _ _ len regs=1 by unfold ownC;repeat' split;all_goals omega]
   go_enter func282,ntmps282
   go_wp2_with fail
   go_ret;exact⟨Z,(Below.refl _ w).alloc Ze _⟩
  ·have d:¬ (8:Int)<(len:Int):=by omega
   rw[show ownC _ _ len regs=0 by unfold ownC;repeat' split;all_goals omega]
   go_enter func282,ntmps282
   go_wp2_with fail
   go_ret;exact⟨Z,(Below.refl _ w).alloc Ze _⟩
theorem firstCode_any:∀ n,Qeu 258 n:=by
 intro n
 induction n with
 | zero=>intro t;exact Empty.elim t
 | succ n ih =>
   intro t a c b w S J;have IH:Hid (Qeu 258 n):=ih;clear ih;have hT:Hid (LIn w All t.2.2 a):=S.list;have D:Hid (∀ x∈t.2.2,x.count<=100000):=fun x p=>by have:=t.count_kid p;omega
   have E:t.2.2.length<=100000:=by have:=t.len_lt_count;rw[t.len_eq] at this;omega
   have f:Hid (t.fault b=if ownC t.kind t.r t.2.2.length b≠0 then ownC t.kind t.r t.2.2.length b else Qu (TT.fault b) t.2.2):=rfl;generalize t.fault b=d at f |-;simp only[Tv,TT.len_eq]
   generalize t.2.2=l at hT D f E |-;generalize t.kind=k at f |-;generalize t.r=r at f |-;clear S J t;go_enter func258,ntmps258
   go_wp2_with fail
   have X:Hid (Bx w (w.alloc (.cells #[Iv k,Iv r,.slice a l.length c] 105)) k r a l.length c):=Bx.start w k r a l.length c;refine(QfM k r a l.length c b _).mono ?_
   rintro e Q ⟨rfl,b1⟩;have h:Hid (Bx w Q k r a l.length c):=X.out.below b1;clear X b1;by_cases B:ownC k r l.length b=0
   ·have R:Hid (d=Qu (TT.fault b) l):=by
     have:=f.out
     rw[B] at this
     show d=Qu (TT.fault b) l;simpa using this
    rw[B]
    clear B f;have e2:Q.cell? ⟨w.heap.size,2,none⟩=some (.slice a l.length c):=Qb h.out.box 2 _ Z;go_wp2_with fail
    clear e2;go_loopw [18] (fun i wr=>∃ q:Nat,q<=l.length/\i=Iv q/\(∀ (j:Nat) x,j<q->l[j]?=some x->x.fault b=0)/\Bx w wr k r a l.length c) (fun i _=>l.length - (intOf i).toNat)
    case atStart=>exact⟨0,Xb _,Z,fun j x hj=>by omega,h.out⟩
    case round =>
     clear h;obtain⟨q,hq,rfl,m,H⟩:=hrel
     have A:Hid (∀ (j:Nat) x,j<q->l[j]?=some x->x.fault b=0):=m;have h:Hid (Bx w wr k r a l.length c):=H;clear m;by_cases K:q<l.length
     ·have p:l[q]?=some l[q]:=Zg K;generalize l[q]=x at p;obtain⟨g,o,M,N,rfl,_,W,d1,T,V⟩:=LIn.at (hT.out.below H.bel) p
      have F:Hid (l[q]?=some x):=p;have aa:(0:Int)<=q:=by omega
      have I:(q:Int)<l.length:=by omega
      have C:Hid (∀ z,Below wr.heap.size wr z->Calls prog 258 #[Tv x M N,Iv b] z fun e w'=>e=.returned (Iv (x.fault b))/\Below z.heap.size z w') :=
       fun z hb=>IH.out x M N b z (V.below hb) (D.out x (Zm p))
      clear H V p;simp only[Tv] at C
      generalize x.kind=kx at C W;generalize x.r=rx at C d1;generalize x.len=lx at C T;go_wp2_with fail
      have L:Below wr.heap.size wr (wr.alloc (.cells #[Iv kx,Iv rx,.slice M lx N] 105)):=(Below.refl _ wr).alloc Ze _;refine(C.out _ L).mono ?_
      rintro e w2 ⟨rfl,U⟩;have X2:Hid (Bx w w2 k r (some ⟨g,o,none⟩) l.length c):=(h.out.below L).below U;clear h U L C W d1 T;by_cases u:x.fault b=0
      ·have A2:Hid (∀ (j:Nat) x,j<q+1->l[j]?=some x->x.fault b=0):=fun j y hj s=>by
        by_cases e:j=q
        ·subst e;rw[F.out] at s
         cases s
         exact u
        ·exact A.out j y (by omega) s
       rw[u]
       clear u A;go_wp2
       go_roundw
       case rel=>exact⟨q+1,by omega,by go_num,A2.out,X2.out⟩
       case measure=>simp[intOf];omega
      ·have G:Hid (d=x.fault b):=R.out.trans (Qav F.out A.out u);have P:(x.fault b != 0)=true:=by simpa using u
       generalize x.fault b=v at P G |-;clear u A;go_wp2
       go_ret;exact⟨by rw[G.out];rfl,X2.out.bel⟩
     ·have G:Hid (d=0):=R.out.trans (Qac (fun j y s=>A.out j y (by have:=(Zi s).1;omega) s));have I:¬ (q:Int)<l.length:=by omega
      clear H A;go_wp2
      go_ret;exact⟨by rw[G.out];rfl,h.out.bel⟩
   ·have R:Hid (d=ownC k r l.length b):=by
     have:=f.out
     rwa [Xs B] at this
    have O:(ownC k r l.length b != 0)=true:=by simpa using B
    generalize ownC k r l.length b=v at O R |-;clear B f;go_wp2_with fail
    go_ret;exact⟨by rw[R.out];rfl,h.out.bel⟩
theorem QiT {l:List (TT n)}{k r:Int}:m<TT.height (n:=n+1) (mkT k r l)↔∃ (i:Nat) (x:TT n),l[i]?=some x/\m<1+x.height:=by
 rw[<-Nat.not_le,Q9]
 constructor
 ·intro h;simp only[Classical.not_forall] at h
  obtain⟨x,a,b⟩:=h
  obtain⟨i,c,rfl⟩:=List.mem_iff_getElem.1 a
  exact⟨i,_,Zg c,by omega⟩
 ·rintro ⟨i,x,a,b⟩ h
  have:=h x (Zm (l:=l) a)
  omega
theorem deeper_any:∀ (n:Nat) (t:TT n) (a:Option Addr) (c:Nat) (w:World) (m:Nat),TIn w All t a->t.count<=100000->m<=4 ->
 Calls prog 257 #[Tv t a c,Iv m] w fun e w'=>e=.returned (.bool (decide (m<t.height)))/\Below w.heap.size w w':=by
 intro n
 induction n with
 | zero=>intro t;exact Empty.elim t
 | succ n ih =>
   intro t a c w m R I aa
   have IH:Hid (∀ (t:TT n) (a:Option Addr) (c:Nat) (w:World) (m:Nat),TIn w All t a->t.count<=100000->m<=4 ->
    Calls prog 257 #[Tv t a c,Iv m] w fun e w'=>e=.returned (.bool (decide (m<t.height)))/\Below w.heap.size w w'):=ih
   clear ih;have W:Hid (LIn w All t.2.2 a):=R.list;have s:Hid (∀ x∈t.2.2,x.count<=100000):=fun x b=>by have:=t.count_kid b;omega
   have v:t.2.2.length<=100000:=by have:=t.len_lt_count;rw[t.len_eq] at this;omega
   have z:Hid (m<t.height↔∃ (i:Nat) (x:TT n),t.2.2[i]?=some x/\m<1+x.height):=QiT;generalize t.height=h at z |-;simp only[Tv,TT.len_eq]
   generalize t.2.2=l at W s z v |-;generalize t.kind=k;generalize t.r=r;clear R I t;go_enter func257,ntmps257
   go_wp2_with fail
   have Q:Hid (Bx w (w.alloc (.cells #[Iv k,Iv r,.slice a l.length c] 105)) k r a l.length c):=Bx.start w k r a l.length c;generalize w.alloc (.cells #[Iv k,Iv r,.slice a l.length c] 105)=w1 at Q |-;go_loopw [10] (fun i wr=>∃ q:Nat,q<=l.length/\i=Iv q/\(∀ (j:Nat) x,j<q->l[j]?=some x->1+x.height<=m)/\Bx w wr k r a l.length c) (fun i _=>l.length - (intOf i).toNat)
   case atStart=>exact⟨0,Xb _,Z,fun j x hj=>by omega,Q.out⟩
   case round =>
    clear Q;obtain⟨q,hq,rfl,d,D⟩:=hrel
    have A:Hid (∀ (j:Nat) x,j<q->l[j]?=some x->1+x.height<=m):=d;have F:Hid (Bx w wr k r a l.length c):=D;clear d;by_cases J:q<l.length
    ·have b:l[q]?=some l[q]:=Zg J;generalize l[q]=x at b;obtain⟨g,o,L,M,rfl,_,P,U,S,O⟩:=LIn.at (W.out.below D.bel) b
     have hg:g<wr.heap.size:=Xi wr ⟨g,o+q*3,none⟩ P;have B:Hid (l[q]?=some x):=b;have ac:(0:Int)<=q:=by omega
     have G:(q:Int)<l.length:=by omega
     by_cases X:m=0
     ·have p:Hid (m<h):=z.out.2 ⟨q,x,b,by omega⟩;have N:((m:Int)==0)=true:=by simp;omega
      clear D O b X;go_wp2_with fail
      go_ret;exact⟨by rw[Xt p.out];rfl,(F.out.alloc _).bel⟩
     ·have N:((m:Int)==0)=false:=by simp;omega
      have C:Hid (∀ f,Below wr.heap.size wr f->Calls prog 257 #[Tv x L M,Iv ((m:Int) - 1)] f fun e w'=>e=.returned (.bool (decide (m - 1<x.height)))/\Below f.heap.size f w'):=fun f hb=>by
       have:=IH.out x L M f (m - 1) (O.below hb) (s.out x (Zm b)) (by omega)
       rw[show ((m - 1:Nat):Int)=(m:Int) - 1 by omega] at this
       exact this
      have ab:(1:Int)<=m:=by omega
      have ad:(m:Int)<=4:=by omega
      have u:Hid (1<=m):=by show 1<=m;omega
      clear D O b X;simp only[Tv] at C
      generalize x.kind=kx at C P;generalize x.r=rx at C U;generalize x.len=lx at C S;go_wp2_with fail
      have K:Below wr.heap.size wr (wr.alloc (.cells #[Iv kx,Iv rx,.slice L lx M] 105)):=(Below.refl _ wr).alloc Ze _;refine(C.out _ K).mono ?_
      rintro e w2 ⟨rfl,T⟩;have V:Hid (Bx w w2 k r (some ⟨g,o,none⟩) l.length c):=(F.out.below K).below T;clear F T K C P U S;by_cases E:m - 1<x.height
      ·have p:Hid (m<h):=z.out.2 ⟨q,x,B.out,by have:=u.out;omega⟩;rw[Xt E]
       clear E;go_wp2
       go_ret;exact⟨by rw[Xt p.out];rfl,V.out.bel⟩
      ·have A2:Hid (∀ (j:Nat) x,j<q+1->l[j]?=some x->1+x.height<=m):=fun j y hj H=>by
        by_cases e:j=q
        ·subst e;rw[B.out] at H
         cases H
         have:=u.out
         omega
        ·exact A.out j y (by omega) H
       rw[Xu E]
       clear E A;go_wp2
       go_roundw
       case rel=>exact⟨q+1,by omega,by go_num,A2.out,V.out⟩
       case measure=>simp[intOf];omega
    ·have p:Hid (¬ m<h):=fun hc=>by
      obtain⟨i,x,b,h3⟩:=z.out.1 hc
      have:=A.out i x (by have:=(Zi b).1;omega) b
      omega
     have G:¬ (q:Int)<l.length:=by omega
     clear D A;go_wp2
     go_ret;exact⟨by rw[Xu p.out];rfl,F.out.bel⟩
theorem check_any:QhK 223:=by
 intro n t a c b w o p
 have j:Hid (∀ d,Below w.heap.size w d->Calls prog 257 #[Tv t a c,Iv 4] d fun e s=>e=.returned (.bool (decide (4<t.height)))/\Below d.heap.size d s) :=
  fun d q=>deeper_any n t a c d 4 (o.below q) p (by omega)
 have h:Hid (∀ d,Below w.heap.size w d->Calls prog 258 #[Tv t a c,Iv b] d fun e s=>e=.returned (Iv (t.fault b))/\Below d.heap.size d s) :=
  fun d q=>firstCode_any n t a c b d (o.below q) p
 have E:Hid (t.check b=if 4<t.height then 19 else t.fault b):=rfl;generalize t.check b=l at E |-;clear o p;simp only[Tv] at j h |-
 generalize t.kind=k at j h |-;generalize t.r=r at j h |-;generalize t.len=f at j h |-;generalize t.fault b=v at h E;go_enter func223,ntmps223
 go_wp2_with fail
 have m:=Bx.start w k r a f c;generalize w.alloc (.cells #[Iv k,Iv r,.slice a f c] 105)=F at m |-;refine(j.out _ m.bel).mono ?_
 rintro e B ⟨rfl,x⟩;have g:Hid (Bx w B k r a f c):=m.below x;have z:=Qb g.out.box 0 _ Z;have y:=Qb g.out.box 1 _ Z;have A:=Qb g.out.box 2 _ Z;clear m x j;by_cases i:4<t.height
 ·rw[Xt i]
  have R:Hid (l=19):=by have:=E.out;rwa [Xs i] at this
  clear i;go_wp2_with fail
  go_ret;exact⟨by rw[R.out];rfl,g.out.bel⟩
 ·rw[Xu i]
  have R:Hid (l=v):=by have:=E.out;rwa [Xr i] at this
  clear i;go_wp2_with fail
  refine(h.out _ g.out.bel).mono ?_
  rintro e C ⟨rfl,u⟩;have D:Hid (Bx w C k r a f c):=g.out.below u;clear g u h z y A;go_wp2_with fail
  go_ret;exact⟨by rw[R.out];rfl,D.out.bel⟩
abbrev QG (p:Int × Int):Value:=.agg #[Iv p.1,Iv p.2]
def atF (c p:Int):Int × Int:=if c=0 then (0,0) else (c,p)
theorem QeW {α:Type}{f:Nat->α->Int × Int}:∀ {l:List α}{j:Nat},firstF (fun i x=>atF (f i x).1 (f i x).2) j l=firstF f j l
 | [],_=>rfl
 | x::xs,j=>by
   simp only[firstF,atF]
   by_cases h:(f j x).1=0
   ·simp only[h,if_true,ne_eq,not_true_eq_false,if_false]
    exact QeW
   ·simp[h]
def MFunc.code {n:Nat}(f:Nat) (x:MFunc n):Int :=
 if x.regs<0\/6<x.regs then 1 else if listC x.regs x.params≠0 then listC x.regs x.params else if listC x.regs x.results≠0 then listC x.regs x.results
 else if x.blocks.length<1\/12<x.blocks.length then 2 else if f=0/\¬ (x.regs=0/\x.params.length=0/\x.results.all (fun t=>t.kind==1)=true) then 18 else 0
theorem MFunc.fault_eq (a f:Nat) (x:MFunc n):MFunc.fault a f x=if x.code f=0 then firstF (fun b y=>MBlock.fault a f x b y) 0 x.blocks else (x.code f,10000*(f:Int)+9999):=by
 unfold MFunc.fault MFunc.code;generalize listC x.regs x.params=e;generalize listC x.regs x.results=d;generalize firstF (fun b y=>MBlock.fault a f x b y) 0 x.blocks=c;repeat' split
 all_goals first | rfl | (exfalso;omega) | contradiction
def MBlock.code' {n:Nat}(fn:MFunc n) (b:Nat) (x:MBlock n):Int :=
 if x.regs<fn.regs\/16<x.regs then 1 else if listC x.regs x.params≠0 then listC x.regs x.params
 else if b=0/\(x.regs≠fn.regs\/Qc1 x.params fn.params=false) then 9 else if 40<x.code.length then 2 else 0
theorem MBlock.fault_eq (a f:Nat) (fn:MFunc n) (b:Nat) (x:MBlock n):MBlock.fault a f fn b x =
 if x.code' fn b=0 then (if (firstF (fun i y=>(Qs.form a y,(10000*f+100*b+i:Int))) 0 x.code).1=0 then atF (x.fin.form fn.blocks.length) (10000*(f:Int)+100*(b:Int)+91)
  else firstF (fun i y=>(Qs.form a y,(10000*f+100*b+i:Int))) 0 x.code) else (x.code' fn b,10000*(f:Int)+100*(b:Int)+90):=by
 unfold MBlock.fault MBlock.code' atF;generalize firstF (fun i y=>(Qs.form a y,(10000*f+100*b+i:Int))) 0 x.code=e;generalize x.fin.form fn.blocks.length=c;generalize listC x.regs x.params=d;repeat' split
 all_goals first | rfl | (exfalso;omega) | contradiction
def idxK {n:Nat}:Nat->List (TT n)->Int
 | _,[]=>-1
 | i,t::ts=>if t.kind=1 then idxK (i+1) ts else (i:Int)
theorem QiA {l:List (TT n)}{x:TT n}(h:l[q]?=some x):idxK q (l.drop q)=if x.kind=1 then idxK (q+1) (l.drop (q+1)) else (q:Int):=by
 obtain⟨a,rfl⟩:=Zi h
 rw[List.drop_eq_getElem_cons a]
 rfl
theorem QgE {n:Nat}:∀ (l:List (TT n)) (j:Nat),(0<=idxK j l)↔¬ l.all (fun t=>t.kind==1)=true
 | [],j=>by simp[idxK]
 | y::ys,j=>by
   by_cases h:y.kind=1
   ·simp only[idxK,h,if_true,List.all_cons,beq_self_eq_true,Bool.true_and]
    exact QgE ys (j+1)
   ·simp[idxK,h]
theorem Qfc {t:TT n}{regs:Int}(b:TIn w All t a) (d:t.count<=100000):Rd prog 78 #[Tv t a c,Iv regs] w (Iv (t.check regs)):=typeFaultT_any n t a c regs w b d
theorem Qkm {t:TT n}{regs:Int}(b:TIn w All t a) (d:t.count<=100000):Rd prog 223 #[Tv t a c,Iv regs] w (Iv (t.check regs)):=check_any n t a c regs w b d
theorem QcH {α:Type}{f:α->Int}{l:List α}{x:α}(h:l[q]?=some x):Qu f (l.drop q)=if f x≠0 then f x else Qu f (l.drop (q+1)):=by
 obtain⟨a,rfl⟩:=Zi h
 rw[List.drop_eq_getElem_cons a]
 rfl
theorem Qll {l:List (TT n)}{regs:Int}(f:(Qp n).In w All l [.slice p l.length c]) (b:Qdc l) :
 Rd prog 51 #[.slice p l.length c,Iv regs] w (Iv (listC regs l)):=by
 have K:=Qf (QX f).1;have D:=Qf b.2;by_cases m:8<l.length
 ·have E:Hid (listC regs l=2):=Xs m;have d:decide ((l.length:Int)>8)=true:=Xt (by omega);clear m b f;go_enter func51,ntmps51
  go_wp2
  go_ret;exact⟨by rw[E.out];rfl,Zr⟩
 have E:Hid (listC regs l=Qu (TT.check regs) (l.drop 0)):=Xr m;have d:decide ((l.length:Int)>8)=false:=Xu (by omega);have m:l.length<=8:=by omega
 generalize listC regs l=V at E |-;clear b f;go_enter func51,ntmps51
 go_wp2
 go_loopw [5] (fun i wr=>∃ q:Nat,q<=l.length/\i=Iv q/\Hid (V=Qu (TT.check regs) (l.drop q))/\Hid (Below w.heap.size w wr)) (fun i _=>l.length - (intOf i).toNat)
 case atStart=>exact⟨0,Xb _,Z,E,Zr⟩
 case round =>
  obtain⟨q,O,rfl,e,k⟩:=hrel
  clear E;by_cases h:q<l.length
  ·have j:l[q]?=some l[q]:=Zg h;have A:=Qf (D.out _ (List.getElem_mem h));generalize l[q]=t at j A;obtain⟨g,o,I,F,rfl,-,B,G,H,In⟩:=LIn.at (TIn.below K.out k.out) j
   have P:(q:Int)<l.length:=by omega
   have a:=Qf (e.out.trans (QcH j));have C:Hid (∀ u,Below wr.heap.size wr u->Rd prog 78 #[.agg #[Iv t.kind,Iv t.r,.slice I t.len F],Iv regs] u (Iv (t.check regs))):=fun u J=>Qfc (In.below J) A.out;clear j e In;generalize t.check regs=v at a C;have C:=Qf (C.out wr Zr);go_wp2_with fail
   refine C.out.mono ?_;rintro N L ⟨rfl,y⟩;have z:Hid (Below w.heap.size w L):=k.out.trans (y.mono k.out.size);clear y C B G H;by_cases s:v=0
   ·subst s;have a:=Qf (a.out.trans (Xr (by simp)));go_wp2
    go_roundw
    case rel=>exact⟨q+1,by omega,by go_num,a,z⟩
    case measure=>simp[intOf];omega
   ·have a:=Qf (a.out.trans (Xs s));have M:(v != 0)=true:=bne_iff_ne.2 s;clear s;go_wp2
    go_ret;exact⟨by rw[a.out];rfl,z.out⟩
  ·have x:q=l.length:=by omega
   subst x;go_wp2
   go_ret;exact⟨by rw[e.out,List.drop_length];rfl,k.out⟩
theorem QaB {l:List (TT n)}{regs:Int}(f:(Qp n).In w All l [.slice p l.length c]) (b:Qdc l) :
 Rd prog 178 #[.slice p l.length c,Iv regs] w (Iv (listC regs l)):=by
 have K:=Qf (QX f).1;have G:=Qf b.2;by_cases m:8<l.length
 ·have E:Hid (listC regs l=2):=Xs m;have d:decide ((l.length:Int)>8)=true:=Xt (by omega);clear m b f;go_enter func178,ntmps178
  go_wp2
  go_ret;exact⟨by rw[E.out];rfl,Zr⟩
 have E:Hid (listC regs l=Qu (TT.check regs) (l.drop 0)):=Xr m;have d:decide ((l.length:Int)>8)=false:=Xu (by omega);have m:l.length<=8:=by omega
 generalize listC regs l=V at E |-;clear b f;go_enter func178,ntmps178
 go_wp2
 go_loopw [13] (fun i wr=>∃ q:Nat,q<=l.length/\i=Iv q/\Hid (V=Qu (TT.check regs) (l.drop q))/\Hid (Below w.heap.size w wr)) (fun i _=>l.length - (intOf i).toNat)
 case atStart=>exact⟨0,Xb _,Z,E,Zr⟩
 case round =>
  obtain⟨q,O,rfl,e,k⟩:=hrel
  clear E;by_cases h:q<l.length
  ·have j:l[q]?=some l[q]:=Zg h;have B:=Qf (G.out _ (List.getElem_mem h));generalize l[q]=t at j B;obtain⟨g,o,D,z,rfl,-,F,H,I,In⟩:=LIn.at (TIn.below K.out k.out) j
   have P:(q:Int)<l.length:=by omega
   have a:=Qf (e.out.trans (QcH j));have C:Hid (∀ u,Below wr.heap.size wr u->Rd prog 223 #[.agg #[Iv t.kind,Iv t.r,.slice D t.len z],Iv regs] u (Iv (t.check regs))):=fun u J=>Qkm (In.below J) B.out;clear j e In;generalize t.check regs=v at a C;have C:=Qf (C.out _ (Zd wr (.cells #[Iv t.kind,Iv t.r,.slice D t.len z] 105)));go_wp2_with fail
   refine C.out.mono ?_;rintro N L ⟨rfl,y⟩;have A:Hid (Below w.heap.size w L):=k.out.trans (((Zd wr _).trans (y.mono (Zd wr _).size)).mono k.out.size);clear y C F H I;by_cases s:v=0
   ·subst s;have a:=Qf (a.out.trans (Xr (by simp)));go_wp2
    go_roundw
    case rel=>exact⟨q+1,by omega,by go_num,a,A⟩
    case measure=>simp[intOf];omega
   ·have a:=Qf (a.out.trans (Xs s));have M:(v != 0)=true:=bne_iff_ne.2 s;clear s;go_wp2
    go_ret;exact⟨by rw[a.out];rfl,A.out⟩
  ·have x:q=l.length:=by omega
   subst x;go_wp2
   go_ret;exact⟨by rw[e.out,List.drop_length];rfl,k.out⟩
theorem Qbk {f:Int}:Rd prog 117 #[Iv xc,Iv f] w (QG (atF xc f)):=by
 have b:=Qf ((Bxs.start w).new #[Iv 0,Iv 0] 32);go_enter func117,ntmps117
 go_upto_region 1 with fail
 generalize w.alloc (.cells #[Iv 0,Iv 0] 32)=j at b |-;generalize w.heap.size=R at b |-;have k:=b.out.cell (a:=[]) 0 _ Z;have i:=b.out.cell (a:=[]) 1 _ Z;have l:=b.out.free (a:=[]) 0;have m:=b.out.free (a:=[]) 1;have g:Hid (∀ c p:Int,_):=fun c p=>(b.out.set (a:=[]) 0 (Iv c)).set (a:=[]) 1 (Iv p);by_cases h:xc=0
 ·subst h;go_wp2
  exact Xy (v:=QG (atF 0 f)) (by simp[results,results117,go_sem,(g.out 0 0).cell (a:=[]) 0 _ Z,(g.out 0 0).cell (a:=[]) 1 _ Z,atF,QG]) Z ⟨Z,(g.out 0 0).bel⟩
 ·have d:(xc==0)=false:=by simpa using h
  have e:=Qf h;clear h;go_wp2
  exact Xy (v:=QG (atF xc f)) (by simp[results,results117,go_sem,(g.out xc f).cell (a:=[]) 0 _ Z,(g.out xc f).cell (a:=[]) 1 _ Z,atF,QG,e.out]) Z ⟨Z,(g.out xc f).bel⟩
theorem Qhc {l:List (TT n)}(d:(Qp n).In w All l [.slice p l.length c]) (y:l.length<=100000) :
 Rd prog 259 #[.slice p l.length c,.func (.func 225) #[] #[]] w (Iv (idxK 0 l)):=by
 have x:=Qf (QX d).1;have E:Hid (idxK 0 l=idxK 0 (l.drop 0)):=rfl;have B:∀ (args:Array Value) (w:World),(callFunc 225 args).run prog w=.ok (.enter 225 args) w:=fun _ _=>by kernel_rfl
 generalize idxK 0 l=V at E |-;clear d;go_enter func259,ntmps259
 go_wp2
 go_loopw [8] (fun i wr=>∃ q:Nat,q<=l.length/\i=Iv q/\Hid (V=idxK q (l.drop q))/\Hid (Below w.heap.size w wr)) (fun i _=>l.length - (intOf i).toNat)
 case atStart=>exact⟨0,Xb _,Z,E,Zr⟩
 case round =>
  obtain⟨q,D,rfl,e,k⟩:=hrel
  clear E;by_cases j:q<l.length
  ·have f:l[q]?=some l[q]:=Zg j;generalize l[q]=t at f;obtain⟨g,o,u,s,rfl,-,v,A,C,In⟩:=LIn.at (TIn.below x.out k.out) f
   have F:(q:Int)<l.length:=by omega
   have a:=Qf (e.out.trans (QiA f));have h:Hid (Below w.heap.size w (wr.alloc (.cells #[Iv t.kind,Iv t.r,.slice u t.len s] 105))):=k.out.trans ((Zd wr _).mono k.out.size);clear f e In;by_cases b:t.kind=1
   ·have a:=Qf (a.out.trans (Xs b));rw[b] at v h
    clear b;go_wp2
    go_roundw
    case rel=>exact⟨q+1,by omega,by go_num,a,h⟩
    case measure=>simp[intOf];omega
   ·have a:=Qf (a.out.trans (Xr b));have z:(t.kind != 1)=true:=bne_iff_ne.2 b;clear b;go_wp2
    go_ret;exact⟨by rw[a.out];rfl,h.out⟩
  ·have m:q=l.length:=by omega
   subst m;go_wp2
   go_ret;exact⟨by rw[e.out,List.drop_length];rfl,k.out⟩
theorem Qd6 {l:List (TT n)}(a:(Qp n).In w All l [.slice p l.length c]) (b:l.length<=100000) :
 Rd prog 224 #[.slice p l.length c,.func (.func 225) #[] #[]] w (.bool (decide (0<=idxK 0 l))):=by
 have C:=Qf (Qhc a b);clear a;go_enter func224,ntmps224
 go_wp2_with fail
 refine C.out.mono ?_;rintro f g ⟨rfl,d⟩;have e:=Qf d;clear d C;go_wp2
 go_ret;exact⟨Z,e.out⟩
def MFunc.begins {n:Nat}(x:MFunc n):Prop:=x.regs=0/\x.params.length=0/\x.results.all (fun t=>t.kind==1)=true
def MBlock.takes {n:Nat}(fn:MFunc n) (x:MBlock n):Prop:=x.regs=fn.regs/\x.params=fn.params
theorem Qk7 {fn:MFunc n}{x:MBlock n}(h:¬ x.takes fn):x.regs≠fn.regs\/Qc1 x.params fn.params=false:=by
 by_cases a:x.regs=fn.regs
 ·refine .inr ?_
  cases e:Qc1 x.params fn.params with
  | false=>rfl
  | true=>exact absurd ⟨a,Qc5.1 e⟩ h
 ·exact .inl a
theorem QjB {fn:MFunc n}{x:MBlock n}(h:x.takes fn):¬ (x.regs≠fn.regs\/Qc1 x.params fn.params=false):=by
 rintro (a | a)
 ·exact a h.1
 ·rw[Qc5.2 h.2] at a;cases a
abbrev bkA {n:Nat}(m:List (MFunc n)) (p:Option Addr) (c:Nat) (x:MFunc n) (fp:FP) (fi:Nat) (y:MBlock n) (bp:BP) (bi:Nat):Array Value:=#[.slice p m.length c,Iv x.regs,.slice fp.pP x.params.length fp.cP,.slice fp.pR x.results.length fp.cR,.slice fp.pB x.blocks.length fp.cB,Iv (fi:Int),Iv y.regs,.slice bp.pP y.params.length bp.cP,.slice bp.pC y.code.length bp.cC,Iv y.fin.op,Iv y.fin.a,Iv y.fin.yes.block,.slice bp.e.pYR y.fin.yes.regs.length bp.e.cYR,.slice bp.e.pYA y.fin.yes.args.length bp.e.cYA,Iv y.fin.no.block,.slice bp.e.pNR y.fin.no.regs.length bp.e.cNR,.slice bp.e.pNA y.fin.no.args.length bp.e.cNA,.slice bp.e.pA y.fin.args.length bp.e.cA,Iv (bi:Int)]
theorem QeP {m:List (MFunc n)}{x:MFunc n}{a:FP}(g:FIn w All x a) (j:x.small) :
 Rd prog 179 #[.agg #[.slice p m.length c,Iv x.regs,.slice a.pP x.params.length a.cP,.slice a.pR x.results.length a.cR,.slice a.pB x.blocks.length a.cB,Iv (fi:Int)]] w (.bool (ZQ x.begins)):=by
 have f:=Qf (Zd w (.cells #[.slice p m.length c,Iv x.regs,.slice a.pP x.params.length a.cP,.slice a.pR x.results.length a.cR,.slice a.pB x.blocks.length a.cB,Iv (fi:Int)] 139));have i:=Qf (Blk.new w #[.slice p m.length c,Iv x.regs,.slice a.pP x.params.length a.cP,.slice a.pR x.results.length a.cR,.slice a.pB x.blocks.length a.cB,Iv (fi:Int)] 139);have C:=Qf (Qd6 (Ya g.results f.out) (by have:=j.2.2.1.1;omega));have o:x.begins↔x.regs=0/\x.params.length=0/\¬ 0<=idxK 0 x.results:=by unfold MFunc.begins;rw[QgE,Classical.not_not]
 have b:=Qf o;clear o;generalize idxK 0 x.results=r at C b;clear g j;go_enter func179,ntmps179
 go_upto_region 1 with fail
 generalize w.alloc (.cells #[.slice p m.length c,Iv x.regs,.slice a.pP x.params.length a.cP,.slice a.pR x.results.length a.cR,.slice a.pB x.blocks.length a.cB,Iv (fi:Int)] 139)=y at f i C |-;generalize s:w.heap.size=X at i |-;have E:=Qf s;clear s;have B:=Qb i.out 1 _ Z;have F:=Qb i.out 2 _ Z;have z:=Qb i.out 3 _ Z;by_cases d:x.regs=0
 ·have v:(x.regs==0)=true:=by simpa using d
  by_cases e:x.params.length=0
  ·have t:((x.params.length:Int)==0)=true:=by simpa using e
   have k:Hid (ZQ x.begins=!(decide (0<=r))):=by
    by_cases l:0<=r
    ·exact(QB (fun h=>(b.out.1 h).2.2 l)).trans (by simp[l])
    ·exact(QC (b.out.2 ⟨d,e,l⟩)).trans (by simp[l])
   clear d e b;go_wp2_with fail
   refine C.out.mono ?_;rintro D G ⟨rfl,q⟩;have u:=Qf (f.out.trans (q.mono f.out.size));clear q C;go_wp2
   go_ret;exact⟨by rw[k.out];rfl,u.out⟩
  ·have t:((x.params.length:Int)==0)=false:=by simpa using e
   have k:=Qf (QB (A:=x.begins) (fun h=>e (b.out.1 h).2.1));clear d e b;go_wp2
   go_ret;exact⟨by rw[k.out];rfl,f.out⟩
 ·have v:(x.regs==0)=false:=by simpa using d
  have k:=Qf (QB (A:=x.begins) (fun h=>d (b.out.1 h).1));clear d b;go_wp2
  go_ret;exact⟨by rw[k.out];rfl,f.out⟩
theorem Qe0 {m:List (MFunc n)}{x:MFunc n}{a:FP}(k:FIn w All x a) (i:x.small) :
 Rd prog 116 #[.agg #[.slice p m.length c,Iv x.regs,.slice a.pP x.params.length a.cP,.slice a.pR x.results.length a.cR,.slice a.pB x.blocks.length a.cB,Iv (fi:Int)]] w (Iv (x.code fi)):=by
 have o:=Qf (Zd w (.cells #[.slice p m.length c,Iv x.regs,.slice a.pP x.params.length a.cP,.slice a.pR x.results.length a.cR,.slice a.pB x.blocks.length a.cB,Iv (fi:Int)] 139));have d:=Qf (Blk.new w #[.slice p m.length c,Iv x.regs,.slice a.pP x.params.length a.cP,.slice a.pR x.results.length a.cR,.slice a.pB x.blocks.length a.cB,Iv (fi:Int)] 139);have s:Hid (∀ g,Below w.heap.size w g->Calls prog 178 #[.slice a.pP x.params.length a.cP,Iv x.regs] g fun e B=>e=.returned (Iv (listC x.regs x.params))/\Below g.heap.size g B):=fun g C=>QaB (regs:=x.regs) (Ya k.params C) i.2.1;have r:Hid (∀ g,Below w.heap.size w g->Calls prog 178 #[.slice a.pR x.results.length a.cR,Iv x.regs] g fun e B=>e=.returned (Iv (listC x.regs x.results))/\Below g.heap.size g B):=fun g C=>QaB (regs:=x.regs) (Ya k.results C) i.2.2.1;have f:Hid (∀ g,Below w.heap.size w g->Calls prog 179 #[.agg #[.slice p m.length c,Iv x.regs,.slice a.pP x.params.length a.cP,.slice a.pR x.results.length a.cR,.slice a.pB x.blocks.length a.cB,Iv (fi:Int)]] g fun e B=>e=.returned (.bool (ZQ x.begins))/\Below g.heap.size g B):=fun g C=>QeP (k.below C) i;have aa:=i.1;have b:Hid (x.code fi=if x.regs<0\/6<x.regs then 1 else if listC x.regs x.params≠0 then listC x.regs x.params else if listC x.regs x.results≠0 then listC x.regs x.results else if x.blocks.length<1\/12<x.blocks.length then 2 else if fi=0/\¬ (x.regs=0/\x.params.length=0/\x.results.all (fun t=>t.kind==1)=true) then 18 else 0):=rfl;generalize x.code fi=V at b |-;generalize listC x.regs x.params=Q at b s;generalize listC x.regs x.results=U at b r;clear k i;go_enter func116,ntmps116
 go_upto_region 1 with fail
 generalize w.alloc (.cells #[.slice p m.length c,Iv x.regs,.slice a.pP x.params.length a.cP,.slice a.pR x.results.length a.cR,.slice a.pB x.blocks.length a.cB,Iv (fi:Int)] 139)=w1 at o d |-;generalize S:w.heap.size=X at d |-;have HX:=Qf S;clear S;have F:=Qb d.out 1 _ Z;have G:=Qb d.out 2 _ Z;have D:=Qb d.out 3 _ Z;have L:=Qb d.out 4 _ Z;have K:=Qb d.out 5 _ Z;by_cases u:x.regs<0\/6<x.regs
 ·have E:=Qf (b.out.trans (Xs u));by_cases l:x.regs<0
  ·have J:decide (x.regs<0)=true:=Xt l;clear l u b s r f;go_wp2
   go_ret;exact⟨by rw[E.out];rfl,o.out⟩
  ·have J:decide (x.regs<0)=false:=Xu l;have R:decide (x.regs>6)=true:=Xt (by omega);clear l u b s r f;go_wp2
   go_ret;exact⟨by rw[E.out];rfl,o.out⟩
 replace b:=Qf (b.out.trans (Xr u));have J:decide (x.regs<0)=false:=Xu (by omega);have R:decide (x.regs>6)=false:=Xu (by omega);clear u;go_wp2_with fail
 refine(s.out w1 o.out).mono ?_
 rintro O w2 ⟨rfl,P⟩;have H:=Qf (o.out.trans (P.mono o.out.size));have d:=Qf (d.out.below P);clear P s F G D L K;have F:=Qb d.out 1 _ Z;have G:=Qb d.out 2 _ Z;have D:=Qb d.out 3 _ Z;have L:=Qb d.out 4 _ Z;have K:=Qb d.out 5 _ Z;by_cases v:Q=0
 rotate_left
 ·have E:=Qf (b.out.trans (Xs v));have W:(Q != 0)=true:=bne_iff_ne.2 v;clear v b r f;go_wp2
  go_ret;exact⟨by rw[E.out];rfl,H.out⟩
 replace b:=Qf (b.out.trans (Xr (fun h=>h v)));subst v;go_wp2_with fail
 refine(r.out w2 H.out).mono ?_
 rintro O T ⟨rfl,M⟩;have j:=Qf (H.out.trans (M.mono H.out.size));have d:=Qf (d.out.below M);clear M r F G D L K;have x0:=Qb d.out 0 _ Z;have F:=Qb d.out 1 _ Z;have G:=Qb d.out 2 _ Z;have D:=Qb d.out 3 _ Z;have L:=Qb d.out 4 _ Z;have K:=Qb d.out 5 _ Z;by_cases y:U=0
 rotate_left
 ·have E:=Qf (b.out.trans (Xs y));have W:(U != 0)=true:=bne_iff_ne.2 y;clear y b f;go_wp2
  go_ret;exact⟨by rw[E.out];rfl,j.out⟩
 replace b:=Qf (b.out.trans (Xr (fun h=>h y)));subst y;by_cases z:x.blocks.length<1\/12<x.blocks.length
 ·have E:=Qf (b.out.trans (Xs z));by_cases l:x.blocks.length<1
  ·have J:decide ((x.blocks.length:Int)<1)=true:=Xt (by omega);clear l z b f;go_wp2
   go_ret;exact⟨by rw[E.out];rfl,j.out⟩
  ·have J:decide ((x.blocks.length:Int)<1)=false:=Xu (by omega);have R:decide ((x.blocks.length:Int)>12)=true:=Xt (by omega);clear l z b f;go_wp2
   go_ret;exact⟨by rw[E.out];rfl,j.out⟩
 replace b:=Qf (b.out.trans (Xr z));have W:decide ((x.blocks.length:Int)<1)=false:=Xu (by omega);have d4:decide ((x.blocks.length:Int)>12)=false:=Xu (by omega);clear z;by_cases I:fi=0
 rotate_left
 ·have E:=Qf (b.out.trans (Xr (fun h=>I h.1)));have d5:((fi:Int)==0)=false:=by simpa using I
  clear I b f;go_wp2
  go_ret;exact⟨by rw[E.out];rfl,j.out⟩
 subst I;by_cases q:x.begins
 ·have E:=Qf (b.out.trans (Xr (fun h=>h.2 q)));have f:=Qf (f.out T j.out);rw[QC q] at f
  clear q b;go_wp2_with fail
  refine f.out.mono ?_;rintro O w4 ⟨rfl,A⟩;have N:=Qf (j.out.trans (A.mono j.out.size));clear A f;go_wp2
  go_ret;exact⟨by rw[E.out];rfl,N.out⟩
 ·have E:=Qf (b.out.trans (Xs ⟨Z,q⟩));have f:=Qf (f.out T j.out);rw[QB q] at f
  clear q b;go_wp2_with fail
  refine f.out.mono ?_;rintro O w4 ⟨rfl,A⟩;have N:=Qf (j.out.trans (A.mono j.out.size));clear A f;go_wp2
  go_ret;exact⟨by rw[E.out];rfl,N.out⟩
theorem ZL {rest:List Oper}{op:Oper}{a:Act}{Q:Exit->Act->World->Prop}(i:Region.wanted op (yielded ops a.tmps)=true) (c:TypeId) (x:Operand) (k:op.op=.load c x)
 (b o:Nat) (e:a.eval x=Pv b o) (cs:List Value) (d:TypeDesc) (l:w.rangeAt b o cs) (f:P.underlying c=some d) (j:d.isRow=true) (hi:(P.info? c).map (·.size)=some cs.length)
 (h:wpList P ops Q rest (a.put op.dst (.agg cs.toArray)) w):wpList P ops Q (op::rest) a w :=
 wpList_step fun K g=>by
  rw[Xs i]
  exact wp_load_mid c x k b o e cs d l f j hi (g _ _ h)
theorem bkSize:(prog.info? 194).map (·.size)=some 19:=by kernel_rfl
theorem QiP {m:List (MFunc n)}{x:MFunc n}{d:FP}{y:MBlock n}{b:BP}(k:FIn w All x d) (r:x.small) (o:BIn w All y b) (f:y.small) :
 Rd prog 226 #[.agg (bkA m p c x d fi y b bi)] w (.bool (ZQ (y.takes x))):=by
 have l:=Qf (Zd w (.cells (bkA m p c x d fi y b bi) 194));have j:=Qf (Blk.new w (bkA m p c x d fi y b bi) 194);have C:Hid (∀ i,Below w.heap.size w i->Calls prog 260 #[.slice b.pP y.params.length b.cP,.slice d.pP x.params.length d.cP,FV] i fun e G=>ZM e (y.params=x.params)/\Below i.heap.size i G):=fun i v=>Qjx n (same_any n) _ _ _ _ _ _ i (QX (Ya o.params v)).1 (QX (Ya k.params v)).1 (by have:=f.2.1.1;omega) f.2.1.2;clear k r o f;unfold Rd;go_enter func226,ntmps226
 go_upto_region 1 with fail
 generalize w.alloc (.cells #[.slice p m.length c,Iv x.regs,.slice d.pP x.params.length d.cP,.slice d.pR x.results.length d.cR,.slice d.pB x.blocks.length d.cB,Iv (fi:Int),Iv y.regs,.slice b.pP y.params.length b.cP,.slice b.pC y.code.length b.cC,Iv y.fin.op,Iv y.fin.a,Iv y.fin.yes.block,.slice b.e.pYR y.fin.yes.regs.length b.e.cYR,.slice b.e.pYA y.fin.yes.args.length b.e.cYA,Iv y.fin.no.block,.slice b.e.pNR y.fin.no.regs.length b.e.cNR,.slice b.e.pNA y.fin.no.args.length b.e.cNA,.slice b.e.pA y.fin.args.length b.e.cA,Iv (bi:Int)] 194)=z at l j |-;generalize u:w.heap.size=X at j |-;have J:=Qf u;clear u;have H:=Qb j.out 1 _ Z;have M:=Qb j.out 2 _ Z;have K:=Qb j.out 6 _ Z;have L:=Qb j.out 7 _ Z;by_cases g:y.regs=x.regs
 ·have F:(y.regs==x.regs)=true:=by simpa using g
  have D:=Qf g;clear g;go_wp2_with fail
  refine(C.out z l.out).mono ?_
  rintro I N ⟨⟨q,rfl,t⟩,s⟩;have B:=Qf (l.out.trans (s.mono l.out.size));have E:Hid (ZQ (y.takes x)=q):=(QfH (t.trans ⟨fun h=>⟨D.out,h⟩,fun h=>h.2⟩)).symm;clear s C t;go_wp2
  go_ret;exact⟨by rw[E.out];rfl,B.out⟩
 ·have F:(y.regs==x.regs)=false:=by simpa using g
  have E:=Qf (QB (A:=y.takes x) (fun h=>g h.1));clear g C;go_wp2
  go_ret;exact⟨by rw[E.out];rfl,l.out⟩
theorem Qd3 {m:List (MFunc n)}{x:MFunc n}{f:FP}{y:MBlock n}{b:BP}(B:FIn w All x f) (G:x.small) (s:BIn w All y b) (r:y.small) :
 Rd prog 180 #[.agg (bkA m p c x f fi y b bi)] w (Iv (y.code' x bi)):=by
 have u:=Qf (Zd w (.cells (bkA m p c x f fi y b bi) 194));have i:=Qf (Blk.new w (bkA m p c x f fi y b bi) 194);have v:Hid (∀ k,Below w.heap.size w k->Calls prog 178 #[.slice b.pP y.params.length b.cP,Iv y.regs] k fun e O=>e=.returned (Iv (listC y.regs y.params))/\Below k.heap.size k O):=fun k J=>QaB (Ya s.params J) r.2.1;have g:Hid (∀ k,Below w.heap.size w k->Calls prog 226 #[.agg #[.slice p m.length c,Iv x.regs,.slice f.pP x.params.length f.cP,.slice f.pR x.results.length f.cR,.slice f.pB x.blocks.length f.cB,Iv (fi:Int),Iv y.regs,.slice b.pP y.params.length b.cP,.slice b.pC y.code.length b.cC,Iv y.fin.op,Iv y.fin.a,Iv y.fin.yes.block,.slice b.e.pYR y.fin.yes.regs.length b.e.cYR,.slice b.e.pYA y.fin.yes.args.length b.e.cYA,Iv y.fin.no.block,.slice b.e.pNR y.fin.no.regs.length b.e.cNR,.slice b.e.pNA y.fin.no.args.length b.e.cNA,.slice b.e.pA y.fin.args.length b.e.cA,Iv (bi:Int)]] k fun e O=>e=.returned (.bool (ZQ (y.takes x)))/\Below k.heap.size k O):=fun k J=>QiP (B.below J) G (s.below J) r;have aa:=r.1;have d:Hid (y.code' x bi=if y.regs<x.regs\/16<y.regs then 1 else if listC y.regs y.params≠0 then listC y.regs y.params else if bi=0/\(y.regs≠x.regs\/Qc1 y.params x.params=false) then 9 else if 40<y.code.length then 2 else 0):=rfl;generalize y.code' x bi=V at d |-;generalize listC y.regs y.params=P at d v;clear B G s r;unfold Rd;go_enter func180,ntmps180
 go_upto_region 1 with fail
 generalize w.alloc (.cells #[.slice p m.length c,Iv x.regs,.slice f.pP x.params.length f.cP,.slice f.pR x.results.length f.cR,.slice f.pB x.blocks.length f.cB,Iv (fi:Int),Iv y.regs,.slice b.pP y.params.length b.cP,.slice b.pC y.code.length b.cC,Iv y.fin.op,Iv y.fin.a,Iv y.fin.yes.block,.slice b.e.pYR y.fin.yes.regs.length b.e.cYR,.slice b.e.pYA y.fin.yes.args.length b.e.cYA,Iv y.fin.no.block,.slice b.e.pNR y.fin.no.regs.length b.e.cNR,.slice b.e.pNA y.fin.no.args.length b.e.cNA,.slice b.e.pA y.fin.args.length b.e.cA,Iv (bi:Int)] 194)=U at u i |-;generalize S:w.heap.size=X at i |-;have HX:=Qf S;clear S;have W:=Qb i.out 1 _ Z;have x6:=Qb i.out 6 _ Z;have x7:=Qb i.out 7 _ Z;have t:=Qb i.out 8 _ Z;have z:=Qb i.out 18 _ Z;by_cases C:y.regs<x.regs\/16<y.regs
 ·have E:=Qf (d.out.trans (Xs C));by_cases I:y.regs<x.regs
  ·have R:decide (y.regs<x.regs)=true:=Xt I;clear I C d v g;go_wp2
   go_ret;exact⟨by rw[E.out];rfl,u.out⟩
  ·have R:decide (y.regs<x.regs)=false:=Xu I;have d2:decide (y.regs>16)=true:=Xt (by omega);clear I C d v g;go_wp2
   go_ret;exact⟨by rw[E.out];rfl,u.out⟩
 replace d:=Qf (d.out.trans (Xr C));have R:decide (y.regs<x.regs)=false:=Xu (by omega);have d2:decide (y.regs>16)=false:=Xu (by omega);clear C;go_wp2_with fail
 refine(v.out U u.out).mono ?_
 rintro L T ⟨rfl,N⟩;have j:=Qf (u.out.trans (N.mono u.out.size));replace i:=Qf (i.out.below N);have M:=Qf (Blk.range (c:=(bkA m p c x f fi y b bi).toList) i.out);clear N v W x6 x7 t z;have t:=Qb i.out 8 _ Z;have z:=Qb i.out 18 _ Z;by_cases D:P=0
 rotate_left
 ·have E:=Qf (d.out.trans (Xs D));have d3:(P != 0)=true:=bne_iff_ne.2 D;clear D d g;go_wp2
  go_ret;exact⟨by rw[E.out];rfl,j.out⟩
 replace d:=Qf (d.out.trans (Xr (fun h=>h D)));subst D;by_cases q:bi=0/\¬ y.takes x
 ·have E:=Qf (d.out.trans (Xs ⟨q.1,Qk7 q.2⟩));have g:=Qf (g.out T j.out);rw[QB q.2] at g
  have F:=q.1;subst F;clear q d;go_wp2_with (refine ZL Z 194 (.tmp 1) Z X 0 Z (bkA m p c x f fi y b 0).toList _ M.out underlying194 Z bkSize ?_)
  refine g.out.mono ?_;rintro L Q ⟨rfl,l⟩;have A:=Qf (j.out.trans (l.mono j.out.size));clear l g;go_wp2
  go_ret;exact⟨by rw[E.out];rfl,A.out⟩
 replace d:=Qf (d.out.trans (Xr (fun h=>q ⟨h.1,fun H=>QjB H h.2⟩)));by_cases F:bi=0
 ·subst F;have H:y.takes x:=Classical.byContradiction (fun h=>q ⟨Z,h⟩);have g:=Qf (g.out T j.out);rw[QC H] at g
  clear q H;by_cases o:40<y.code.length
  ·have K:decide ((y.code.length:Int)>40)=true:=Xt (by omega);have E:=Qf (d.out.trans (Xs o));clear o d;go_wp2_with (refine ZL Z 194 (.tmp 1) Z X 0 Z (bkA m p c x f fi y b 0).toList _ M.out underlying194 Z bkSize ?_)
   refine g.out.mono ?_;rintro L Q ⟨rfl,l⟩;have A:=Qf (j.out.trans (l.mono j.out.size));have t:=Qk t l;clear l g;go_wp2
   go_ret;exact⟨by rw[E.out];rfl,A.out⟩
  ·have K:decide ((y.code.length:Int)>40)=false:=Xu (by omega);have E:=Qf (d.out.trans (Xr o));clear o d;go_wp2_with (refine ZL Z 194 (.tmp 1) Z X 0 Z (bkA m p c x f fi y b 0).toList _ M.out underlying194 Z bkSize ?_)
   refine g.out.mono ?_;rintro L Q ⟨rfl,l⟩;have A:=Qf (j.out.trans (l.mono j.out.size));have t:=Qk t l;clear l g;go_wp2
   go_ret;exact⟨by rw[E.out];rfl,A.out⟩
 ·have d5:((bi:Int)==0)=false:=by simpa using F
  clear q F g;by_cases o:40<y.code.length
  ·have K:decide ((y.code.length:Int)>40)=true:=Xt (by omega);have E:=Qf (d.out.trans (Xs o));clear o d;go_wp2
   go_ret;exact⟨by rw[E.out];rfl,j.out⟩
  ·have K:decide ((y.code.length:Int)>40)=false:=Xu (by omega);have E:=Qf (d.out.trans (Xr o));clear o d;go_wp2
   go_ret;exact⟨by rw[E.out];rfl,j.out⟩
theorem FbS.start0 (w:World):FbS w (w.alloc (.cells #[Iv 0,Iv 0] 32)) w.heap.size []:=⟨Zd w _,Ze,Blk.new _ _ _,fun i b a=>by simp at a⟩
theorem Qjl {l:List Qs}{Bc:Nat}(G:Nat->Qs->Int × Int) (J:insL.list.In w All l [.slice p l.length c]) (aa:l.length<=100000)
 (A:∀ (i:Nat) x (z:IP) wx,l[i]?=some x->IIn wx All x z->Below w.heap.size w wx->Rd prog 183 #[Iv (i:Int),.agg #[Iv x.op,Iv x.a,Iv x.b,Iv x.c,Iv x.k,Iv x.n,.slice z.pR x.regs.length z.cR,.slice z.pA x.args.length z.cA],Pv Bc 0] wx (QG (G i x))) :
 Rd prog 182 #[.slice p l.length c,.func (.func 183) #[] #[Pv Bc 0]] w (QG (firstF G 0 l)):=by
 have HL:=Qf J;have HC:=Qf A;have S:=Qf (FbS.start0 w);have hE:∀ (args:Array Value) (w:World),(callFunc 183 args).run prog w=.ok (.enter 183 args) w:=fun _ _=>by kernel_rfl
 clear J A;unfold Rd;go_enter func182,ntmps182
 go_upto_region 1 with fail
 generalize w.alloc (.cells #[Iv 0,Iv 0] 32)=w1 at S |-;generalize w.heap.size=R at S |-;go_wp2_with fail
 go_loopw [10] (fun i wr=>∃ q:Nat,q<=l.length/\i=Iv q/\FbS w wr R []/\∀ (j:Nat) x,j<q->l[j]?=some x->(G j x).1=0) (fun i _=>l.length - (intOf i).toNat)
 case atStart=>exact⟨0,Xb _,Yz,S.out,fun j z C=>absurd C (XG _)⟩
 case round =>
  obtain⟨q,hq,rfl,hs,t⟩:=hrel
  have e:=Qf hs;have F:=Qf t;clear hs t S;obtain⟨L,M⟩:∃ L,L=wr:=⟨_,Yz⟩
  subst M;by_cases Q:q<l.length
  rotate_left
  ·have I:¬ (q:Int)<l.length:=by omega
   have E:firstF G 0 l=(0,0):=QY fun j x C=>by rw[XK];exact F.out j x (by have:=(Zi C).1;omega) C
   obtain⟨r0,r1,z0,z1⟩:=e.out.cells
   have D:=Qf (e.out.fin 0 0);go_wp2_with fail
   generalize World.setCell _ _ _=T at D |-;exact Xy (v:=.agg #[Iv 0,Iv 0]) (by simp[results,results182,go_sem,Qb D.out.1 0 _ Yz,Qb D.out.1 1 _ Yz]) Yz ⟨by first | rfl | rw[E],D.out.2⟩
  have I:(q:Int)<l.length:=by omega
  have K:l[q]?=some l[q]:=Zg Q;generalize l[q]=x at K;have P:=Qf K;obtain⟨g,o,z,rfl,s,X⟩:=Qi4 HL.out K
  have HI:=Qf X;have v0:=Qk (show w.cell? ⟨g,o+q*8,none⟩=_ from s 0 _ Yz) e.out.bel;have v1:=Qk (show w.cell? ⟨g,o+q*8+1,none⟩=_ from s 1 _ Yz) e.out.bel;have v2:=Qk (show w.cell? ⟨g,o+q*8+2,none⟩=_ from s 2 _ Yz) e.out.bel;have v3:=Qk (show w.cell? ⟨g,o+q*8+3,none⟩=_ from s 3 _ Yz) e.out.bel;have v4:=Qk (show w.cell? ⟨g,o+q*8+4,none⟩=_ from s 4 _ Yz) e.out.bel;have v5:=Qk (show w.cell? ⟨g,o+q*8+5,none⟩=_ from s 5 _ Yz) e.out.bel;have v6:=Qk (show w.cell? ⟨g,o+q*8+6,none⟩=_ from s 6 _ Yz) e.out.bel;have v7:=Qk (show w.cell? ⟨g,o+q*8+7,none⟩=_ from s 7 _ Yz) e.out.bel;have d:=Qf (e.out.new #[Iv x.op,Iv x.a,Iv x.b,Iv x.c,Iv x.k,Iv x.n,.slice z.pR x.regs.length z.cR,.slice z.pA x.args.length z.cA] 78);clear K s X;go_upto_region 4 with fail
  generalize L.alloc (.cells #[Iv x.op,Iv x.a,Iv x.b,Iv x.c,Iv x.k,Iv x.n,.slice z.pR x.regs.length z.cR,.slice z.pA x.args.length z.cA] 78)=w3 at d |-;generalize L.heap.size=Z at d |-;clear e v0 v1 v2 v3 v4 v5 v6 v7;have t0:=Qb (d.out.box 0 _ Yz) 0 _ Yz;have t1:=Qb (d.out.box 0 _ Yz) 1 _ Yz;have t2:=Qb (d.out.box 0 _ Yz) 2 _ Yz;have t3:=Qb (d.out.box 0 _ Yz) 3 _ Yz;have t4:=Qb (d.out.box 0 _ Yz) 4 _ Yz;have t5:=Qb (d.out.box 0 _ Yz) 5 _ Yz;have t6:=Qb (d.out.box 0 _ Yz) 6 _ Yz;have t7:=Qb (d.out.box 0 _ Yz) 7 _ Yz;have V:=Qf (HC.out q x z w3 P.out (HI.out.below d.out.bel) d.out.bel);unfold Rd at V;obtain⟨h,B,W⟩:∃ h B,G q x=(h,B):=⟨_,_,Yz⟩
  rw[W] at V
  have U:=Qf W;clear W;go_wp2_with fail
  refine V.out.mono ?_;rintro _ w8 ⟨rfl,b8⟩;have y:=Qf ((d.out.below b8).new #[Iv h,Iv B] 32);clear b8 d;simp only[QG]
  go_upto_region 5 with fail
  generalize w8.alloc (.cells #[Iv h,Iv B] 32)=w9 at y |-;generalize w8.heap.size=F8 at y |-;have f0:=Qb (y.out.box 0 _ Yz) 0 _ Yz;have f1:=Qb (y.out.box 0 _ Yz) 1 _ Yz;have N:Hid (FbS w w9 R []):=⟨y.out.bel,y.out.ge,y.out.r,fun i b hb=>by simp at hb⟩;clear y;by_cases m:h=0
  ·subst m;go_wp2
   go_roundw
   case rel =>
    refine⟨q+1,by omega,by go_num,N.out,fun j u C H=>?_⟩
    by_cases O:j<q
    ·exact F.out j u O H
    ·have:j=q:=by omega
     subst this;rw[P.out] at H
     cases H
     rw[U.out]
   case measure=>simp[intOf];omega
  ·have d9:(h != 0)=true:=by simpa using m
   have E:firstF G 0 l=(h,B):=by
    have hF:=Qau (f:=G) (j:=0) P.out (fun j u C H=>by rw[XK];exact F.out j u C H) (by rw[XK,U.out];exact m);rw[XK,U.out] at hF
    exact hF
   clear m;obtain⟨r0,r1,z0,z1⟩:=N.out.cells
   have D:=Qf (N.out.fin h B);go_wp2_with fail
   generalize World.setCell _ _ _=T at D |-;exact Xy (v:=.agg #[Iv h,Iv B]) (by simp[results,results182,go_sem,Qb D.out.1 0 _ Yz,Qb D.out.1 1 _ Yz]) Yz ⟨by first | rfl | rw[E],D.out.2⟩
theorem QfW {l:List (MBlock n)}{Bc:Nat}(G:Nat->(MBlock n)->Int × Int) (O:(Zo n).list.In w All l [.slice p l.length c]) (ab:l.length<=100000)
 (B:∀ (i:Nat) x (z:BP) wx,l[i]?=some x->BIn wx All x z->Below w.heap.size w wx->Rd prog 120 #[Iv (i:Int),.agg #[Iv x.regs,.slice z.pP x.params.length z.cP,.slice z.pC x.code.length z.cC,Iv x.fin.op,Iv x.fin.a,Iv x.fin.yes.block,.slice z.e.pYR x.fin.yes.regs.length z.e.cYR,.slice z.e.pYA x.fin.yes.args.length z.e.cYA,Iv x.fin.no.block,.slice z.e.pNR x.fin.no.regs.length z.e.cNR,.slice z.e.pNA x.fin.no.args.length z.e.cNA,.slice z.e.pA x.fin.args.length z.e.cA],Pv Bc 0] wx (QG (G i x))) :
 Rd prog 119 #[.slice p l.length c,.func (.func 120) #[] #[Pv Bc 0]] w (QG (firstF G 0 l)):=by
 have HL:=Qf O;have HC:=Qf B;have S:=Qf (FbS.start0 w);have hE:∀ (args:Array Value) (w:World),(callFunc 120 args).run prog w=.ok (.enter 120 args) w:=fun _ _=>by kernel_rfl
 clear O B;unfold Rd;go_enter func119,ntmps119
 go_upto_region 1 with fail
 generalize w.alloc (.cells #[Iv 0,Iv 0] 32)=w1 at S |-;generalize w.heap.size=R at S |-;go_wp2_with fail
 go_loopw [10] (fun i wr=>∃ q:Nat,q<=l.length/\i=Iv q/\FbS w wr R []/\∀ (j:Nat) x,j<q->l[j]?=some x->(G j x).1=0) (fun i _=>l.length - (intOf i).toNat)
 case atStart=>exact⟨0,Xb _,Yz,S.out,fun j z m=>absurd m (XG _)⟩
 case round =>
  obtain⟨q,hq,rfl,hs,t⟩:=hrel
  have N:=Qf hs;have H:=Qf t;clear hs t S;obtain⟨y,T⟩:∃ y,y=wr:=⟨_,Yz⟩
  subst T;by_cases X:q<l.length
  rotate_left
  ·have L:¬ (q:Int)<l.length:=by omega
   have E:firstF G 0 l=(0,0):=QY fun j x m=>by rw[XK];exact H.out j x (by have:=(Zi m).1;omega) m
   obtain⟨r0,r1,z0,z1⟩:=N.out.cells
   have D:=Qf (N.out.fin 0 0);go_wp2_with fail
   generalize World.setCell _ _ _=aa at D |-;exact Xy (v:=.agg #[Iv 0,Iv 0]) (by simp[results,results119,go_sem,Qb D.out.1 0 _ Yz,Qb D.out.1 1 _ Yz]) Yz ⟨by first | rfl | rw[E],D.out.2⟩
  have L:(q:Int)<l.length:=by omega
  have Q:l[q]?=some l[q]:=Zg X;generalize l[q]=x at Q;have W:=Qf Q;obtain⟨g,o,z,rfl,E3,I3⟩:=Qen HL.out Q
  have HI:=Qf I3;generalize h:([Iv x.regs,.slice z.pP x.params.length z.cP,.slice z.pC x.code.length z.cC,Iv x.fin.op,Iv x.fin.a,Iv x.fin.yes.block,.slice z.e.pYR x.fin.yes.regs.length z.e.cYR,.slice z.e.pYA x.fin.yes.args.length z.e.cYA,Iv x.fin.no.block,.slice z.e.pNR x.fin.no.regs.length z.e.cNR,.slice z.e.pNA x.fin.no.args.length z.e.cNA,.slice z.e.pA x.fin.args.length z.e.cA]:List Value)=d at E3;have hl:d.length=12:=by rw[<-h];rfl
  have I:=Qf (Qm1.of y hl);have TO:Hid (d.toArray.all (·.oneCell')=true):=by show _=_;rw[<-h];exact all_oneCell_toArray (Xe.1 Yz)
  have RG:Hid (y.rangeAt g (o+q*12) d):=fun j v m=>Qk (E3 j v m) N.out.bel;clear Q E3 I3 hl;go_upto_region 4 with (first | (refine wpList_load_mid Yz 86 (.tmp 13) Yz g (o+q*12) Yz d _ RG.out underlying86 Yz I.out.size ?_) | (refine wpList_store_mid Yz 86 (.tmp 6) (.tmp 14) Yz y.heap.size 0 d.toArray Yz Yz I.out.there I.out.size2 TO.out ?_))
  have C:=Qf ((N.out.below I.out.bel).add I.out.blk);have TS:=Qf I.out.size;clear N RG TO I;generalize (y.alloc (.cells #[Iv 0,Nv,Nv,Iv 0,Iv 0,Iv 0,Nv,Nv,Iv 0,Nv,Nv,Nv] 86)).setCells y.heap.size 0 d=P at C |-;generalize y.heap.size=Z at C |-;have RZ:Hid (P.rangeAt Z 0 d):=Blk.range (C.out.box 0 _ Yz);have CC:=Qf (HC.out q x z P W.out (HI.out.below C.out.bel) C.out.bel);unfold Rd at CC;have M:Hid (([Iv x.regs,.slice z.pP x.params.length z.cP,.slice z.pC x.code.length z.cC,Iv x.fin.op,Iv x.fin.a,Iv x.fin.yes.block,.slice z.e.pYR x.fin.yes.regs.length z.e.cYR,.slice z.e.pYA x.fin.yes.args.length z.e.cYA,Iv x.fin.no.block,.slice z.e.pNR x.fin.no.regs.length z.e.cNR,.slice z.e.pNA x.fin.no.args.length z.e.cNA,.slice z.e.pA x.fin.args.length z.e.cA]:List Value)=d):=h;have K:Hid (Calls prog 120 #[Iv (q:Int),.agg d.toArray,Pv Bc 0] P fun e w'=>e=.returned (QG (G q x))/\Below P.heap.size P w'):=by rw[<-M.out];exact CC.out
  clear CC M h;obtain⟨k,F,hg⟩:∃ k F,G q x=(k,F):=⟨_,_,Yz⟩
  rw[hg] at K
  have HG:=Qf hg;clear hg;go_wp2_with (refine wpList_load_mid Yz 86 (.tmp 6) Yz Z 0 Yz d _ RZ.out underlying86 Yz TS.out ?_)
  refine K.out.mono ?_;rintro _ w8 ⟨rfl,b8⟩;have A:=Qf ((C.out.below b8).new #[Iv k,Iv F] 32);clear b8 C;simp only[QG]
  go_upto_region 5 with fail
  generalize w8.alloc (.cells #[Iv k,Iv F] 32)=w9 at A |-;generalize w8.heap.size=F8 at A |-;have f0:=Qb (A.out.box 0 _ Yz) 0 _ Yz;have f1:=Qb (A.out.box 0 _ Yz) 1 _ Yz;have U:Hid (FbS w w9 R []):=⟨A.out.bel,A.out.ge,A.out.r,fun i b hb=>by simp at hb⟩;clear A;by_cases s:k=0
  ·subst s;go_wp2
   go_roundw
   case rel =>
    refine⟨q+1,by omega,by go_num,U.out,fun j u m J=>?_⟩
    by_cases V:j<q
    ·exact H.out j u V J
    ·have:j=q:=by omega
     subst this;rw[W.out] at J
     cases J
     rw[HG.out]
   case measure=>simp[intOf];omega
  ·have d9:(k != 0)=true:=by simpa using s
   have E:firstF G 0 l=(k,F):=by
    have hF:=Qau (f:=G) (j:=0) W.out (fun j u m J=>by rw[XK];exact H.out j u m J) (by rw[XK,HG.out];exact s);rw[XK,HG.out] at hF
    exact hF
   clear s;obtain⟨r0,r1,z0,z1⟩:=U.out.cells
   have D:=Qf (U.out.fin k F);go_wp2_with fail
   generalize World.setCell _ _ _=aa at D |-;exact Xy (v:=.agg #[Iv k,Iv F]) (by simp[results,results119,go_sem,Qb D.out.1 0 _ Yz,Qb D.out.1 1 _ Yz]) Yz ⟨by first | rfl | rw[E],D.out.2⟩
theorem Qg1 {l:List (MFunc n)}{Bc:Nat}(G:Nat->(MFunc n)->Int × Int) (F:(QaN n).In w All l [.slice p l.length c]) (aa:l.length<=100000)
 (s:∀ (i:Nat) x (z:FP) wx,l[i]?=some x->FIn wx All x z->Below w.heap.size w wx->Rd prog 74 #[Iv (i:Int),.agg #[Iv x.regs,.slice z.pP x.params.length z.cP,.slice z.pR x.results.length z.cR,.slice z.pB x.blocks.length z.cB],Pv Bc 0] wx (QG (G i x))) :
 Rd prog 73 #[.slice p l.length c,.func (.func 74) #[] #[Pv Bc 0]] w (QG (firstF G 0 l)):=by
 have HL:=Qf F;have HC:=Qf s;have S:=Qf (FbS.start0 w);have hE:∀ (args:Array Value) (w:World),(callFunc 74 args).run prog w=.ok (.enter 74 args) w:=fun _ _=>by kernel_rfl
 clear F s;unfold Rd;go_enter func73,ntmps73
 go_upto_region 1 with fail
 generalize w.alloc (.cells #[Iv 0,Iv 0] 32)=w1 at S |-;generalize w.heap.size=R at S |-;go_wp2_with fail
 go_loopw [10] (fun i wr=>∃ q:Nat,q<=l.length/\i=Iv q/\FbS w wr R []/\∀ (j:Nat) x,j<q->l[j]?=some x->(G j x).1=0) (fun i _=>l.length - (intOf i).toNat)
 case atStart=>exact⟨0,Xb _,Yz,S.out,fun j z y=>absurd y (XG _)⟩
 case round =>
  obtain⟨q,hq,rfl,hs,k⟩:=hrel
  have h:=Qf hs;have A:=Qf k;clear hs k S;obtain⟨J,K⟩:∃ J,J=wr:=⟨_,Yz⟩
  subst K;by_cases O:q<l.length
  rotate_left
  ·have C:¬ (q:Int)<l.length:=by omega
   have E:firstF G 0 l=(0,0):=QY fun j x y=>by rw[XK];exact A.out j x (by have:=(Zi y).1;omega) y
   obtain⟨r0,r1,z0,z1⟩:=h.out.cells
   have D:=Qf (h.out.fin 0 0);go_wp2_with fail
   generalize World.setCell _ _ _=Q at D |-;exact Xy (v:=.agg #[Iv 0,Iv 0]) (by simp[results,results73,go_sem,Qb D.out.1 0 _ Yz,Qb D.out.1 1 _ Yz]) Yz ⟨by first | rfl | rw[E],D.out.2⟩
  have C:(q:Int)<l.length:=by omega
  have I:l[q]?=some l[q]:=Zg O;generalize l[q]=x at I;have N:=Qf I;obtain⟨g,o,z,rfl,H,V⟩:=QfB HL.out I
  have HI:=Qf V;have v0:=Qk (show w.cell? ⟨g,o+q*4,none⟩=_ from H 0 _ Yz) h.out.bel;have v1:=Qk (show w.cell? ⟨g,o+q*4+1,none⟩=_ from H 1 _ Yz) h.out.bel;have v2:=Qk (show w.cell? ⟨g,o+q*4+2,none⟩=_ from H 2 _ Yz) h.out.bel;have v3:=Qk (show w.cell? ⟨g,o+q*4+3,none⟩=_ from H 3 _ Yz) h.out.bel;have a:=Qf (h.out.new #[Iv x.regs,.slice z.pP x.params.length z.cP,.slice z.pR x.results.length z.cR,.slice z.pB x.blocks.length z.cB] 89);clear I H V;go_upto_region 4 with fail
  generalize J.alloc (.cells #[Iv x.regs,.slice z.pP x.params.length z.cP,.slice z.pR x.results.length z.cR,.slice z.pB x.blocks.length z.cB] 89)=w3 at a |-;generalize J.heap.size=Z at a |-;clear h v0 v1 v2 v3;have t0:=Qb (a.out.box 0 _ Yz) 0 _ Yz;have t1:=Qb (a.out.box 0 _ Yz) 1 _ Yz;have t2:=Qb (a.out.box 0 _ Yz) 2 _ Yz;have t3:=Qb (a.out.box 0 _ Yz) 3 _ Yz;have T:=Qf (HC.out q x z w3 N.out (HI.out.below a.out.bel) a.out.bel);unfold Rd at T;obtain⟨d,t,U⟩:∃ d t,G q x=(d,t):=⟨_,_,Yz⟩
  rw[U] at T
  have P:=Qf U;clear U;go_wp2_with fail
  refine T.out.mono ?_;rintro _ w8 ⟨rfl,X⟩;have m:=Qf ((a.out.below X).new #[Iv d,Iv t] 32);clear X a;simp only[QG]
  go_upto_region 5 with fail
  generalize w8.alloc (.cells #[Iv d,Iv t] 32)=w9 at m |-;generalize w8.heap.size=F8 at m |-;have f0:=Qb (m.out.box 0 _ Yz) 0 _ Yz;have f1:=Qb (m.out.box 0 _ Yz) 1 _ Yz;have L:Hid (FbS w w9 R []):=⟨m.out.bel,m.out.ge,m.out.r,fun i b hb=>by simp at hb⟩;clear m;by_cases e:d=0
  ·subst e;go_wp2
   go_roundw
   case rel =>
    refine⟨q+1,by omega,by go_num,L.out,fun j u y B=>?_⟩
    by_cases M:j<q
    ·exact A.out j u M B
    ·have:j=q:=by omega
     subst this;rw[N.out] at B
     cases B
     rw[P.out]
   case measure=>simp[intOf];omega
  ·have d9:(d != 0)=true:=by simpa using e
   have E:firstF G 0 l=(d,t):=by
    have W:=Qau (f:=G) (j:=0) N.out (fun j u y B=>by rw[XK];exact A.out j u y B) (by rw[XK,P.out];exact e);rw[XK,P.out] at W
    exact W
   clear e;obtain⟨r0,r1,z0,z1⟩:=L.out.cells
   have D:=Qf (L.out.fin d t);go_wp2_with fail
   generalize World.setCell _ _ _=Q at D |-;exact Xy (v:=.agg #[Iv d,Iv t]) (by simp[results,results73,go_sem,Qb D.out.1 0 _ Yz,Qb D.out.1 1 _ Yz]) Yz ⟨by first | rfl | rw[E],D.out.2⟩
abbrev iA (z:Qs) (zi:IP):Array Value:=#[Iv z.op,Iv z.a,Iv z.b,Iv z.c,Iv z.k,Iv z.n,.slice zi.pR z.regs.length zi.cR,.slice zi.pA z.args.length zi.cA]
abbrev fA {n:Nat}(x:MFunc n) (fp:FP):Array Value:=#[Iv x.regs,.slice fp.pP x.params.length fp.cP,.slice fp.pR x.results.length fp.cR,.slice fp.pB x.blocks.length fp.cB]
abbrev eA {n:Nat}(y:MBlock n) (bp:BP):Array Value:=#[Iv y.fin.op,Iv y.fin.a,Iv y.fin.yes.block,.slice bp.e.pYR y.fin.yes.regs.length bp.e.cYR,.slice bp.e.pYA y.fin.yes.args.length bp.e.cYA,Iv y.fin.no.block,.slice bp.e.pNR y.fin.no.regs.length bp.e.cNR,.slice bp.e.pNA y.fin.no.args.length bp.e.cNA,.slice bp.e.pA y.fin.args.length bp.e.cA]
abbrev bA {n:Nat}(y:MBlock n) (bp:BP):Array Value:=#[Iv y.regs,.slice bp.pP y.params.length bp.cP,.slice bp.pC y.code.length bp.cC,Iv y.fin.op,Iv y.fin.a,Iv y.fin.yes.block,.slice bp.e.pYR y.fin.yes.regs.length bp.e.cYR,.slice bp.e.pYA y.fin.yes.args.length bp.e.cYA,Iv y.fin.no.block,.slice bp.e.pNR y.fin.no.regs.length bp.e.cNR,.slice bp.e.pNA y.fin.no.args.length bp.e.cNA,.slice bp.e.pA y.fin.args.length bp.e.cA]
abbrev lA {n:Nat}(m:List (MFunc n)) (p:Option Addr) (c:Nat) (x:MFunc n) (fp:FP) (fi:Nat):Array Value:=#[.slice p m.length c,Iv x.regs,.slice fp.pP x.params.length fp.cP,.slice fp.pR x.results.length fp.cR,.slice fp.pB x.blocks.length fp.cB,Iv (fi:Int)]
theorem bkSizeE:(prog.info? 84).map (·.size)=some 9:=by kernel_rfl
def Qoi (w6:World) (Bc X q N c fi bi:Nat) (p:Option Addr) (z:Qs) (zi:IP) (vf vp v0 v1:Int) (t:Tmp) (v:Value) (w:World):Prop :=
 v=(([(2,Pv Bc 0),(4,Pv X 0),(0,Iv (q:Int)),(6,Pv Bc 0),(7,Pv Bc 0),(8,.agg #[.slice p N c]),(9,.agg (iA z zi)),(10,Iv vf),(11,Pv Bc 0),(12,Pv Bc 5),(13,Iv (fi:Int)),(14,Pv Bc 18),(15,Iv (bi:Int)),(16,Iv (q:Int)),(17,Iv vp),(18,.agg #[Iv v0,Iv v1])]:List (Tmp × Value)).lookup t).getD undef
theorem kd1 {Bc:Nat}{z:Qs}{y:IP}{u s x r:Int}(D:w6.cell? ⟨Bc,0,none⟩=some (.slice p N c)) (H:w6.cell? ⟨Bc,5,none⟩=some (Iv (fi:Int))) (o:w6.cell? ⟨Bc,18,none⟩=some (Iv (bi:Int))) (f:Hid (Blk w6 X (iA z y) 78)) (O:Hid (∀ w,Below w6.heap.size w6 w->Calls prog 184 #[.agg #[.slice p N c],.agg (iA z y)] w fun e w'=>e=.returned (Iv u)/\Below w.heap.size w w')) (L:Hid (∀ w,Below w6.heap.size w6 w->Calls prog 130 #[Iv (fi:Int),Iv (bi:Int),Iv (q:Int)] w fun e w'=>e=.returned (Iv s)/\Below w.heap.size w w')) (M:Hid (∀ w,Below w6.heap.size w6 w->Calls prog 117 #[Iv u,Iv s] w fun e w'=>e=.returned (.agg #[Iv x,Iv r])/\Below w.heap.size w w')){Q:Exit->Act->World->Prop}
 (a:Act) (m:Nat) (F:a.tmps.size=m) (l:19<=m) (G:a.tmps.getD 2 undef=Pv Bc 0) (I:a.tmps.getD 4 undef=Pv X 0) (E:a.tmps.getD 0 undef=Iv (q:Int))
 (hend:∀ ops vs w',vs 18=.agg #[Iv x,Iv r]->Below w6.heap.size w6 w'->wpList prog ops Q (Qam 13 ((Tryz.f183.body.bind (Qi 1)).getD .skip)) (QM a vs [6,7,8,9,10,11,12,13,14,15,16,17,18]) w') :
 Code.wp prog ((Tryz.f183.body.bind (Qi 1)).getD .skip) Q a w6:=by
 conv=>arg 2;whnf
 refine Qg 13 (Qoi w6 Bc X q N c fi bi p z y u s x r) (fun w=>Below w6.heap.size w6 w) (fun w w'=>Below w.heap.size w w') (outs:=[2,4,0]) (gs:=[]) (bs:=[true,true,true,true,true,true,true,true,true,true,true,true,true]) (by kernel_rfl) (n:=19) F l (by kernel_rfl) (by kernel_rfl) ?hR ?hG (QI Zr 1) ⟨G,I,E,Y⟩ ?hA ?hend
 case hR=>exact fun t v w w' _ h=>h
 case hG=>exact Y
 case hend=>exact fun ops vs w' b i=>hend ops vs w' (i 18 (by kernel_rfl)) b
 case hA =>
  repeat
   refine⟨fun a w b i K k=>?_,?_⟩
   focus first
    | obtain⟨g,-⟩:=i
      conv at g=>whnf;rhs;whnf
      have c0:=Qk D b;have V:=Qk (Qb f.out 0 _ Z) b;have P:=Qk (Qb f.out 1 _ Z) b;have T:=Qk (Qb f.out 2 _ Z) b;have R:=Qk (Qb f.out 3 _ Z) b;have W:=Qk (Qb f.out 4 _ Z) b;have c6:=Qk (Qb f.out 5 _ Z) b;have c7:=Qk (Qb f.out 6 _ Z) b;have U:=Qk (Qb f.out 7 _ Z) b;have S:=Qk H b;have C:=Qk o b;go_simp;exact k _ _ Zr b Z
    | obtain⟨g,j,-⟩:=i
      conv at g=>whnf;rhs;whnf
      conv at j=>whnf;rhs;whnf
      go_simp;refine Xm (O.out w b) ?_;rintro A B ⟨rfl,d⟩;go_simp;exact k _ _ d (b.trans (d.mono b.size)) Z
    | obtain⟨g,j,-⟩:=i
      conv at g=>whnf;rhs;whnf
      conv at j=>whnf;rhs;whnf
      go_simp;refine Xm (M.out w b) ?_;rintro A B ⟨rfl,d⟩;go_simp;exact k _ _ d (b.trans (d.mono b.size)) Z
    | obtain⟨g,j,J,-⟩:=i
      conv at g=>whnf;rhs;whnf
      conv at j=>whnf;rhs;whnf
      conv at J=>whnf;rhs;whnf
      go_simp;refine Xm (L.out w b) ?_;rintro A B ⟨rfl,d⟩;go_simp;exact k _ _ d (b.trans (d.mono b.size)) Z
  trivial
def Qn1 {n:Nat}(w6:World) (X fi bi:Nat) (x:MFunc n) (fp:FP) (y:MBlock n) (bp:BP) (vf vp v0 v1:Int) (t:Tmp) (v:Value) (w:World):Prop :=
 v=(([(1,Pv X 0),(26,Pv X 0),(27,Pv X 1),(28,.agg (fA x fp)),(29,Pv X 6),(30,Pv X 9),(31,.agg (eA y bp)),(32,Iv vf),(33,Pv X 0),(34,Pv X 5),(35,Iv (fi:Int)),(36,Pv X 18),(37,Iv (bi:Int)),(38,Iv vp),(39,.agg #[Iv v0,Iv v1])]:List (Tmp × Value)).lookup t).getD undef
theorem kd7 {m:List (MFunc n)}{x:MFunc n}{z:FP}{y:MBlock n}{k:BP}{u s B r:Int}(i:Hid (Blk w6 X (bkA m p c x z fi y k bi) 194)) (A:Hid (w6.rangeAt X 9 (eA y k).toList)) (J:Hid (∀ w,Below w6.heap.size w6 w->Calls prog 185 #[.agg (fA x z),.agg (eA y k)] w fun e w'=>e=.returned (Iv u)/\Below w.heap.size w w')) (H:Hid (∀ w,Below w6.heap.size w6 w->Calls prog 131 #[Iv (fi:Int),Iv (bi:Int)] w fun e w'=>e=.returned (Iv s)/\Below w.heap.size w w')) (I:Hid (∀ w,Below w6.heap.size w6 w->Calls prog 117 #[Iv u,Iv s] w fun e w'=>e=.returned (.agg #[Iv B,Iv r])/\Below w.heap.size w w')){Q:Exit->Act->World->Prop}
 (a:Act) (m:Nat) (F:a.tmps.size=m) (q:40<=m) (E:a.tmps.getD 1 undef=Pv X 0)
 (hend:∀ ops vs w',vs 39=.agg #[Iv B,Iv r]->Below w6.heap.size w6 w'->wpList prog ops Q (Qam 14 ((Tryz.f121.body.bind (Qi 7)).getD .skip)) (QM a vs [26,27,28,29,30,31,32,33,34,35,36,37,38,39]) w') :
 Code.wp prog ((Tryz.f121.body.bind (Qi 7)).getD .skip) Q a w6:=by
 conv=>arg 2;whnf
 refine Qg 14 (Qn1 w6 X fi bi x z y k u s B r) (fun w=>Below w6.heap.size w6 w) (fun w w'=>Below w.heap.size w w') (outs:=[1]) (gs:=[]) (bs:=[true,true,true,true,true,true,true,true,true,true,true,true,true,true]) (by kernel_rfl) (n:=40) F q (by kernel_rfl) (by kernel_rfl) ?hR ?hG (QI Zr 1) ⟨E,Y⟩ ?hA ?hend
 case hR=>exact fun t v w w' _ h=>h
 case hG=>exact Y
 case hend=>exact fun ops vs w' b g=>hend ops vs w' (g 39 (by kernel_rfl)) b
 case hA =>
  repeat
   refine⟨fun a w b g K l=>?_,?_⟩
   focus first
    | obtain⟨d,-⟩:=g
      conv at d=>whnf;rhs;whnf
      have R:=Qk (Qb i.out 1 _ Z) b;have O:=Qk (Qb i.out 2 _ Z) b;have L:=Qk (Qb i.out 3 _ Z) b;have N:=Qk (Qb i.out 4 _ Z) b;have M:=Qk (Qb i.out 5 _ Z) b;have P:=Qk (Qb i.out 18 _ Z) b;go_simp;exact l _ _ Zr b Z
    | obtain⟨d,-⟩:=g
      conv at d=>whnf;rhs;whnf
      exact wp_load_mid 84 (.tmp 30) Z X 9 d (eA y k).toList _ (fun j v G=>Qk (A.out j v G) b) underlying84 Z bkSizeE (l _ _ Zr b Z)
    | obtain⟨d,o,-⟩:=g
      conv at d=>whnf;rhs;whnf
      conv at o=>whnf;rhs;whnf
      go_simp;refine Xm (J.out w b) ?_;rintro C D ⟨rfl,f⟩;go_simp;exact l _ _ f (b.trans (f.mono b.size)) Z
    | obtain⟨d,o,-⟩:=g
      conv at d=>whnf;rhs;whnf
      conv at o=>whnf;rhs;whnf
      go_simp;refine Xm (H.out w b) ?_;rintro C D ⟨rfl,f⟩;go_simp;exact l _ _ f (b.trans (f.mono b.size)) Z
    | obtain⟨d,o,-⟩:=g
      conv at d=>whnf;rhs;whnf
      conv at o=>whnf;rhs;whnf
      go_simp;refine Xm (I.out w b) ?_;rintro C D ⟨rfl,f⟩;go_simp;exact l _ _ f (b.trans (f.mono b.size)) Z
  trivial
theorem QiK {m:List (MFunc n)}{x:MFunc n}{E:FP}{y:MBlock n}{A:BP}{Bc:Nat}{z:Qs}{h:IP}(D:q<1000000) (N:m.length<=100000) (s:fi<1000000) (l:bi<1000000) (d:Blk w Bc (bkA m p c x E fi y A bi) 194) :
 Rd prog 183 #[Iv (q:Int),.agg (iA z h),Pv Bc 0] w (QG (atF (z.form m.length) (10000*(fi:Int)+100*(bi:Int)+(q:Int)))):=by
 have f:=((Bxs.start w).new (iA z h) 78).new #[Iv 0,Iv 0] 32;rw[World.size_alloc] at f
 have f:=Qf f;have C:=Qf d;have I:Hid (∀ b:World,Calls prog 184 #[.agg #[.slice p m.length c],.agg (iA z h)] b fun e i=>e=.returned (Iv (z.form m.length))/\Below b.heap.size b i):=fun b=>Qgv m.length z h p c b (by omega);have F:Hid (∀ b:World,Calls prog 130 #[Iv (fi:Int),Iv (bi:Int),Iv (q:Int)] b fun e i=>e=.returned (Iv (10000*(fi:Int)+100*(bi:Int)+(q:Int)))/\Below b.heap.size b i):=fun b=>QdM ⟨s,l,D⟩;have u:Hid (∀ b:World,Calls prog 117 #[Iv (z.form m.length),Iv (10000*(fi:Int)+100*(bi:Int)+(q:Int))] b fun e i=>e=.returned (.agg #[Iv (atF (z.form m.length) (10000*(fi:Int)+100*(bi:Int)+(q:Int))).1,Iv (atF (z.form m.length) (10000*(fi:Int)+100*(bi:Int)+(q:Int))).2])/\Below b.heap.size b i):=fun b=>Qbk;generalize H:atF (z.form m.length) (10000*(fi:Int)+100*(bi:Int)+(q:Int))=v at u |-;clear d H;unfold Rd;go_enter func183,ntmps183
 go_upto_region 1 with fail
 generalize (w.alloc (.cells (iA z h) 78)).alloc (.cells #[Iv 0,Iv 0] 32)=J at f |-;generalize w.heap.size+1=R at f |-;generalize w.heap.size=X at f |-;have g:=Qf (C.out.below f.out.bel);refine kd1 (Qb g.out 0 _ Z) (Qb g.out 5 _ Z) (Qb g.out 18 _ Z) (f.out.at (a:=[_])) (fun b _=>I.out b) (fun b _=>F.out b) (fun b _=>u.out b) _ _ Z (Xg (by kernel_rfl)) Z Z Z ?_;rintro r G B j t;have k:=Qf (f.out.below t);clear t f g;show wpList _ r _ [_] (QM _ G [6,7,8,9,10,11,12,13,14,15,16,17,18]) B;simp only[QM,Act.put,List.setIfInBounds_toArray,List.set_cons_zero,List.set_cons_succ,j]
 have O:=k.out.cell (a:=[]) 0 _ Z;have K:=k.out.cell (a:=[]) 1 _ Z;have L:=k.out.free (a:=[]) 0;have M:=k.out.free (a:=[]) 1;have o:=Qf ((k.out.set (a:=[]) 0 (Iv (v.1))).set (a:=[]) 1 (Iv (v.2)));go_wp2
 exact Xy (v:=QG v) (by simp[results,results183,go_sem,o.out.cell (a:=[]) 0 _ Z,o.out.cell (a:=[]) 1 _ Z]) Z ⟨Z,o.out.bel⟩
theorem QcQ {m:List (MFunc n)}{x:MFunc n}{t:FP}{y:MBlock n}{k:BP}(H:FIn w All x t) (A:x.small) (I:BIn w All y k) (q:y.small) (hm:m.length<=100000) (C:fi<1000000) (s:bi<1000000) :
 Rd prog 121 #[.agg (bkA m p c x t fi y k bi)] w (QG (MBlock.fault m.length fi x bi y)):=by
 have r:=((Bxs.start w).new (bkA m p c x t fi y k bi) 194).new #[Iv 0,Iv 0] 32;rw[World.size_alloc] at r
 have r:=Qf r;have HB:=Qf (Xh hm (Xh C s));have G:=Qf (Xh H (Xh A (Xh I q)));have g:=Qf (MBlock.fault_eq m.length fi x bi y);have EI:=QeW (f:=fun i z=>(Qs.form m.length z,(10000*(fi:Int)+100*(bi:Int)+(i:Int)))) (l:=y.code) (j:=0);dsimp only at EI
 have CC:Hid (∀ b,Below w.heap.size w b->Calls prog 180 #[.agg (bkA m p c x t fi y k bi)] b fun e B=>e=.returned (Iv (y.code' x bi))/\Below b.heap.size b B):=fun b bx=>Qd3 (H.below bx) A (I.below bx) q;have CF:Hid (∀ (Q S:Int) (b:World),Calls prog 117 #[Iv Q,Iv S] b fun e B=>e=.returned (.agg #[Iv (atF Q S).1,Iv (atF Q S).2])/\Below b.heap.size b B):=fun Q S b=>Qbk;have CB:Hid (∀ b:World,Calls prog 181 #[Iv (fi:Int),Iv (bi:Int)] b fun e B=>e=.returned (Iv (10000*(fi:Int)+100*(bi:Int)+90))/\Below b.heap.size b B):=fun b=>Qfj ⟨C,s⟩;have CA:Hid (∀ b:World,Calls prog 131 #[Iv (fi:Int),Iv (bi:Int)] b fun e B=>e=.returned (Iv (10000*(fi:Int)+100*(bi:Int)+91))/\Below b.heap.size b B):=fun b=>Qdz ⟨C,s⟩;have CE:Hid (∀ b:World,Calls prog 185 #[.agg (fA x t),.agg (eA y k)] b fun e B=>e=.returned (Iv (y.fin.form x.blocks.length))/\Below b.heap.size b B):=fun b=>QgK (by obtain⟨a1,a2⟩:=q.2.2.1.1;obtain⟨a3,a4⟩:=q.2.2.1.2.1;exact⟨by omega,by omega,by omega,by omega⟩) (by have:=A.1;omega);rw[<-EI] at g
 have g:=Qf g.out;generalize MBlock.fault m.length fi x bi y=V at g |-;generalize y.code' x bi=v at g CC;clear H A I q hm C s EI;unfold Rd;go_enter func121,ntmps121
 go_upto_region 1 with fail
 generalize (w.alloc (.cells (bkA m p c x t fi y k bi) 194)).alloc (.cells #[Iv 0,Iv 0] 32)=w1 at r |-;generalize w.heap.size+1=R at r |-;generalize w.heap.size=X at r |-;have RG:=Qf (Blk.range (c:=(bkA m p c x t fi y k bi).toList) (r.out.at (a:=[_])));go_wp2_with (refine ZL Z 194 (.tmp 1) Z X 0 Z (bkA m p c x t fi y k bi).toList _ RG.out underlying194 Z bkSize ?_)
 refine(CC.out w1 r.out.bel).mono ?_
 rintro W O ⟨rfl,b2⟩;have u:=Qf (r.out.below b2);clear b2 RG r CC;have x5:O.cell? ⟨X,5,none⟩=some (Iv (fi:Int)):=u.out.cell (a:=[_]) 5 _ Z;have x8:O.cell? ⟨X,8,none⟩=some (.slice k.pC y.code.length k.cC):=u.out.cell (a:=[_]) 8 _ Z;have M:O.cell? ⟨X,18,none⟩=some (Iv (bi:Int)):=u.out.cell (a:=[_]) 18 _ Z;by_cases K:v=0
 rotate_left
 ·have E:=Qf (g.out.trans (Xr K));have dv:(v != 0)=true:=bne_iff_ne.2 K;have HV:=Qf K;clear K g CE CA;go_wp2_with fail
  refine(CB.out O).mono ?_
  rintro W T ⟨rfl,L⟩;have d:=Qf (u.out.below L);clear L u x5 x8 M;go_wp2_with fail
  refine(CF.out v (10000*(fi:Int)+100*(bi:Int)+90) T).mono ?_
  rintro W w4 ⟨rfl,b4⟩;have N:=Qf (d.out.below b4);clear b4 d;have EA:Hid (atF v (10000*(fi:Int)+100*(bi:Int)+90)=V):=(Xr HV.out).trans E.out.symm;rw[EA.out]
  have r0:=N.out.cell (a:=[]) 0 _ Z;have r1:=N.out.cell (a:=[]) 1 _ Z;have z0:=N.out.free (a:=[]) 0;have z1:=N.out.free (a:=[]) 1;have o:=Qf ((N.out.set (a:=[]) 0 (Iv (V.1))).set (a:=[]) 1 (Iv (V.2)));go_wp2
  exact Xy (v:=QG V) (by simp[results,results121,go_sem,o.out.cell (a:=[]) 0 _ Z,o.out.cell (a:=[]) 1 _ Z]) Z ⟨Z,o.out.bel⟩
 replace g:=Qf (g.out.trans (Xs K));subst K;have U:=Qf (Qjl (w:=O) (Bc:=X) (fun i z=>atF (Qs.form m.length z) (10000*(fi:Int)+100*(bi:Int)+(i:Int))) (Ya G.out.2.2.1.code u.out.bel) (by have:=G.out.2.2.2.1;omega) (fun i z zi b hz hi hb=>QiK (y:=y) (by have h8:=G.out.2.2.2.1;have h9:=(Zi hz).1;omega) HB.out.1 HB.out.2.1 HB.out.2.2 ((u.out.at (a:=[_])).below hb)));unfold Rd at U;generalize firstF (fun i z=>atF (Qs.form m.length z) (10000*(fi:Int)+100*(bi:Int)+(i:Int))) 0 y.code=h at g U;go_wp2_with fail
 refine U.out.mono ?_;rintro W T ⟨rfl,L⟩;have d:=Qf ((u.out.below L).new #[Iv h.1,Iv h.2] 32);clear L u x5 x8 M U;go_upto_region 5 with fail
 generalize T.alloc (.cells #[Iv h.1,Iv h.2] 32)=w4 at d |-;generalize T.heap.size=F at d |-;have y0:w4.cell? ⟨F,0,none⟩=some (Iv h.1):=d.out.cell (a:=[]) 0 _ Z;have y1:w4.cell? ⟨F,1,none⟩=some (Iv h.2):=d.out.cell (a:=[]) 1 _ Z;by_cases J:h.1=0
 rotate_left
 ·have E:=Qf (g.out.trans (Xr J));have df:(h.1 != 0)=true:=bne_iff_ne.2 J;clear J g;have r0:=d.out.cell (a:=[_]) 0 _ Z;have r1:=d.out.cell (a:=[_]) 1 _ Z;have z0:=d.out.free (a:=[_]) 0;have z1:=d.out.free (a:=[_]) 1;have o:=Qf ((d.out.set (a:=[_]) 0 (Iv (h.1))).set (a:=[_]) 1 (Iv (h.2)));go_wp2
  exact Xy (v:=QG h) (by simp[results,results121,go_sem,o.out.cell (a:=[_]) 0 _ Z,o.out.cell (a:=[_]) 1 _ Z]) Z ⟨by rw[E.out],o.out.bel⟩
 have E:=Qf (g.out.trans (Xs J));have df:(h.1 != 0)=false:=by simpa using J
 clear J g;go_upto_region 7 with fail
 clear y0 y1;have HX:=Qf (d.out.at (a:=[_,_]));refine kd7 HX (fun j v hj=>by have h8:=(Blk.range (c:=(bkA m p c x t fi y k bi).toList) HX.out) (9+j) v (by rcases j with _ | _ | _ | _ | _ | _ | _ | _ | _ | j<;>first | exact hj | simp at hj);rwa [XK] at h8) (fun b _=>CE.out b) (fun b _=>CA.out b) (fun b _=>CF.out _ _ b) _ _ Z (Xg (by kernel_rfl)) Z ?_;rintro aa vs w5 D b5;have P:=Qf (d.out.below b5);clear b5 d HX;rw[<-E.out] at D
 show wpList _ aa _ [_] (QM _ vs [26,27,28,29,30,31,32,33,34,35,36,37,38,39]) w5;simp only[QM,Act.put,List.setIfInBounds_toArray,List.set_cons_zero,List.set_cons_succ,D]
 have r0:=P.out.cell (a:=[_]) 0 _ Z;have r1:=P.out.cell (a:=[_]) 1 _ Z;have z0:=P.out.free (a:=[_]) 0;have z1:=P.out.free (a:=[_]) 1;have o:=Qf ((P.out.set (a:=[_]) 0 (Iv (V.1))).set (a:=[_]) 1 (Iv (V.2)));go_wp2
 exact Xy (v:=QG V) (by simp[results,results121,go_sem,o.out.cell (a:=[_]) 0 _ Z,o.out.cell (a:=[_]) 1 _ Z]) Z ⟨Z,o.out.bel⟩
theorem Qi8 {m:List (MFunc n)}{x:MFunc n}{i:FP}{y:MBlock n}{f:BP}(g:FIn w All x i) (l:x.small) (q:BIn w All y f) (o:y.small){Bc:Nat}(B:m.length<=100000) (r:fi<1000000) (h:bi<1000000) (b:Blk w Bc (lA m p c x i fi) 139) :
 Rd prog 120 #[Iv (bi:Int),.agg (bA y f),Pv Bc 0] w (QG (MBlock.fault m.length fi x bi y)):=by
 have d:=((Bxs.start w).new (bA y f) 86).new #[Iv 0,Iv 0] 32;rw[World.size_alloc] at d
 have d:=Qf d;have E:=Qf b;have s:Hid (∀ k,Below w.heap.size w k->Calls prog 121 #[.agg (bkA m p c x i fi y f bi)] k fun e F=>e=.returned (QG (MBlock.fault m.length fi x bi y))/\Below k.heap.size k F):=fun k C=>QcQ (g.below C) l (q.below C) o B r h;generalize MBlock.fault m.length fi x bi y=V at s |-;clear g l q o B r h b;unfold Rd;go_enter func120,ntmps120
 go_upto_region 1 with fail
 generalize (w.alloc (.cells (bA y f) 86)).alloc (.cells #[Iv 0,Iv 0] 32)=D at d |-;generalize w.heap.size+1=R at d |-;generalize w.heap.size=X at d |-;have u:=Qf (Blk.range (c:=(bA y f).toList) (d.out.at (a:=[_])));have A:=Qf (Blk.range (c:=(lA m p c x i fi).toList) (E.out.below d.out.bel));go_wp2_with (first | refine ZL Z 139 (.tmp 2) Z Bc 0 Z (lA m p c x i fi).toList _ A.out underlying139 Z (by kernel_rfl) ?_ | refine ZL Z 86 (.tmp 4) Z X 0 Z (bA y f).toList _ u.out underlying86 Z pSizeB ?_)
 refine(s.out D d.out.bel).mono ?_
 rintro G L ⟨rfl,z⟩;have j:=Qf (d.out.below z);clear z u A d s;have K:=j.out.cell (a:=[]) 0 _ Z;have H:=j.out.cell (a:=[]) 1 _ Z;have I:=j.out.free (a:=[]) 0;have J:=j.out.free (a:=[]) 1;have t:=Qf ((j.out.set (a:=[]) 0 (Iv (V.1))).set (a:=[]) 1 (Iv (V.2)));go_wp2
 exact Xy (v:=QG V) (by simp[results,results120,go_sem,t.out.cell (a:=[]) 0 _ Z,t.out.cell (a:=[]) 1 _ Z]) Z ⟨Z,t.out.bel⟩
theorem Qdo {m:List (MFunc n)}{x:MFunc n}{j:FP}(o:FIn w All x j) (r:x.small) (N:m.length<=100000) (s:fi<1000000) :
 Rd prog 75 #[.agg (lA m p c x j fi)] w (QG (MFunc.fault m.length fi x)):=by
 have g:=((Bxs.start w).new (lA m p c x j fi) 139).new #[Iv 0,Iv 0] 32;rw[World.size_alloc] at g
 have g:=Qf g;have O:=Qf (Xh N s);have f:=Qf (Xh o r);have l:=Qf (MFunc.fault_eq m.length fi x);have H:Hid (∀ d,Below w.heap.size w d->Calls prog 116 #[.agg (lA m p c x j fi)] d fun e A=>e=.returned (Iv (x.code fi))/\Below d.heap.size d A):=fun d bx=>Qe0 (o.below bx) r;have CF:Hid (∀ (B C:Int) (d:World),Calls prog 117 #[Iv B,Iv C] d fun e A=>e=.returned (.agg #[Iv (atF B C).1,Iv (atF B C).2])/\Below d.heap.size d A):=fun B C d=>Qbk;have CA:Hid (∀ d:World,Calls prog 118 #[Iv (fi:Int)] d fun e A=>e=.returned (Iv (10000*(fi:Int)+9999))/\Below d.heap.size d A):=fun d=>Qfx s;generalize MFunc.fault m.length fi x=V at l |-;generalize x.code fi=v at l H;clear o r N s;unfold Rd;go_enter func75,ntmps75
 go_upto_region 1 with fail
 generalize (w.alloc (.cells (lA m p c x j fi) 139)).alloc (.cells #[Iv 0,Iv 0] 32)=T at g |-;generalize w.heap.size+1=R at g |-;generalize w.heap.size=X at g |-;have I:=Qf (Blk.range (c:=(lA m p c x j fi).toList) (g.out.at (a:=[_])));go_wp2_with (refine ZL Z 139 (.tmp 1) Z X 0 Z (lA m p c x j fi).toList _ I.out underlying139 Z (by kernel_rfl) ?_)
 refine(H.out T g.out.bel).mono ?_
 rintro G F ⟨rfl,J⟩;have h:=Qf (g.out.below J);clear J I g H;have S:F.cell? ⟨X,4,none⟩=some (.slice j.pB x.blocks.length j.cB):=h.out.cell (a:=[_]) 4 _ Z;have M:F.cell? ⟨X,5,none⟩=some (Iv (fi:Int)):=h.out.cell (a:=[_]) 5 _ Z;by_cases t:v=0
 rotate_left
 ·have E:=Qf (l.out.trans (Xr t));have dv:(v != 0)=true:=bne_iff_ne.2 t;have HV:=Qf t;clear t l;go_wp2_with fail
  refine(CA.out F).mono ?_
  rintro G P ⟨rfl,u⟩;have k:=Qf (h.out.below u);clear u h S M;go_wp2_with fail
  refine(CF.out v (10000*(fi:Int)+9999) P).mono ?_
  rintro G w4 ⟨rfl,K⟩;have z:=Qf (k.out.below K);clear K k;have U:Hid (atF v (10000*(fi:Int)+9999)=V):=(Xr HV.out).trans E.out.symm;rw[U.out]
  have r0:=z.out.cell (a:=[]) 0 _ Z;have W:=z.out.cell (a:=[]) 1 _ Z;have z0:=z.out.free (a:=[]) 0;have z1:=z.out.free (a:=[]) 1;have q:=Qf ((z.out.set (a:=[]) 0 (Iv (V.1))).set (a:=[]) 1 (Iv (V.2)));go_wp2
  exact Xy (v:=QG V) (by simp[results,results75,go_sem,q.out.cell (a:=[]) 0 _ Z,q.out.cell (a:=[]) 1 _ Z]) Z ⟨Z,q.out.bel⟩
 replace l:=Qf (l.out.trans (Xs t));subst t;have D:=Qf (QfW (w:=F) (Bc:=X) (fun b y=>MBlock.fault m.length fi x b y) (Ya f.out.1.blocks h.out.bel) (by have:=f.out.2.1;omega) (fun i y bp d Q hi L=>Qi8 (f.out.1.below (h.out.bel.trans (L.mono h.out.bel.size))) f.out.2 hi (f.out.2.2.2.2 y (Zm Q)) O.out.1 O.out.2 (by have h8:=f.out.2.1;have h9:=(Zi Q).1;omega) ((h.out.at (a:=[_])).below L)));unfold Rd at D;rw[<-l.out] at D
 go_wp2_with fail
 refine D.out.mono ?_;rintro G P ⟨rfl,u⟩;have k:=Qf (h.out.below u);clear u h S M D;have r0:=k.out.cell (a:=[]) 0 _ Z;have W:=k.out.cell (a:=[]) 1 _ Z;have z0:=k.out.free (a:=[]) 0;have z1:=k.out.free (a:=[]) 1;have q:=Qf ((k.out.set (a:=[]) 0 (Iv (V.1))).set (a:=[]) 1 (Iv (V.2)));go_wp2
 exact Xy (v:=QG V) (by simp[results,results75,go_sem,q.out.cell (a:=[]) 0 _ Z,q.out.cell (a:=[]) 1 _ Z]) Z ⟨Z,q.out.bel⟩
theorem Qjc {m:List (MFunc n)}{x:MFunc n}{f:FP}(g:FIn w All x f) (j:x.small){Bc:Nat}(s:m.length<=100000) (k:fi<1000000) (b:Blk w Bc #[.slice p m.length c] 24) :
 Rd prog 74 #[Iv (fi:Int),.agg (fA x f),Pv Bc 0] w (QG (MFunc.fault m.length fi x)):=by
 have d:=((Bxs.start w).new (fA x f) 89).new #[Iv 0,Iv 0] 32;rw[World.size_alloc] at d
 have d:=Qf d;have y:=Qf b;have l:Hid (∀ i,Below w.heap.size w i->Calls prog 75 #[.agg (lA m p c x f fi)] i fun e z=>e=.returned (QG (MFunc.fault m.length fi x))/\Below i.heap.size i z):=fun i A=>Qdo (g.below A) j s k;generalize MFunc.fault m.length fi x=V at l |-;clear g j s k b;unfold Rd;go_enter func74,ntmps74
 go_upto_region 1 with fail
 generalize (w.alloc (.cells (fA x f) 89)).alloc (.cells #[Iv 0,Iv 0] 32)=t at d |-;generalize w.heap.size+1=R at d |-;generalize w.heap.size=X at d |-;have u:=Qb (y.out.below d.out.bel) 0 _ Z;have q:=Qf (Blk.range (c:=(fA x f).toList) (d.out.at (a:=[_])));go_wp2_with (refine ZL Z 89 (.tmp 4) Z X 0 Z (fA x f).toList _ q.out underlying89 Z (by kernel_rfl) ?_)
 refine(l.out t d.out.bel).mono ?_
 rintro B G ⟨rfl,r⟩;have h:=Qf (d.out.below r);clear r q d l u;have F:=h.out.cell (a:=[]) 0 _ Z;have C:=h.out.cell (a:=[]) 1 _ Z;have D:=h.out.free (a:=[]) 0;have E:=h.out.free (a:=[]) 1;have o:=Qf ((h.out.set (a:=[]) 0 (Iv (V.1))).set (a:=[]) 1 (Iv (V.2)));go_wp2
 exact Xy (v:=QG V) (by simp[results,results74,go_sem,o.out.cell (a:=[]) 0 _ Z,o.out.cell (a:=[]) 1 _ Z]) Z ⟨Z,o.out.bel⟩
theorem Qb4 {m:List (MFunc n)}(h:(QaN n).In w All m [.slice p m.length c]) (e:Qbe m) :
 Rd prog 44 #[.agg #[.slice p m.length c]] w (QG (modFault m)):=by
 have b:=((Bxs.start w).new #[.slice p m.length c] 24).new #[Iv 0,Iv 0] 32;rw[World.size_alloc] at b
 have b:=Qf b;have D:=Qf h;have o:=Qf e;have g:Hid (modFault m=if m.length<1\/8<m.length then (2,-1) else firstF (fun f x=>MFunc.fault m.length f x) 0 m):=rfl;have G:=e.1;generalize modFault m=V at g |-;clear h e;unfold Rd;go_enter func44,ntmps44
 go_upto_region 1 with fail
 generalize (w.alloc (.cells #[.slice p m.length c] 24)).alloc (.cells #[Iv 0,Iv 0] 32)=q at b |-;generalize w.heap.size+1=R at b |-;generalize w.heap.size=X at b |-;have A:q.cell? ⟨X,0,none⟩=some (.slice p m.length c):=b.out.cell (a:=[_]) 0 _ Z;by_cases j:m.length<1\/8<m.length
 ·have E:=Qf (g.out.trans (Xs j));clear g;have H:=b.out.cell (a:=[]) 0 _ Z;have z:=b.out.cell (a:=[]) 1 _ Z;have B:=b.out.free (a:=[]) 0;have C:=b.out.free (a:=[]) 1;by_cases s:m.length<1
  ·have t:decide ((m.length:Int)<1)=true:=Xt (by omega);clear s j;have d:=Qf ((b.out.set (a:=[]) 0 (Iv (2))).set (a:=[]) 1 (Iv (-1)));go_wp2
   exact Xy (v:=QG V) (by simp[results,results44,go_sem,d.out.cell (a:=[]) 0 _ Z,d.out.cell (a:=[]) 1 _ Z,E.out]) Z ⟨Z,d.out.bel⟩
  ·have t:decide ((m.length:Int)<1)=false:=Xu (by omega);have y:decide ((m.length:Int)>8)=true:=Xt (by omega);clear s j;have d:=Qf ((b.out.set (a:=[]) 0 (Iv (2))).set (a:=[]) 1 (Iv (-1)));go_wp2
   exact Xy (v:=QG V) (by simp[results,results44,go_sem,d.out.cell (a:=[]) 0 _ Z,d.out.cell (a:=[]) 1 _ Z,E.out]) Z ⟨Z,d.out.bel⟩
 replace g:=Qf (g.out.trans (Xr j));have t:decide ((m.length:Int)<1)=false:=Xu (by omega);have y:decide ((m.length:Int)>8)=false:=Xu (by omega);clear j;have l:=Qf (Qg1 (w:=q) (Bc:=X) (fun f x=>MFunc.fault m.length f x) (Ya D.out b.out.bel) (by omega) (fun i x K N u I F=>Qjc I (o.out.2 x (Zm u)) o.out.1 (by have M:=o.out.1;have L:=(Zi u).1;omega) ((b.out.at (a:=[_])).below F)));unfold Rd at l;rw[<-g.out] at l
 go_wp2_with fail
 refine l.out.mono ?_;rintro J O ⟨rfl,r⟩;have k:=Qf (b.out.below r);clear r b A l;have H:=k.out.cell (a:=[]) 0 _ Z;have z:=k.out.cell (a:=[]) 1 _ Z;have B:=k.out.free (a:=[]) 0;have C:=k.out.free (a:=[]) 1;have d:=Qf ((k.out.set (a:=[]) 0 (Iv (V.1))).set (a:=[]) 1 (Iv (V.2)));go_wp2
 exact Xy (v:=QG V) (by simp[results,results44,go_sem,d.out.cell (a:=[]) 0 _ Z,d.out.cell (a:=[]) 1 _ Z]) Z ⟨Z,d.out.bel⟩
def Qcw (w:World) (a:Option Addr) (l:List Int):Prop:=∀ i x,l[i]?=some x->∃ g o,a=some ⟨g,o,none⟩/\w.cell? ⟨g,o+i,none⟩=some (Iv x)
theorem Qcw.below (h:Qcw w a l) (b:Below w.heap.size w w'):Qcw w' a l:=fun i x c=>by
 obtain⟨g,o,e,d⟩:=h i x c
 exact⟨g,o,e,Qk d b⟩
theorem QiZ.lg {lo:Nat}(h:QiZ lo l (.slice a n c) w):n=l.length/\Qcw w a l:=by
 obtain⟨q,m,e,p,j,r⟩:=h
 simp only[Value.slice.injEq] at e
 obtain⟨rfl,rfl,rfl⟩:=e
 refine⟨Z,fun i x b=>?_⟩
 have s:=(Zi b).1;rcases j.2 with ⟨e,t⟩|⟨g,u,k,e,-,o,-,-,-,f⟩
 ·omega
 ·simp only[Value.slice.injEq] at e
  have d:(l.map (Value.int .i64))[i]?=some (Iv x):=by simp[b]
  rw[<-f,XR,Xs (by omega)] at d
  exact⟨g,0,e.1,Qb o _ _ (by rw[XK];simpa using d)⟩
theorem Qcw.nil (w:World) (a:Option Addr):Qcw w a []:=fun i x b=>by simp at b
theorem Qf6 {b:Option Addr}(n:l.length=N) (v:N<=100000) (q:Qcw w a l) (j:Qcw w b l) :
 Calls prog 28 #[.slice a N c,.slice b N d] w fun e w'=>e=.returned (.bool true)/\∃ m,w'=w.drewN m:=by
 have u:=Qc q;have r:=Qc j;have p:Hid (l.length=N):=n;clear q j n;go_enter func28,ntmps28
 go_wp2
 go_loopw [5] (fun i wr=>∃ k m:Nat,k<=N/\i=Iv k/\wr=w.drewN m) (fun i _=>N - (intOf i).toNat)
 case atStart=>exact⟨0,0,Xb _,Z,Z⟩
 case round =>
  obtain⟨k,m,z,rfl,rfl⟩:=hrel
  by_cases h:k<N
  ·have f:l[k]?=some (l[k]'(by rw[p.out];exact h)):=Zg _;generalize l[k]'(by rw[p.out];exact h)=y at f;obtain⟨g,o,rfl,A⟩:=u.out k y f
   obtain⟨B,C,rfl,t⟩:=r.out k y f
   have s:(k:Int)<N:=by omega
   have x:(0:Int)<=k:=by omega
   clear f;go_wp2_with fail
   go_quiet (fail)
   go_wp2
   go_roundw
   case rel=>exact⟨k+1,_,by omega,by go_num,Z⟩
   case measure=>simp[intOf];omega
  ·go_wp2
   go_ret;exact⟨Z,_,Z⟩
theorem Qcj {b:Option Addr}(i:l.length=N) (f:N<=100000) (k:Qcw w a l) (g:Qcw w b l) :
 Calls prog 28 #[.slice a N c,.slice b N d] w fun e w'=>e=.returned (.bool true)/\Below w.heap.size w w' :=
 (Qf6 i f k g).mono fun e w' ⟨h,m,j⟩=>⟨h,by rw[j];exact QI Zr _⟩
theorem Qb0 {fin fuel:Int}{r:List Int}{a' b g:Option Addr}{c' j:Nat}(I:l.length<=100000) (H:r.length<=100000) (v:Qcw w a l) (x:Qcw w a' l) (y:Qcw w b r) (z:Qcw w g r) :
 Calls prog 26 #[.agg #[Iv fin,.slice a l.length c,.slice b r.length d,Iv fuel],.agg #[Iv fin,.slice a' l.length c',.slice g r.length j,Iv fuel]] w fun e w'=>e=.returned (.bool true)/\Below w.heap.size w w':=by
 have A:Hid (∀ f,Below w.heap.size w f->Calls prog 28 #[.slice a l.length c,.slice a' l.length c'] f fun e w'=>e=.returned (.bool true)/\Below f.heap.size f w'):=fun f n=>Qcj Z I (v.below n) (x.below n);have B:Hid (∀ f,Below w.heap.size w f->Calls prog 28 #[.slice b r.length d,.slice g r.length j] f fun e w'=>e=.returned (.bool true)/\Below f.heap.size f w'):=fun f n=>Qcj Z H (y.below n) (z.below n);have m:=Qc (Qk8 w (.cells #[Iv fin,.slice a l.length c,.slice b r.length d,Iv fuel] 44) (.cells #[Iv fin,.slice a' l.length c',.slice g r.length j,Iv fuel] 44));clear v x y z;go_enter func26,ntmps26
 go_upto_region 1 with fail
 have i:=QnO w #[Iv fin,.slice a l.length c,.slice b r.length d,Iv fuel] 44 (.cells #[Iv fin,.slice a' l.length c',.slice g r.length j,Iv fuel] 44);have h:=QmU w (.cells #[Iv fin,.slice a l.length c,.slice b r.length d,Iv fuel] 44) #[Iv fin,.slice a' l.length c',.slice g r.length j,Iv fuel] 44;generalize (w.alloc (.cells #[Iv fin,.slice a l.length c,.slice b r.length d,Iv fuel] 44)).alloc (.cells #[Iv fin,.slice a' l.length c',.slice g r.length j,Iv fuel] 44)=C at m i h |-;generalize w.heap.size+1=Y at h |-;generalize w.heap.size=X at i |-;have G:=Qb i 0 _ Z;have E:=Qb i 1 _ Z;have u:=Qb i 2 _ Z;have p:=Qb i 3 _ Z;have D:=Qb h 0 _ Z;have J:=Qb h 1 _ Z;have t:=Qb h 2 _ Z;have s:=Qb h 3 _ Z;clear i h;go_wp2_with fail
 refine(A.out C m.out).mono ?_
 rintro L K ⟨rfl,k⟩;have q:=Qc (m.out.trans (k.mono m.out.size));have u:=Qk u k;have t:=Qk t k;have p:=Qk p k;have s:=Qk s k;clear A G E D J k m;go_wp2_with fail
 refine(B.out K q.out).mono ?_
 rintro M N ⟨rfl,o⟩;have F:=Qc (q.out.trans (o.mono q.out.size));have p:=Qk p o;have s:=Qk s o;clear B u t o q;go_wp2
 go_ret;exact⟨Z,F.out⟩
abbrev Qh9 (c a:Int):Value:=.tuple #[.agg #[Iv 0,Nv,Nv,Iv 0],Qbw c a]
def Qew (c0 a0:Int) (n:Nat) (fu pg:Int) (c a:Int):Prop:=(c0≠0/\c=c0/\a=a0)\/(c0=0/\(200<n\/fu<0\/20000<fu\/pg<0\/64<pg)/\c=1/\a=-1)
theorem Qew.ne {c0 a0:Int}{fu pg c a:Int}(h:Qew c0 a0 n fu pg c a):c≠0:=by
 rcases h with ⟨h,rfl,-⟩|⟨-,-,rfl,-⟩
 ·exact h
 ·decide
theorem Qh6 {ml:Nat}{fu pg c a c0 a0:Int}(P:∀ wx,Below w.heap.size w wx->Calls prog 66 #[.agg #[.slice pm ml cm]] wx fun e w'=>e=.returned (Qbw c0 a0)/\Below wx.heap.size wx w') (m:n<1152921504606846976) (K:Qew c0 a0 n fu pg c a) :
 Calls prog 32 #[.agg #[.slice pm ml cm],.slice pi n ci,Iv fu,Iv pg] w fun e w'=>e=.returned (.tuple #[.pointer none,Qbw c a])/\Below w.heap.size w w':=by
 have q:=Qc P;have t:=Qc K;have i:=Qc ((((Bxs.start w).new #[.slice pm ml cm] 24)).new #[Iv 0,Iv 0] 32);clear P K m;go_enter func32,ntmps32
 go_upto_region 1 with fail
 rw[World.size_alloc] at i
 have y:=Qc (q.out _ i.out.bel);generalize (w.alloc (.cells #[.slice pm ml cm] 24)).alloc (.cells #[Iv 0,Iv 0] 32)=w2 at i y |-;generalize w.heap.size+1=Y at i |-;generalize w.heap.size=X at i |-;have W:w2.cell? ⟨X,0,none⟩=some (.slice pm ml cm):=i.out.cell (a:=[_]) 0 _ Z;go_upto_region 2 with (go_at_call 66;refine y.out.mono ?_;rintro U R ⟨rfl,H⟩)
 have f:=Qc ((i.out.below H).new #[Iv c0,Iv a0] 32);clear y H i W q;generalize R.alloc (.cells #[Iv c0,Iv a0] 32)=k at f |-;generalize R.heap.size=F at f |-;have z:k.cell? ⟨F,0,none⟩=some (Iv c0):=f.out.cell (a:=[]) 0 _ Z;have x:k.cell? ⟨F,1,none⟩=some (Iv a0):=f.out.cell (a:=[]) 1 _ Z;have I:=f.out.cell (a:=[_]) 0 _ Z;have Q:=f.out.cell (a:=[_]) 1 _ Z;have M:=f.out.free (a:=[_]) 0;have N:=f.out.free (a:=[_]) 1
 have j:Hid (∀ c a:Int,(((k.setCell ⟨Y,0,none⟩ (Iv c)).setCell ⟨Y,1,none⟩ (Iv a)).cell? ⟨Y,0,none⟩=some (Iv c)/\((k.setCell ⟨Y,0,none⟩ (Iv c)).setCell ⟨Y,1,none⟩ (Iv a)).cell? ⟨Y,1,none⟩=some (Iv a))/\Below w.heap.size w ((k.setCell ⟨Y,0,none⟩ (Iv c)).setCell ⟨Y,1,none⟩ (Iv a))):=fun c a=>by
  have l:=(f.out.set (a:=[_]) 0 (Iv c)).set (a:=[_]) 1 (Iv a);exact⟨⟨l.cell (a:=[_]) 0 _ Z,l.cell (a:=[_]) 1 _ Z⟩,l.bel⟩
 by_cases h:c0=0
 ·subst h
  have E:Hid ((200<n\/fu<0\/20000<fu\/pg<0\/64<pg)/\c=1/\a=-1):=by
   rcases t.out with ⟨b,-⟩|⟨-,b⟩
   ·exact absurd Z b
   ·exact b
  have D:=Qc (j.out 1 (-1));clear t;by_cases m:200<n
  ·have d1:decide ((n:Int)>200)=true:=Xt (by omega);clear j m;go_upto_region 5 with fail
   go_wp2
   exact Xy (v:=.tuple #[.pointer none,Qbw c a]) (by rw[E.out.2.1,E.out.2.2];simp[results,results32,go_sem,D.out.1.1,D.out.1.2,Qbw]) Z ⟨Z,D.out.2⟩
  have d1:decide ((n:Int)>200)=false:=Xu (by omega);by_cases p:fu<0
  ·have S:decide (fu<0)=true:=Xt p;clear j m p;go_upto_region 5 with fail
   go_wp2
   exact Xy (v:=.tuple #[.pointer none,Qbw c a]) (by rw[E.out.2.1,E.out.2.2];simp[results,results32,go_sem,D.out.1.1,D.out.1.2,Qbw]) Z ⟨Z,D.out.2⟩
  have S:decide (fu<0)=false:=Xu p;by_cases b:20000<fu
  ·have d3:decide (fu>20000)=true:=Xt b;clear j m p b;go_upto_region 5 with fail
   go_wp2
   exact Xy (v:=.tuple #[.pointer none,Qbw c a]) (by rw[E.out.2.1,E.out.2.2];simp[results,results32,go_sem,D.out.1.1,D.out.1.2,Qbw]) Z ⟨Z,D.out.2⟩
  have d3:decide (fu>20000)=false:=Xu b;have O:=Qc (Qln k pg (by have:=E.out.1;omega));clear m p b D;go_upto_region 7 with (go_at_call 67;refine O.out.mono ?_;rintro U J ⟨rfl,L⟩)
  have g:=Qc ((f.out.below L).new #[Iv 1,Iv (-1)] 32);clear L z x I Q M N j O f;generalize J.alloc (.cells #[Iv 1,Iv (-1)] 32)=o at g |-;generalize J.heap.size=G at g |-;have k0:o.cell? ⟨G,0,none⟩=some (Iv 1):=g.out.cell (a:=[]) 0 _ Z;have k1:o.cell? ⟨G,1,none⟩=some (Iv (-1)):=g.out.cell (a:=[]) 1 _ Z;have I:=g.out.cell (a:=[_,_]) 0 _ Z;have Q:=g.out.cell (a:=[_,_]) 1 _ Z;have M:=g.out.free (a:=[_,_]) 0;have N:=g.out.free (a:=[_,_]) 1
  have T:Hid ((((o.setCell ⟨Y,0,none⟩ (Iv 1)).setCell ⟨Y,1,none⟩ (Iv (-1))).cell? ⟨Y,0,none⟩=some (Iv 1)/\((o.setCell ⟨Y,0,none⟩ (Iv 1)).setCell ⟨Y,1,none⟩ (Iv (-1))).cell? ⟨Y,1,none⟩=some (Iv (-1)))/\Below w.heap.size w ((o.setCell ⟨Y,0,none⟩ (Iv 1)).setCell ⟨Y,1,none⟩ (Iv (-1)))) :=
   have l:=(g.out.set (a:=[_,_]) 0 (Iv 1)).set (a:=[_,_]) 1 (Iv (-1));show _ from ⟨⟨l.cell (a:=[_,_]) 0 _ Z,l.cell (a:=[_,_]) 1 _ Z⟩,l.bel⟩
  go_upto_region 8 with fail
  go_region
  all_goals
   go_wp2_with fail
   have r:=T.out;generalize (o.setCell ⟨Y,0,none⟩ (Iv 1)).setCell ⟨Y,1,none⟩ (Iv (-1))=s at r |-;obtain⟨⟨u,C⟩,d⟩:=r
   have A:s.drew.cell? ⟨Y,0,none⟩=some (Iv 1):=u;have B:s.drew.cell? ⟨Y,1,none⟩=some (Iv (-1)):=C;exact Xy (v:=.tuple #[.pointer none,Qbw c a]) (by rw[E.out.2.1,E.out.2.2];simp[results,results32,go_sem,A,B,Qbw]) Z ⟨Z,⟨d.os,d.tape,d.output,d.size,d.block⟩⟩
 ·have d0:(c0 != 0)=true:=bne_iff_ne.2 h
  have E:Hid (c=c0/\a=a0):=by
   rcases t.out with ⟨-,b,V⟩|⟨b,-⟩
   ·exact⟨b,V⟩
   ·exact absurd b h
  have D:=Qc (j.out c0 a0);clear h j t;go_upto_region 3 with fail
  go_region
  all_goals
   go_wp2_with fail
   have r:=D.out;generalize (k.setCell ⟨Y,0,none⟩ (Iv c0)).setCell ⟨Y,1,none⟩ (Iv a0)=s at r |-;obtain⟨⟨u,C⟩,d⟩:=r
   have A:s.drew.cell? ⟨Y,0,none⟩=some (Iv c0):=u;have B:s.drew.cell? ⟨Y,1,none⟩=some (Iv a0):=C;exact Xy (v:=.tuple #[.pointer none,Qbw c a]) (by rw[E.out.1,E.out.2];simp[results,results32,go_sem,A,B,Qbw]) Z ⟨Z,⟨d.os,d.tape,d.output,d.size,d.block⟩⟩
theorem QfK {ml:Nat}{fu pg c a c0 a0:Int}(q:∀ wx,Below w.heap.size w wx->Calls prog 66 #[.agg #[.slice pm ml cm]] wx fun e w'=>e=.returned (Qbw c0 a0)/\Below wx.heap.size wx w') (p:n<1152921504606846976) (j:Qew c0 a0 n fu pg c a) :
 Calls prog 30 #[.agg #[.slice pm ml cm],.slice pi n ci,Iv fu,Iv pg] w fun e w'=>e=.returned (Qh9 c a)/\Below w.heap.size w w':=by
 have f:=((((Bxs.start w).new #[.slice pm ml cm] 24)).new #[Iv 0,Nv,Nv,Iv 0] 44).new #[Iv 0,Iv 0] 32;rw[World.size_alloc,World.size_alloc] at f
 have f:=Qc f;have k:Hid (∀ wx,Below w.heap.size w wx->Calls prog 32 #[.agg #[.slice pm ml cm],.slice pi n ci,Iv fu,Iv pg] wx fun e w'=>e=.returned (.tuple #[.pointer none,Qbw c a])/\Below wx.heap.size wx w'):=fun wx u=>Qh6 (fun B o=>q B (u.trans (o.mono u.size))) p j;have T:(c != 0)=true:=bne_iff_ne.2 j.ne;have W:decide (c=0)=false:=Xu j.ne;clear q p j;go_enter func30,ntmps30
 go_upto_region 1 with fail
 generalize ((w.alloc (.cells #[.slice pm ml cm] 24)).alloc (.cells #[Iv 0,Nv,Nv,Iv 0] 44)).alloc (.cells #[Iv 0,Iv 0] 32)=x at f |-;generalize w.heap.size+1+1=h at f |-;generalize w.heap.size+1=d at f |-;generalize w.heap.size=X at f |-;have k:=Qc (k.out x f.out.bel);have z:x.cell? ⟨X,0,none⟩=some (.slice pm ml cm):=f.out.cell (a:=[_,_]) 0 _ Z;go_upto_region 2 with (go_at_call 32;refine k.out.mono ?_;rintro M r ⟨rfl,t⟩)
 have b:=Qc ((f.out.below t).new #[Iv c,Iv a] 32);clear f k z t;generalize r.alloc (.cells #[Iv c,Iv a] 32)=l at b |-;generalize r.heap.size=F at b |-;have c0:l.cell? ⟨F,0,none⟩=some (Iv c):=b.out.cell (a:=[]) 0 _ Z;have Q:l.cell? ⟨F,1,none⟩=some (Iv a):=b.out.cell (a:=[]) 1 _ Z;have r0:=b.out.cell (a:=[_,_]) 0 _ Z;have N:=b.out.cell (a:=[_,_]) 1 _ Z;have K:=b.out.cell (a:=[_,_]) 2 _ Z;have r3:=b.out.cell (a:=[_,_]) 3 _ Z;have R:=b.out.free (a:=[_,_]) 0;have S:=b.out.free (a:=[_,_]) 1;have P:=b.out.free (a:=[_,_]) 2;have z3:=b.out.free (a:=[_,_]) 3;have O:=b.out.cell (a:=[_]) 0 _ Z;have U:=b.out.cell (a:=[_]) 1 _ Z;have L:=b.out.free (a:=[_]) 0;have V:=b.out.free (a:=[_]) 1;have m:¬ d=h:=fun e=>by have:=b.out.nd;simp[e] at this
 have s:¬ h=d:=fun e=>m e.symm;have I:¬ F=d:=fun e=>by have:=b.out.nd;simp[e] at this
 have A:¬ F=h:=fun e=>by have:=b.out.nd;simp[e] at this
 go_upto_region 3 with fail
 go_region
 all_goals
  go_wp2_with fail
  have y:=(((((b.out.set (a:=[_,_]) 0 (Iv 0)).set (a:=[_,_]) 1 (Nv)).set (a:=[_,_]) 2 (Nv)).set (a:=[_,_]) 3 (Iv 0)).set (a:=[_]) 0 (Iv c)).set (a:=[_]) 1 (Iv a);generalize ((((((l.setCell ⟨d,0,none⟩ (Iv 0)).setCell ⟨d,1,none⟩ (Nv)).setCell ⟨d,2,none⟩ (Nv)).setCell ⟨d,3,none⟩ (Iv 0)).setCell ⟨h,0,none⟩ (Iv c)).setCell ⟨h,1,none⟩ (Iv a))=i at y |-;have g:=y.drew;have E:i.drew.cell? ⟨d,0,none⟩=some (Iv 0):=g.cell (a:=[_,_]) 0 _ Z;have H:i.drew.cell? ⟨d,1,none⟩=some (Nv):=g.cell (a:=[_,_]) 1 _ Z;have C:i.drew.cell? ⟨d,2,none⟩=some (Nv):=g.cell (a:=[_,_]) 2 _ Z;have D:i.drew.cell? ⟨d,3,none⟩=some (Iv 0):=g.cell (a:=[_,_]) 3 _ Z;have G:i.drew.cell? ⟨h,0,none⟩=some (Iv c):=g.cell (a:=[_]) 0 _ Z;have J:i.drew.cell? ⟨h,1,none⟩=some (Iv a):=g.cell (a:=[_]) 1 _ Z;exact Xy (v:=Qh9 c a) (by simp[results,results30,go_sem,E,H,C,D,G,J,Qbw]) Z ⟨Z,g.bel⟩
theorem Lay.flat {α:Type}{A:Lay α}{o:Nat}{l:List α}(h:A.list.In w O l [.slice (some ⟨g,o,none⟩) n c]) (m:∀ (x:α) (ds:List Value),A.In w O x ds->∀ u∈ds,u.oneCell'=true) :
 ∃ ds:List Value,ds.length=l.length*A.size/\(∀ (j:Nat) (u:Value),ds[j]?=some u->w.cell? ((⟨g,o,none⟩:Addr).add j)=some u)/\(∀ u∈ds,u.oneCell'=true)/\∀ (i:Nat) (x:α),l[i]?=some x->A.In w O x ((ds.drop (i*A.size)).take A.size):=by
 have C:∀ k,k<=l.length->∃ ds:List Value,ds.length=k*A.size/\(∀ (j:Nat) (u:Value),ds[j]?=some u->w.cell? ⟨g,o+j,none⟩=some u)/\(∀ u∈ds,u.oneCell'=true)/\∀ (i:Nat) (x:α),i<k->l[i]?=some x->A.In w O x ((ds.drop (i*A.size)).take A.size):=by
  intro k
  induction k with
  | zero=>exact fun _=>⟨[],by simp,fun j u a=>by simp at a,fun u b=>by simp at b,fun i x H=>by omega⟩
  | succ k ih =>
    intro J;obtain⟨ds,p,r,s,v⟩:=ih (by omega)
    obtain⟨x,f⟩:∃ x,l[k]?=some x:=⟨_,Zg (by omega)⟩
    obtain⟨L,K,B,e,_,_,I,q⟩:=Yf h f
    injection e with e
    injection e with e e2
    subst e;subst e2;have t:=A.len q;refine⟨ds++B,by rw[List.length_append,p,t,Nat.add_mul];omega,fun j u a=>?_,fun u b=>?_,fun i y H d=>?_⟩
    ·rw[List.getElem?_append] at a
     split at a
     ·exact r j u a
     ·rename_i E
      have F:j - ds.length<B.length:=(Zi a).1;have D:=I (j - ds.length) (by omega);rw[a] at D
      rw[<-D]
      congr 2
      omega
    ·rcases List.mem_append.1 b with b | b
     ·exact s u b
     ·exact m x B q u b
    ·by_cases z:i=k
     ·subst z;rw[f] at d
      injection d with d
      subst d;rw[List.drop_append,List.drop_of_length_le (by omega),p,Nat.sub_self,List.drop_zero,List.nil_append,XO (by omega)]
      exact q
     ·have G:(i+1)*A.size<=k*A.size:=Xp _ (by omega);rw[Nat.add_mul] at G
      rw[List.drop_append_of_le_length (by omega),List.take_append_of_le_length (by simp;omega)]
      exact v i y (by omega) d
 obtain⟨ds,p,r,s,v⟩:=C l.length Ze
 exact⟨ds,p,fun j u a=>by rw[Go.WideShapes.add_plain];exact r j u a,s,fun i x f=>v i x (Zi f).1 f⟩
theorem QcX {α:Type}{P:α->List Value->Prop}{l l2:List α}{xs:List Value}(b:xs.length=l.length*s)
 (f:∀ (i:Nat) (x:α),l[i]?=some x->P x ((xs.drop (i*s)).take s)) (e:∀ (i:Nat) (x:α),l2[i]?=some x->P x ((ds.drop (i*s)).take s)) :
 ∀ (i:Nat) (x:α),(l++l2)[i]?=some x->P x (((xs++ds).drop (i*s)).take s):=by
 intro i y a;rw[List.getElem?_append] at a
 split at a
 ·rename_i d
  have c:(i+1)*s<=l.length*s:=Xp _ d;rw[Nat.add_mul] at c
  rw[List.drop_append_of_le_length (by omega),List.take_append_of_le_length (by simp;omega)]
  exact f i y a
 ·rename_i d
  have c:l.length*s<=i*s:=Xp _ (by omega)
  have:=e (i - l.length) y a
  rw[Nat.sub_mul] at this
  rw[List.drop_append,List.drop_of_length_le (by omega),List.nil_append,b]
  exact this
theorem Qe3 {xs:List Value}(h:w.ownsRow 0 e s (.slice (some ⟨g,0,none⟩) N cap) N xs) (f:w'.heap[g]?=w.heap[g]?):w'.ownsRow 0 e s (.slice (some ⟨g,0,none⟩) N cap) N xs:=by
 obtain⟨d,i⟩:=h
 refine⟨d,?_⟩
 rcases i with j | ⟨m,c,b,l,a,k,r⟩
 ·exact .inl j
 ·injection l with e1 _ e2
  injection e1 with e1
  injection e1 with e1 _
  subst e1;subst e2;exact .inr ⟨g,cap,b,Z,a,f.trans k,r⟩
def TRq (w:World) (O Q:Nat->Prop) (v:Value) (L:List (TT 6)):Prop :=
 ∃ xs,w.ownsRow 0 105 3 v L.length xs/\(∀ g,v.ownBlock=some g->O g)/\∀ i x,L[i]?=some x->(Lay.tt 6).In w Q x ((xs.drop (i*3)).take 3)
section
variable {w w':World}{O O' Q Q':Nat->Prop}{v:Value}{L:List (TT 6)}
theorem TRq.keep (h:TRq w O Q v L) (c:∀ k,k<w.heap.size->v.ownBlock=some k\/Q k->w'.heap[k]?=w.heap[k]?) (o:∀ k,v.ownBlock=some k->O' k) (p:∀ k,Q k->k<w.heap.size->Q' k):TRq w' O' Q' v L:=by
 obtain⟨s,⟨j,m⟩,u,q⟩:=h
 refine⟨s,⟨j,?_⟩,o,fun i x f=>(Lay.tt 6).keep (fun k e t=>c k t (.inr e)) p (q i x f)⟩
 rcases m with n | ⟨g,b,a,rfl,l,d,r⟩
 ·exact Or.inl n
 ·exact Or.inr ⟨g,b,a,Z,l,(c g (XC d) (.inl Z)).trans d,r⟩
theorem TRq.own (h:TRq w O Q v L)(a:v.ownBlock=some g):O g:=by
 obtain⟨e,c,b,d⟩:=h
 exact b g a
theorem TRq.block (h:TRq w O Q v L)(a:v.ownBlock=some g):∃ c,w.heap[g]?=some (.cells c 105 (0,0)):=by
 obtain⟨m,⟨i,d⟩,j,l⟩:=h
 rcases d with ⟨rfl,_⟩|⟨k,e,b,rfl,_,f,r⟩
 ·simp[Value.ownBlock] at a
 ·simp[Value.ownBlock] at a;subst a;exact⟨b,f⟩
theorem TRq.lt (h:TRq w O Q v L)(a:v.ownBlock=some g):g<w.heap.size:=by
 obtain⟨c,b⟩:=h.block a
 exact XC b
theorem TRq.form (h:TRq w O Q v L):∃ a cap,v=.slice a L.length cap/\L.length<=cap/\TRd w Q a L/\∃ xs,w.ownsRow 0 105 3 (.slice a L.length cap) L.length xs:=by
 obtain⟨xs,d,C,r⟩:=h
 obtain⟨B,n⟩:=id d
 rcases n with ⟨rfl,z⟩|⟨g,cap,p,rfl,_,s,m,E,D,k⟩
 ·have:L=[]:=Xf.1 z
  subst this;exact⟨none,0,Z,Ze,fun i t c=>by simp at c,xs,d⟩
 ·refine⟨some ⟨g,0,none⟩,cap,Z,m,fun i t c=>?_,xs,d⟩
  obtain⟨o,q,e,l,y⟩:=r i t c
  have A:i<L.length:=(Zi c).1
  have b:∀ j u,j<3->((xs.drop (i*3)).take 3)[j]?=some u->w.cell? ⟨g,i*3+j,none⟩=some u:=fun j u x f=>by
   rw[XR,Xs x,List.getElem?_drop,<-k,XR,Xs (by omega),Array.getElem?_toList] at f
   exact Qb s _ u f
  rw[e] at b
  exact⟨g,o,q,Z,b 0 _ (by omega) Z,b 1 _ (by omega) Z,b 2 _ (by omega) Z,l,y⟩
end
abbrev QeK (c:Int):List PanicEntry:=[{ v:=.iface 304 (Iv c),recovered:=false }]
def SAt (w:World) (b:Nat) (O A:Nat->Prop) (s:JSt):Prop :=
 ∃ pm cm h a1 c1 a2 c2 a3 c3 vL,w.heap[b]?=some (.cells #[.slice pm s.m.length cm,Pv h 0,Iv s.f.regs,.slice a1 s.f.params.length c1,.slice a2 s.f.results.length c2,.slice a3 s.f.blocks.length c3,vL] 279 (0,0)) /\
  (QaN 6).In w (fun g=>¬ A g) s.m [.slice pm s.m.length cm]/\(ZS 6).In w (fun g=>¬ A g) s.f [Iv s.f.regs,.slice a1 s.f.params.length c1,.slice a2 s.f.results.length c2,.slice a3 s.f.blocks.length c3] /\
  (Qo w h s.H/\O h)/\TRq w O (fun g=>¬ A g) vL s.L/\O b/\∀ k,O k->A k
structure SRd (w:World) (b:Nat) (A:Nat->Prop) (s:JSt) (pm:Option Addr) (cm h:Nat) (a1:Option Addr) (c1:Nat) (a2:Option Addr) (c2:Nat) (a3:Option Addr) (c3:Nat) (aL:Option Addr) (cL:Nat):Prop where
 blk:w.heap[b]?=some (.cells #[.slice pm s.m.length cm,Pv h 0,Iv s.f.regs,.slice a1 s.f.params.length c1,.slice a2 s.f.results.length c2,.slice a3 s.f.blocks.length c3,.slice aL s.L.length cL] 279 (0,0))
 mod:(QaN 6).In w (fun g=>¬ A g) s.m [.slice pm s.m.length cm]
 fn:(ZS 6).In w (fun g=>¬ A g) s.f [Iv s.f.regs,.slice a1 s.f.params.length c1,.slice a2 s.f.results.length c2,.slice a3 s.f.blocks.length c3]
 held:Qo w h s.H
 row:TRd w (fun g=>¬ A g) aL s.L
 le:s.L.length<=cL
section
variable {w w':World}{b:Nat}{O O' A A':Nat->Prop}{s:JSt}
theorem SAt.keep (h:SAt w b O A s) (d:∀ k,k<w.heap.size->O k\/¬ A k->w'.heap[k]?=w.heap[k]?) (i:∀ k,O k->k<w.heap.size->O' k) (l:∀ k,¬ A k->k<w.heap.size->¬ A' k) (C:∀ k,O' k->A' k):SAt w' b O' A' s:=by
 obtain⟨z,D,j,r,x,v,p,t,u,q,g,B,y,⟨m,n⟩,f,o,E⟩:=h
 refine⟨z,D,j,r,x,v,p,t,u,q,(d b (XC g) (.inl o)).trans g,(QaN 6).keep (fun k a c=>d k c (.inr a)) l B,(ZS 6).keep (fun k a c=>d k c (.inr a)) l y,
  ⟨m.keep (d j m.lt (.inl n)),i j n m.lt⟩,f.keep (fun k c a=>d k c (a.imp (fun e=>f.own e) id)) (fun k a=>i k (f.own a) (f.lt a)) l,i b o (XC g),C⟩
theorem SAt.below (h:SAt w b O A s) (k:Below w.heap.size w w'):SAt w' b O A s:=by
 have a:∀ k,O k->A k:=by obtain⟨v,y,r,i,p,o,e,l,m,f,n,x,u,⟨z,j⟩,t,q,c⟩:=h;exact c
 exact h.keep (fun g d _=>k.block g d) (fun _ h _=>h) (fun _ h _=>h) a
theorem SAt.sub (h:SAt w b O A s):∀ k,O k->A k:=by obtain⟨e,r,t,j,o,d,f,n,q,g,u,i,c,⟨m,l⟩,v,p,a⟩:=h;exact a
theorem SAt.read (h:SAt w b O A s):∃ pm cm h a1 c1 a2 c2 a3 c3 aL cL,SRd w b A s pm cm h a1 c1 a2 c2 a3 c3 aL cL:=by
 obtain⟨pm,cm,g,a1,c1,a2,c2,a3,c3,k,f,d,c,⟨e,l⟩,j,m,n⟩:=h
 obtain⟨aL,cL,rfl,a,i,_⟩:=j.form
 exact⟨pm,cm,g,a1,c1,a2,c2,a3,c3,aL,cL,f,d,c,e,i,a⟩
variable {pm:Option Addr}{cm h:Nat}{a1:Option Addr}{c1:Nat}{a2:Option Addr}{c2:Nat}{a3:Option Addr}{c3:Nat}{aL:Option Addr}{cL:Nat}
theorem SRd.below (k:SRd w b A s pm cm h a1 c1 a2 c2 a3 c3 aL cL) (e:Below w.heap.size w w'):SRd w' b A s pm cm h a1 c1 a2 c2 a3 c3 aL cL :=
 ⟨(e.block b (XC k.blk)).trans k.blk,Ya k.mod e,Ya k.fn e,k.held.below e,k.row.below e,k.le⟩
theorem SRd.cells (k:SRd w b A s pm cm h a1 c1 a2 c2 a3 c3 aL cL) :
 w.cell? ⟨b,0,none⟩=some (.slice pm s.m.length cm)/\w.cell? ⟨b,1,none⟩=some (Pv h 0)/\w.cell? ⟨b,2,none⟩=some (Iv s.f.regs)/\w.cell? ⟨b,3,none⟩=some (.slice a1 s.f.params.length c1)/\w.cell? ⟨b,4,none⟩=some (.slice a2 s.f.results.length c2)/\w.cell? ⟨b,5,none⟩=some (.slice a3 s.f.blocks.length c3)/\w.cell? ⟨b,6,none⟩=some (.slice aL s.L.length cL) :=
 ⟨Qb k.blk 0 _ Z,Qb k.blk 1 _ Z,Qb k.blk 2 _ Z,Qb k.blk 3 _ Z,Qb k.blk 4 _ Z,Qb k.blk 5 _ Z,Qb k.blk 6 _ Z⟩
end
def STo (wA w:World) (b:Nat) (O A:Nat->Prop) (s:JSt):Prop :=
 ∃ N:Nat->Prop,(∀ k,N k->wA.heap.size<=k/\k<w.heap.size)/\SAt w b (fun k=>O k\/N k) (fun k=>A k\/N k) s/\Qz O (fun k=>O k\/N k) wA w
section
variable {w wA wB:World}{b:Nat}{O A:Nat->Prop}{s s':JSt}
theorem STo.same (h:SAt w b O A s):STo w w b O A s :=
 ⟨fun _=>False,fun _ h=>h.elim,h.keep (fun _ _ _=>rfl) (fun _ h _=>.inl h) (fun _ h _=>by simpa using h) (fun k a=>a.imp (h.sub k) id),⟨Z,Z,Z,Ze,fun _ _ _=>rfl,fun k a=>.inl (by simpa using a)⟩⟩
theorem STo.after (h:STo wA w b O A s) (a:Below wB.heap.size wB wA):STo wB w b O A s:=by
 obtain⟨N,f,i,d⟩:=h
 have:=a.size
 exact⟨N,fun k c=>⟨Zt a.size (f k c).1,(f k c).2⟩,i,⟨d.os.trans a.os,d.tape.trans a.tape,d.output.trans a.output,Zt a.size d.size,fun k c g=>(d.block k (by omega) g).trans (a.block k c),fun k c=>(d.own k c).imp id fun e=>Zt a.size e⟩⟩
theorem STo.join {N:Nat->Prop}(f:∀ k,N k->wA.heap.size<=k/\k<w.heap.size) (d:Qz O (fun k=>O k\/N k) wA w) (g:STo w wB b (fun k=>O k\/N k) (fun k=>A k\/N k) s'):STo wA wB b O A s':=by
 obtain⟨M,j,l,c⟩:=g
 have i:=d.size;have m:=c.size;refine⟨fun k=>N k\/M k,fun k a=>?_,?_,?_⟩
 ·rcases a with a | a
  ·have:=f k a;omega
  ·have:=j k a;omega
 ·exact l.keep (fun _ _ _=>rfl) (fun k a _=>by simpa[or_assoc] using a) (fun k a _=>by simpa[or_assoc,not_or,and_assoc] using a) (fun k a=>by have:=l.sub k (by simpa[or_assoc] using a);simpa[or_assoc] using this)
 ·refine⟨c.os.trans d.os,c.tape.trans d.tape,c.output.trans d.output,Zt i m,fun k a h=>(c.block k (by omega) (fun e=>?_)).trans (d.block k a h),fun k a=>?_⟩
  ·rcases e with e | e
   ·exact h e
   ·have:=f k e;omega
  ·rcases a with a | a | a
   ·exact .inl a
   ·exact .inr (f k a).1
   ·exact .inr (Zt i (j k a).1)
theorem SAt.setH (K:∀ k,A k->k<w.heap.size) (h:SAt w b O A s):∃ hh,w.cell? ⟨b,1,none⟩=some (Pv hh 0)/\Qo w hh s.H/\∀ w' H',Qo w' hh H'->Qz (fun k=>k=hh) (fun k=>k=hh) w w'->STo w w' b O A { s with H:=H' }:=by
 obtain⟨F,I,hh,u,C,z,r,x,y,t,i,G,E,⟨p,j⟩,n,D,o⟩:=h
 refine⟨hh,Qb i 1 _ Z,p,fun w' H' v d=>?_⟩
 obtain⟨L,f⟩:∃ c,w.heap[hh]?=some (.cells c 303 (0,0)):=by
  obtain⟨-,q⟩:=p
  obtain⟨c,q,-⟩:=q
  exact⟨c,q⟩
 have l:b≠hh:=Zc i f (by decide);have m:∀ k,¬ A k->k≠hh:=fun k a e=>a (by subst e;exact o _ j)
 refine⟨fun _=>False,fun _ h=>h.elim,⟨F,I,hh,u,C,z,r,x,y,t,(d.block b (XC i) l).trans i,(QaN 6).keep (fun k a g=>d.block k g (m k a)) (fun _ h _=>by simpa using h) G,(ZS 6).keep (fun k a g=>d.block k g (m k a)) (fun _ h _=>by simpa using h) E,
  ⟨v,.inl j⟩,n.keep (fun k g a=>d.block k g ?_) (fun k a=>.inl (n.own a)) (fun _ h _=>by simpa using h),.inl D,fun k a=>a.imp (o k) id⟩,⟨d.os,d.tape,d.output,d.size,fun k a B=>d.block k a (fun e=>B (by subst e;exact j)),fun k a=>.inl (by simpa using a)⟩⟩
 rcases a with a | a
 ·obtain⟨c,J⟩:=n.block a
  exact Zc J f (by decide)
 ·exact m k a
theorem SAt.pushL (hA:∀ k,A k->k<wA.heap.size) (h:SAt wA b O A s):∃ aL cL xs,wA.cell? ⟨b,6,none⟩=some (.slice aL s.L.length cL)/\wA.frozen? ⟨b,6,none⟩=false/\s.L.length<=cL/\wA.ownsRow 0 105 3 (.slice aL s.L.length cL) s.L.length xs /\
 ∀ w9 g cap2 (l:List (TT 6)) ds,ds.length=l.length*3->w9.ownsRow 0 105 3 (.slice (some ⟨g,0,none⟩) (s.L.length+l.length) cap2) (s.L.length+l.length) (xs++ds)->wA.grownBy w9 (Value.slice aL s.L.length cL).ownBlock->((Value.slice aL s.L.length cL).ownBlock=some g\/g=wA.heap.size)->g<w9.heap.size ->
  (∀ i x,l[i]?=some x->(Lay.tt 6).In wA (fun g=>¬ A g) x ((ds.drop (i*3)).take 3)) ->
  w9.cell? ⟨b,6,none⟩=some (.slice aL s.L.length cL)/\w9.frozen? ⟨b,6,none⟩=false/\STo wA (w9.setCell ⟨b,6,none⟩ (.slice (some ⟨g,0,none⟩) (s.L.length+l.length) cap2)) b O A { s with L:=s.L++l }:=by
 obtain⟨pm,cm,t,S,c1,X,R,V,W,vL,o,k2,k3,⟨M,T⟩,u,H,J⟩:=h
 obtain⟨aL,cL,rfl,w,-,-⟩:=u.form
 have v:∀ {j},(Value.slice aL s.L.length cL).ownBlock=some j->O j/\∃ c,wA.heap[j]?=some (.cells c 105 (0,0)):=fun {j} d=>⟨u.own d,u.block d⟩;obtain⟨xs,N,q2,U⟩:=u
 obtain⟨ch,m⟩:∃ c,wA.heap[t]?=some (.cells c 303 (0,0)):=by
  obtain⟨-,q⟩:=M
  obtain⟨c,q,-⟩:=q
  exact⟨c,q⟩
 have D:=XC o;have y:=XC m
 have p:∀ j,(Value.slice aL s.L.length cL).ownBlock=some j->b≠j:=fun j d=>by
  obtain⟨c,hc⟩:=(v d).2
  exact Zc o hc (by decide)
 refine⟨aL,cL,xs,Qb o 6 _ Z,Qj o 6,w,N,fun w9 g cap2 l ds Q h1 n G h4 h5=>?_⟩
 have aa:=n.size;have C:=(n.block b D (fun e=>p b e.symm Z)).trans o
 have E:b≠g:=by
  rcases G with h | h
  ·exact p g h
  ·omega
 have f:∀ k,¬ A k->k<wA.heap.size->¬ (A k\/(wA.heap.size<=k/\k<w9.heap.size)):=fun k a I e=>by rcases e with e | e;exact a e;omega
 have K:Qz O (fun x=>O x\/(wA.heap.size<=x/\x<w9.heap.size)) wA (w9.setCell ⟨b,6,none⟩ (.slice (some ⟨g,0,none⟩) (s.L.length+l.length) cap2)):=by
  refine⟨n.os,n.tape,n.output,by simp;omega,fun k a F=>?_,fun k a=>a.imp id fun h=>h.1⟩
  rw[Xd _ _ _ _ (fun e=>F (by subst e;exact H)),n.block k a (fun e=>F (v e.symm).1)]
 have r:∀ k,¬ A k->k<wA.heap.size->(w9.setCell ⟨b,6,none⟩ (.slice (some ⟨g,0,none⟩) (s.L.length+l.length) cap2)).heap[k]?=wA.heap[k]?:=fun k a I=>K.block k I (fun e=>a (J k e));refine⟨Qb C 6 _ Z,Qj C 6,fun x=>wA.heap.size<=x/\x<w9.heap.size,fun k a=>by rw[World.size_setCell];exact a,⟨pm,cm,t,S,c1,X,R,V,W,.slice (some ⟨g,0,none⟩) (s.L.length+l.length) cap2,?_,(QaN 6).keep r f k2,(ZS 6).keep r f k3,⟨M.keep ?_,.inl T⟩,?_,.inl H,fun k a=>a.imp (J k) id⟩,K⟩
 ·rw[Qh C];rfl
 ·rw[Xd _ _ _ _ (show t≠b from Zc m o (by decide)),n.block t y (fun e=>by obtain⟨c',z⟩:=(v e.symm).2;exact Zc m z (by decide) Z)]
 ·refine⟨xs++ds,?_,fun k a=>?_,?_⟩
  ·rw[List.length_append]
   exact Qe3 h1 (Xd _ _ _ _ (show g≠b from fun e=>E e.symm))
  ·simp[Value.ownBlock] at a
   subst a;rcases G with h | h
   ·exact .inl (v h).1
   ·exact .inr ⟨by omega,h4⟩
  ·refine QcX (s:=3) (P:=fun x cs=>(Lay.tt 6).In _ _ x cs) N.1 (fun i x B=>?_) (fun i x B=>?_)
   ·exact(Lay.tt 6).keep r f (U i x B)
   ·exact(Lay.tt 6).keep r f (h5 i x B)
theorem SAt.same6 {v:Value}(h:SAt w b O A s) (d:w.cell? ⟨b,6,none⟩=some v) (k:Nat):(w.setCell ⟨b,6,none⟩ v).heap[k]?=w.heap[k]?:=by
 obtain⟨g,p,q,l,m,f,i,n,o,j,a,-⟩:=h
 have e:=(Qb a 6 _ Z).symm.trans d;simp only[Option.some.injEq] at e
 by_cases c:k=b
 ·subst c;rw[Qh a,a,<-e];rfl
 ·exact Xd _ _ _ _ c
end
end Go.Proofs.YtjhdpajpibdnaafGreat
