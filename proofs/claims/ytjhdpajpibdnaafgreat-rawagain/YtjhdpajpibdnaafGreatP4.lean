import Derived.Test.YtjhdpajpibdnaafGreatP3
import Derived.Deep.Upon
import Derived.SizedLaws
set_option maxHeartbeats 16000000
set_option maxRecDepth 100000
namespace Go.Proofs.YtjhdpajpibdnaafGreat
open Go.ChangeShapes Go.WideShapes Go.ChangeAt Go.RowKit _root_.Go.Proofs.Tryz
set_option linter.unusedSimpArgs false
set_option linter.unusedVariables false
variable {w w' w6 w1 w2:World}{n b c k m rc ac X j B i cm g N d f fi cap bp q R pages id bi cc funcs s ci rl al ca ri vl most cR cA G:Nat}{O Q O':Nat→Prop}{l xs regs inp:List Int}{p a rg ag pm pi pa pR pA ra aa:Option Addr}{t e:TypeId}{v:Value}{P:Program}{L bs:List Bool}{x ya xc xk fr xa xb xn yb:Int}{ds cs:List Value}{ops:Array Oper}
def Qcq (w:World) (l:List Int) (e:Ending) (w':World):Prop:=∃ a cap,e=.returned (.slice a l.length cap)/\l.length<=cap/\w'.ownsRow 0 2 1 (.slice a l.length cap) l.length (l.map (Value.int .i64))/\(∀ x,(Value.slice a l.length cap).ownBlock=some x->w.heap.size<=x)/\Below w.heap.size w w'
theorem Qkk (h:w.ownsRow 0 2 1 (.slice a l.length cap) l.length (l.map (Value.int .i64))) (c:∀ x∈l,Qnh x) (m:∀ x,(Value.slice a l.length cap).ownBlock=some x->O x):intsL.In w O l [.slice a l.length cap]:=by
 refine⟨a,cap,Z,fun i x b=>?_⟩
 have p:=(Zi b).1;rcases h.2 with ⟨e,r⟩|⟨g,q,n,e,_,d,s,t,u,o⟩
 ·omega
 ·rw[Value.slice.injEq] at e
  obtain⟨rfl,-,rfl⟩:=e
  refine⟨g,0,[Iv x],Z,m g Z,XC d,fun j k=>?_,Z,c x (Zm b)⟩
  have k:j<1:=k
  have:j=0:=by omega
  subst this;show w.cell? ⟨g,0+i*1+0,none⟩=_;rw[XK,XL,Nat.add_zero]
  have f:(l.map (Value.int .i64))[i]?=some (Iv x):=by rw[XS,b];rfl
  rw[<-o,XR,Xs (by omega),Array.getElem?_toList] at f
  exact Qb d _ _ f
theorem Qc9 (h:∀ i,i<l.length->∃ g o,p=some ⟨g,o,none⟩/\w.cell? ⟨g,o+i,none⟩=some (Iv (l.getD i 0))) (hn:l.length<=1000000) :
 Calls prog 48 #[.slice p l.length c] w fun e w'=>Qcq w l e w':=by
 obtain⟨i0,hi,B,v,A⟩:=iInfo64
 have q:∀ (w:World) (a:Option Addr) (n c F I:Nat),(binOp .eql 25 (.slice a n c) (.slice none F I)).run prog w=.ok (.bool a.isNone) w:=fun w a n c F I=>Lib.run_eql_slice_nil w _ _ a n c F I iUnder64
 cases p with
 | none =>
   have z:l=[]:=by
    cases l with
    | nil=>rfl
    | cons y K =>
      obtain⟨g,o,e,-⟩:=h 0 (by simp)
      cases e
   subst z;clear h;go_enter func48,ntmps48
   go_wp2
   go_ret;exact⟨none,0,Z,Ze,⟨Z,.inl ⟨Z,Z⟩⟩,fun x D=>by simp[Value.ownBlock] at D,Zr⟩
 | some ad =>
   have P:Hid (∀ (j:Nat) (u:Value),(l.map (Value.int .i64))[j]?=some u->(w.alloc (.cells #[] 2)).cell? (ad.add j)=some u):=by
    intro j u t;rw[XS] at t
    obtain⟨y,L,rfl⟩:=Option.map_eq_some_iff.1 t
    have W:=(Zi L).1;obtain⟨g,o,e,V⟩:=h j W
    cases e
    rw[Addr.add_lit]
    refine Lib.cell?_alloc_some _ ?_;rw[V]
    simp[List.getD,L]
   have N:Hid (∀ u∈l.map (Value.int .i64),u.oneCell'=true):=by intro u t;obtain⟨x,_,rfl⟩:=List.mem_map.1 t;rfl
   have T:Hid ((l.map (Value.int .i64)).length=l.length*1):=by show _=_;simp
   have f:=Qc (ZP w (.cells #[] 2));have Q:Hid ((w.alloc (.cells #[] 2)).heap.size=w.heap.size+1):=by show _=_;simp
   clear h;generalize s:l.map (Value.int .i64)=K at *;have H:=Qc s;generalize r:l.length=nn at *;have E:=Qc r;clear s r;go_enter func48,ntmps48
   go_wp2_with (at_builtin;refine ZO _ Z _ _ 25 Z 2 i0 (Iv 0) 1 8 iUnder64 hi B v A Z (by decide) _ _ _ Z (World.ownsRow_made w #[] 0 (Xb _) (Xb _) Z) ad nn c K Z T.out P.out N.out (by unfold maxLen;omega) (by omega) ?_)
   intro J O G d M
   have R:Hid (Qcq w l (.returned J) O):=by
    have b:O.ownsRow 0 2 1 J l.length (l.map (Value.int .i64)):=by rw[H.out,E.out];simpa using G
    obtain⟨S,C,rfl⟩:=QaR b
    have m:l.length<=C:=by
     rcases b.2 with ⟨e,e0⟩|⟨g,cp,X,e,_,hh,U,_⟩
     ·rw[Value.slice.injEq] at e;omega
     ·rw[Value.slice.injEq] at e;omega
    refine⟨S,C,Z,m,b,fun x D=>?_,?_⟩
    ·rcases M x D with e | e
     ·simp[Value.ownBlock] at e;omega
     ·have:=Q.out;omega
    ·refine⟨d.os.trans f.out.os,d.tape.trans f.out.tape,d.output.trans f.out.output,Zt f.out.size d.size,fun k hk=>(d.block k (by have:=Q.out;omega) (fun e=>by simp[Value.ownBlock] at e;omega)).trans (f.out.block k hk)⟩
   obtain⟨S,C,rfl⟩:=QaR G
   clear G d M P N T f;go_wp2
   go_ret;exact R.out
theorem QgZ (h:intsL.In w Q l [.slice p l.length c]) (b:l.length<=1000000) :
 Calls prog 48 #[.slice p l.length c] w fun e w'=>Qcq w l e w' :=
 Qc9 (fun i a=>by obtain⟨g,o,e,-,-,d⟩:=ZI h a;exact⟨g,o,e,d⟩) b
def Qh6 (lo:Nat) (l:List Int) (v:Value) (w:World):Prop:=∃ a cap,v=.slice a l.length cap/\l.length<=cap/\w.ownsRow 0 2 1 (.slice a l.length cap) l.length (l.map (Value.int .i64))/\∀ x,(Value.slice a l.length cap).ownBlock=some x->lo<=x
theorem Qh6.below {lo:Nat}{w w':World}(h:Qh6 lo l v w) (b:Below w.heap.size w w'):Qh6 lo l v w':=by
 obtain⟨a,c,i,g,d,e⟩:=h
 exact⟨a,c,i,g,Q0 d (fun x f=>b.block x (XC (ZQ d f).choose_spec)),e⟩
section
variable {w w' w2:World}{b most n:Nat}{m:List (MFunc 6)}{M M' N:IM}{sc sa:Int}{g g1:MG}{e:Ending}
theorem QjG {w:World}{a0 g e f:Value}(h:w.heap[R]?=some (.cells #[a0,g,e,f] 44 (0,0))) (c a d b:Value) :
 ((((w.setCell ⟨R,0,none⟩ c).setCell ⟨R,1,none⟩ a).setCell ⟨R,2,none⟩ d).setCell ⟨R,3,none⟩ b).heap[R]?=some (.cells #[c,a,d,b] 44 (0,0)):=by
 have:=Qh (Qh (Qh (Qh h 0 c) 1 a) 2 d) 3 b
 simpa using this
end
theorem WIn.cells {w:World}(h:WIn w O l (.slice p n c)):∀ i,i<l.length->∃ g o,p=some ⟨g,o,none⟩/\w.cell? ⟨g,o+i,none⟩=some (Iv (l.getD i 0)):=fun i a=>by
 obtain⟨q,d,e,h⟩:=h
 cases e
 obtain⟨k,o,f,-,-,b⟩:=h i a
 exact⟨k,o,f,b⟩
def QnJ (w6:World) (Z cb co:Nat) (pb po:Option Addr) (lb lo:List Int) (t:Tmp) (v:Value) (w:World):Prop :=
 match ([(10,Qh6 w6.heap.size lb),(13,Qh6 w6.heap.size lo)]:List (Tmp × (Value->World->Prop))).lookup t with
 | some p=>p v w
 | none=>v=(([(3,.pointer (some ⟨Z,0,none⟩)),(8,.pointer (some ⟨Z,1,none⟩)),(9,.slice pb lb.length cb),(11,.pointer (some ⟨Z,2,none⟩)),(12,.slice po lo.length co),(14,.pointer (some ⟨Z,1,none⟩))]:List (Tmp × Value)).lookup t).getD undef
theorem wo2 {Z r s:Nat}{z q:Option Addr}{i lo:List Int}(H:w6.cell? ⟨Z,1,none⟩=some (.slice z i.length r)) (E:w6.cell? ⟨Z,2,none⟩=some (.slice q lo.length s)) (D:Hid (∀ wx,Below w6.heap.size w6 wx->Calls prog 48 #[.slice z i.length r] wx fun e w'=>Qcq wx i e w')) (G:Hid (∀ wx,Below w6.heap.size w6 wx->Calls prog 48 #[.slice q lo.length s] wx fun e w'=>Qcq wx lo e w')){Q:Exit->Act->World->Prop}
 (a:Act) (m:Nat) (I:a.tmps.size=m) (k:17<=m) (f:a.tmps.getD 3 undef=Pv Z 0)
 (hend:∀ ops vs w',(Qh6 w6.heap.size i) (vs 10) w'->(Qh6 w6.heap.size lo) (vs 13) w'->vs 14=Pv Z 1->Below w6.heap.size w6 w'->wpList prog ops Q (Qam 7 ((Tryz.f37.body.bind (Qi 2)).getD .skip)) (QM a vs [8,9,10,11,12,13,14]) w') :
 Code.wp prog ((Tryz.f37.body.bind (Qi 2)).getD .skip) Q a w6:=by
 conv=>arg 2;whnf
 refine Qg 7 (QnJ w6 Z r s z q i lo) (fun w=>Below w6.heap.size w6 w) (fun w w'=>Below w.heap.size w w') (outs:=[3]) (gs:=[]) (bs:=[true,true,true,true,true,true,true]) (by kernel_rfl) (n:=17) I k (by kernel_rfl) (by kernel_rfl) ?hR ?hG (QI Zr 1) ⟨f,Y⟩ ?hA ?hend
 case hR =>
  intro t v w w' B h;unfold QnJ at h |-;split at h
  ·rename_i p d
   simp only[List.lookup_cons,List.lookup_nil] at d
   split at d
   ·cases d;exact h.below B
   ·split at d
    ·cases d;exact h.below B
    ·cases d
  ·exact h
 case hG=>exact Y
 case hend=>exact fun ops vs w' b c=>hend ops vs w' (c 10 (by kernel_rfl)) (c 13 (by kernel_rfl)) (c 14 (by kernel_rfl)) b
 case hA =>
  repeat
   refine⟨fun a w b c K u=>?_,?_⟩
   focus first
    | obtain⟨j,-⟩:=c
      conv at j=>whnf;rhs;whnf
      have J:=Qk H b;have L:=Qk E b;go_simp;exact u _ _ Zr b Yz
    | obtain⟨j,-⟩:=c
      conv at j=>whnf;rhs;whnf
      go_simp;refine Xm (D.out w b) ?_;rintro F C ⟨l,y,rfl,A,o,f,g⟩;go_simp;exact u _ _ g (b.trans (g.mono b.size)) ⟨l,y,Yz,A,o,fun x hx=>Zt b.size (f x hx)⟩
    | obtain⟨j,-⟩:=c
      conv at j=>whnf;rhs;whnf
      go_simp;refine Xm (G.out w b) ?_;rintro F C ⟨l,y,rfl,A,o,f,g⟩;go_simp;exact u _ _ g (b.trans (g.mono b.size)) ⟨l,y,Yz,A,o,fun x hx=>Zt b.size (f x hx)⟩
  trivial
section
variable {w w' w2:World}{b most:Nat}{m:List (MFunc 6)}{M M':RM}{g g1:WG}
def QjH (lo:Nat) (M:RM) (v:Value) (w:World):Prop:=∃ vb vo,v=.agg #[Iv M.fin,vb,vo,Iv M.fuel]/\Qh6 lo M.back vb w/\Qh6 lo M.out vo w
theorem Qcf (S:WAt w b most m M g) (ho:M.out.length<=1000000) (hb:M.back.length<=1000000) :
 Calls prog 37 #[Pv b 0] w fun e w'=>∃ v,e=.returned v/\QjH w.heap.size M v w'/\Below w.heap.size w w':=by
 obtain⟨po,co,eo⟩:=QaR S.out
 obtain⟨pb,cb,eb,-⟩:=S.back
 have L:=Qc (ZP w (.cells #[Iv 0,Nv,Nv,Iv 0] 44));have BR:=Qc (Qe w #[Iv 0,Nv,Nv,Iv 0] 44);have z:=S.below L.out;have q5:=Qb z.box 5 _ Yz;have q6:(w.alloc (.cells #[Iv 0,Nv,Nv,Iv 0] 44)).cell? ⟨b,6,none⟩=some g.vb:=Qb z.box 6 _ Yz;have q7:(w.alloc (.cells #[Iv 0,Nv,Nv,Iv 0] 44)).cell? ⟨b,7,none⟩=some g.vo:=Qb z.box 7 _ Yz;have q8:=Qb z.box 8 _ Yz;rw[eb] at q6
 rw[eo] at q7
 have HB:=Qc z.back;have HO:=Qc z.out;rw[eb] at HB
 rw[eo] at HO
 clear S z eo eb;go_enter func37,ntmps37
 go_upto_region 1 with fail
 generalize w.alloc (.cells #[Iv 0,Nv,Nv,Iv 0] 44)=K at L BR q5 q6 q7 q8 HB HO |-;generalize hR:w.heap.size=R at BR |-;have HR:=Qc hR;clear hR;have I:=Qc (ZP K (.cells #[Iv M.fin,.slice pb M.back.length cb,.slice po M.out.length co,Iv M.fuel] 44));have A:=Qc (Qe K #[Iv M.fin,.slice pb M.back.length cb,.slice po M.out.length co,Iv M.fuel] 44);go_upto_region 2 with fail
 have E:Hid (R≠K.heap.size):=by show _≠_;have:=XC BR.out;omega
 have B:Hid (w.heap.size<=K.heap.size):=L.out.size;generalize K.alloc (.cells #[Iv M.fin,.slice pb M.back.length cb,.slice po M.out.length co,Iv M.fuel] 44)=J at I A |-;generalize K.heap.size=Z at A E B |-;have CB:Hid (∀ r,Below J.heap.size J r->Calls prog 48 #[.slice pb M.back.length cb] r fun e w'=>Qcq r M.back e w'):=fun r bx=>Qc9 (WIn.cells (WIn.keep (fun k _ f=>bx.block k f) (fun _ h _=>h) (WIn.keep (fun k _ f=>I.out.block k f) (fun _ h _=>h) HB.out))) hb;have CO:Hid (∀ r,Below J.heap.size J r->Calls prog 48 #[.slice po M.out.length co] r fun e w'=>Qcq r M.out e w'):=fun r bx=>Qc9 (WIn.cells (WIn.keep (fun k _ f=>bx.block k f) (fun _ h _=>h) (WIn.keep (fun k _ f=>I.out.block k f) (fun _ h _=>h) (HO.out.lin (O:=fun _=>True) (fun _ _=>trivial))))) ho;have G:=Qc (L.out.trans (I.out.mono L.out.size));have U:=Qc (Blk.below BR.out I.out);refine wo2 (Qb A.out 1 _ Yz) (Qb A.out 2 _ Yz) CB CO _ _ Yz (Xg (by kernel_rfl)) Yz ?_;rintro af vs q ⟨i,l,s,V,ad,Q⟩ ⟨j,a,u,T,W,P⟩ t b5;show wpList _ af _ [_,_,_] (QM _ vs [8,9,10,11,12,13,14]) q;simp only[QM,Act.put,List.setIfInBounds_toArray,List.set_cons_zero,List.set_cons_succ,s,u,t]
 have c:=Blk.below A.out b5;have ag:=Qc (Blk.below U.out b5);have B5:=Qc (G.out.trans (b5.mono G.out.size));have ae:Hid (Z<J.heap.size):=XC A.out;have C:=Qc (Xh ad Q);have H:=Qc (Xh W P);have ac:=Qc (Xh V T);have k0:=Qb c 0 _ Yz;have k1:=Qb c 1 _ Yz;have k2:=Qb c 2 _ Yz;have k3:=Qb c 3 _ Yz;have y0:=Qj c 0;have y1:=Qj c 1;have y2:=Qj c 2;have y3:=Qj c 3;have D:=Qh (Qh c 1 (.slice i M.back.length l)) 2 (.slice j M.out.length a);have D:Hid (((q.setCell ⟨Z,1,none⟩ (.slice i M.back.length l)).setCell ⟨Z,2,none⟩ (.slice j M.out.length a)).heap[Z]?=some (.cells #[Iv M.fin,.slice i M.back.length l,.slice j M.out.length a,Iv M.fuel] 44 (0,0))):=D.trans (by simp);have F:Hid (∀ k,k≠Z->((q.setCell ⟨Z,1,none⟩ (.slice i M.back.length l)).setCell ⟨Z,2,none⟩ (.slice j M.out.length a)).heap[k]?=q.heap[k]?):=fun k f=>by rw[Xd _ _ _ _ f,Xd _ _ _ _ f]
 have ah:Hid (q.heap.size=((q.setCell ⟨Z,1,none⟩ (.slice i M.back.length l)).setCell ⟨Z,2,none⟩ (.slice j M.out.length a)).heap.size):=by show _=_;simp
 have N:Hid (Below w.heap.size w ((q.setCell ⟨Z,1,none⟩ (.slice i M.back.length l)).setCell ⟨Z,2,none⟩ (.slice j M.out.length a))):=(B5.out.setCell (p:=⟨Z,1,none⟩) B.out _).setCell (p:=⟨Z,2,none⟩) B.out _;clear s u t V ad Q T W P b5 CB CO c A q5 q6 q7 q8 HB HO L I;go_upto_region 3 with fail
 generalize (q.setCell ⟨Z,1,none⟩ (.slice i M.back.length l)).setCell ⟨Z,2,none⟩ (.slice j M.out.length a)=w6 at D F ah N |-;clear k0 k1 k2 k3 y0 y1 y2 y3;have d:=Qc ((F.out R E.out).trans ag.out);have e0:=Qb D.out 0 _ Yz;have e1:=Qb D.out 1 _ Yz;have e2:=Qb D.out 2 _ Yz;have e3:=Qb D.out 3 _ Yz;have r0:=Qb d.out 0 _ Yz;have r1:=Qb d.out 1 _ Yz;have r2:=Qb d.out 2 _ Yz;have r3:=Qb d.out 3 _ Yz;have z0:=Qj d.out 0;have z1:=Qj d.out 1;have z2:=Qj d.out 2;have z3:=Qj d.out 3;have ai:¬ R=Z:=E.out;go_wp2_with fail
 have X:=QjG d.out (Iv M.fin) (.slice i M.back.length l) (.slice j M.out.length a) (Iv M.fuel);have o:w.heap.size<=R:=by rw[HR.out];exact Ze
 have B9:=(((N.out.setCell (p:=⟨R,0,none⟩) o (Iv M.fin)).setCell (p:=⟨R,1,none⟩) o (.slice i M.back.length l)).setCell (p:=⟨R,2,none⟩) o (.slice j M.out.length a)).setCell (p:=⟨R,3,none⟩) o (Iv M.fuel);have O9:∀ k,k≠R->((((w6.setCell ⟨R,0,none⟩ (Iv M.fin)).setCell ⟨R,1,none⟩ (.slice i M.back.length l)).setCell ⟨R,2,none⟩ (.slice j M.out.length a)).setCell ⟨R,3,none⟩ (Iv M.fuel)).heap[k]?=w6.heap[k]?:=fun k f=>by rw[Xd _ _ _ _ f,Xd _ _ _ _ f,Xd _ _ _ _ f,Xd _ _ _ _ f]
 generalize ((((w6.setCell ⟨R,0,none⟩ (Iv M.fin)).setCell ⟨R,1,none⟩ (.slice i M.back.length l)).setCell ⟨R,2,none⟩ (.slice j M.out.length a)).setCell ⟨R,3,none⟩ (Iv M.fuel))=w9 at X B9 O9 |-
 have n:∀ x,J.heap.size<=x->w9.heap[x]?=q.heap[x]?:=fun x y=>by
  have h1:=ae.out;have h2:=XC U.out;exact(O9 x (by omega)).trans (F.out x (by omega))
 have f0:=Qb X 0 _ Yz;have f1:=Qb X 1 _ Yz;have f2:=Qb X 2 _ Yz;have f3:=Qb X 3 _ Yz;have aa:=G.out.size;exact Xy (v:=.agg #[Iv M.fin,.slice i M.back.length l,.slice j M.out.length a,Iv M.fuel]) (by simp[results,results37,go_sem,f0,f1,f2,f3]) Yz ⟨_,Yz,⟨_,_,Yz,⟨i,l,Yz,ac.out.1,Q0 C.out.1 (fun x y=>n x (C.out.2 x y)),fun x y=>Zt aa (C.out.2 x y)⟩,⟨j,a,Yz,ac.out.2,Q0 H.out.1 (fun x y=>n x (H.out.2 x y)),fun x y=>Zt aa (H.out.2 x y)⟩⟩,B9⟩
end
def QgP {α:Type}(A:Lay α) (w w':World) (l:List α) (e:Ending):Prop:=∃ a' c',e=.returned (.slice a' l.length c')/\A.list.In w' (Qcv w.heap.size) l [.slice a' l.length c']/\Below w.heap.size w w'
def iv (l:List Int):List Value:=l.map (fun x=>Value.int .i64 x)
theorem Qkf {lo:Nat}(h:w.ownsRow lo e 1 v l.length (iv l)) (d:∀ x∈l,I64 x):intsL.In w (Qcv lo) l [v] :=
 Qap.lay (A:=Lay.int) (e:=e) (xs:=iv l) ⟨h,fun i x a=>by
  have f:Lay.int.size=1:=rfl;rw[f,XL]
  have c:((iv l).drop i).take 1=[Iv x]:=by
   obtain⟨b,e⟩:=Zi a
   unfold iv;rw[<-List.map_drop,List.drop_eq_getElem_cons b]
   simp[e]
  rw[c]
  exact⟨Z,d x (Zm a)⟩⟩
theorem Qkh (h:intsL.In w O l [.slice a m c]):∀ x∈l,I64 x:=by
 intro x d;obtain⟨i,b⟩:=List.mem_iff_getElem?.1 d
 obtain⟨g,o,f,_,_,_,_,e⟩:=Yf h b
 exact e.2
theorem Qk1 (h:intsL.In w O l [.slice a m c]) (n:0<l.length) :
 ∃ ad,a=some ad/\ad.block<w.heap.size/\∀ j v,(iv l)[j]?=some v->w.cell? (ad.add j)=some v:=by
 obtain⟨g,o,e,_,d,_⟩:=ZI h n
 refine⟨⟨g,o,none⟩,e,d,fun j v i=>?_⟩
 have b:j<l.length:=by have:=(Zi i).1;simpa[iv] using this
 obtain⟨p,q,f,_,_,k⟩:=ZI h b
 rw[e] at f
 cases f
 rw[show (⟨g,o,none⟩:Addr).add j=⟨g,o+j,none⟩ from by unfold Addr.add;split<;>simp_all,k,<-i]
 simp[iv,List.getD,b]
theorem QcL (l:List Int):(iv l).length=l.length:=by simp[iv]
theorem Qml (l:List Int):∀ v∈iv l,v.oneCell'=true:=by
 intro v a;obtain⟨x,_,rfl⟩:=List.mem_map.1 a
 rfl
theorem underIs:prog.underlying 76=some (.slice 3):=by kernel_rfl
theorem infoI:(prog.info? 3).map (fun i=>(i.zero,i.size,i.bytes))=some (some (Iv 0),1,8):=by kernel_rfl
theorem infoI1:(prog.info? 3).map (·.size)=some 1:=by kernel_rfl
theorem QaW (l:List Int) (p:Option Addr) (c:Nat) (w:World) (i:intsL.In w All l [.slice p l.length c]) (s:l.length<=4294967296) :
 Calls prog 231 #[.slice p l.length c] w fun e w'=>QgP Lay.int w w' l e:=by
 have u:Hid _:=i;have z:Hid _:=Qkh i;clear i;have q:=fun A=>run_make_row' (P:=prog) 76 3 (Iv 0) 8 underIs infoI Z .i64 .i64 l.length (by omega) (by omega) A
 have d:(w.alloc (.cells (madeCells #[Iv 0] l.length) 3)).heap[w.heap.size]?=some (.cells (madeCells #[Iv 0] l.length).toList.toArray 3 (0,0)):=by
  rw[Array.toArray_toList];exact Qe w _ _
 have g:(iv l).length=Nat.min l.length l.length:=by rw[QcL];exact(Nat.min_self _).symm
 have h:Hid (0<(iv l).length->(some ⟨w.heap.size,0,none⟩:Option Addr)=some ⟨w.heap.size,0,none⟩/\∃ m,p=some m/\∀ j v,(iv l)[j]?=some v->(w.alloc (.cells (madeCells #[Iv 0] l.length) 3)).cell? (m.add j)=some v):=by
  intro r;rw[QcL] at r
  obtain⟨m,e,n,x⟩:=Qk1 u.out r
  exact⟨Z,m,e,fun j v y=>(XU (w:=w) (a:=m.add j) (Below.heap_alloc _ _ _ (by unfold Addr.add;split<;>exact n))).trans (x j v y)⟩
 have f:0+(iv l).length<=(madeCells #[Iv 0] l.length).toList.length:=by rw[QcL,toList_madeCells_one];simp
 have k:Hid (Below w.heap.size w (w.alloc (.cells (madeCells #[Iv 0] l.length) 3))):=(Below.refl _ w).alloc Ze _;go_enter func231,ntmps231
 go_wp2_with (refine wpList_copy_splice Z (.tmp 7) (.tmp 8) 76 76 Z 3 underIs infoI1 _ _ l.length l.length l.length c Z Z w.heap.size 0 (madeCells #[Iv 0] l.length).toList 3 d (iv l) g h.out f (Qml l) w.heap.size w k.out Ze ?_)
 ·intro w' o b;clear h f k d g
  have R:Hid (QgP Lay.int w w' l (.returned (.slice (some ⟨w.heap.size,0,none⟩) l.length l.length))):=by
   have t:splice (madeCells #[Iv 0] l.length).toList 0 (iv l)=iv l:=by
    rw[toList_madeCells_one];simp[splice,QcL]
   rw[t] at o
   refine⟨_,_,Z,Qkf ⟨by rw[QcL,XL],Or.inr ⟨w.heap.size,l.length,(iv l).toArray,Z,Ze,o.out,Ze,by unfold maxLen;omega,by simp[QcL],?_⟩⟩ z.out,b⟩
   rw[XL,<-QcL l];simp
  clear o b q;go_wp2
  go_ret;exact R.out
theorem QaK {rest:List Oper}{o:Oper}{a:Act}{Q:Exit->Act->World->Prop}(c:o.guard=none) (s x:Operand) (t:TypeId)
 (i:o.op=.call { callee:=.builtin .append,args:=#[s,x],argTypes:=#[t,t] }) (v d:Value) (g:a.eval s=v) (e:a.eval x=d) (b:(Builtin.append_ #[t,t] o.type #[v,d]).run P w=.ok v w)
 (h:wpList P ops Q rest (a.put o.dst v) w):wpList P ops Q (o::rest) a w:=by
 refine wpList_plain c fun K f=>?_;unfold Oper.wp;simp[execOp,i,resolve,invoke,builtin,g,e,b,Result.andThen]
 exact f _ _ h
abbrev FV:Value:=.func (.func 261) #[] #[]
theorem QhH (n:Nat) (D:QiD 261 n) (l m:List (TT n)) (a b:Option Addr) (c d:Nat) (w:World) (z:LIn w All l a) (F:LIn w All m b) (aa:l.length<=100000) (u:∀ x∈l,x.count<=100000) :
 Calls prog 260 #[.slice a l.length c,.slice b m.length d,FV] w fun e w'=>ZM e (l=m)/\Below w.heap.size w w':=by
 have IH:Hid (QiD 261 n):=D;have hl:Hid (LIn w All l a):=z;have hm:Hid (LIn w All m b):=F;have S:Hid (∀ x∈l,x.count<=100000):=u;clear D z F u;by_cases k:l.length=m.length
 ·have I:((l.length:Int) != (m.length:Int))=false:=by simp;omega
  have E:Hid (l.length=m.length):=k;clear k;go_enter func260,ntmps260
  go_wp2_with fail
  go_loopw [17] (fun i wr=>∃ q:Nat,q<=l.length/\i=Iv q/\(∀ j,j<q->l[j]?=m[j]?)/\Below w.heap.size w wr) (fun i _=>l.length - (intOf i).toNat)
  case atStart=>exact⟨0,Xb _,Z,fun j hj=>by omega,Zr⟩
  case round =>
   obtain⟨q,hq,rfl,v,G⟩:=hrel
   have A:Hid (∀ j,j<q->l[j]?=m[j]?):=v;have B:Hid (Below w.heap.size w wr):=G;clear v G;by_cases O:q<l.length
   ·have H:l[q]?=some l[q]:=Zg O;have V:q<m.length:=by have:=E.out;omega
    have L:m[q]?=some m[q]:=Zg V;generalize l[q]=x at H;generalize m[q]=y at L;obtain⟨g,o,T,U,rfl,_,d0,d1,d2,hk⟩:=LIn.at (hl.out.below B.out) H
    obtain⟨g',o',Q,X,rfl,_,W,d4,d5,K⟩:=LIn.at (hm.out.below B.out) L
    have C:Hid (∀ J,Below wr.heap.size wr J->Calls prog 261 #[Tv x T U,Tv y Q X] J fun e w'=>ZM e (x=y)/\Below J.heap.size J w') :=
     fun J G=>IH.out x y T Q U X _ (hk.below G) (K.below G) (S.out x (Zm H))
    have s:Hid (l[q]?=some x):=H;have t:Hid (m[q]?=some y):=L;have hg:g<wr.heap.size:=Xi wr ⟨g,o+q*3,none⟩ d0;have ad:g'<wr.heap.size:=Xi wr ⟨g',o'+q*3,none⟩ W;clear hk K H L;simp only[Tv] at C
    generalize x.kind=kx at C d0;generalize x.r=rx at C d1;generalize x.len=lx at C d2;generalize y.kind=ky at C W;generalize y.r=ry at C d4;generalize y.len=ly at C d5;have ab:(0:Int)<=q:=by omega
    have P:(q:Int)<l.length:=by omega
    have ac:(q:Int)<m.length:=by omega
    go_wp2_with fail
    have N:Below wr.heap.size wr ((wr.alloc (.cells #[Iv kx,Iv rx,.slice T lx U] 105)).alloc (.cells #[Iv ky,Iv ry,.slice Q ly X] 105)):=((Below.refl _ wr).alloc Ze _).alloc (by simp) _;refine(C.out _ N).mono ?_
    rintro r w5 ⟨⟨p,rfl,M⟩,b5⟩;have HB:Hid (Below w.heap.size w w5):=(B.out.trans (N.mono B.out.size)).trans (b5.mono (Zt B.out.size N.size));clear C b5 B d0 d1 d2 W d4 d5 N
    cases p with
    | true =>
      have f:x=y:=M.1 Z
      have A2:Hid (∀ j,j<q+1->l[j]?=m[j]?):=fun j hj=>by
       by_cases e:j=q
       ·subst e;rw[s.out,t.out,f]
       ·exact A.out j (by omega)
      clear M f s t A;go_wp2
      go_roundw
      case rel=>exact⟨q+1,by omega,by go_num,A2.out,HB.out⟩
      case measure=>simp[intOf];omega
    | false =>
      have f:Hid (¬ l=m):=fun h=>by
       have h1:=s.out;rw[h,t.out] at h1
       have:=M.2 (Xn h1).symm
       cases this
      clear M s t A;go_wp2
      go_ret;exact⟨ZM.no f.out,HB.out⟩
   ·have R:Hid (l=m):=by
     have:=E.out
     refine List.ext_getElem? (fun i=>?_);by_cases hi:i<q
     ·exact A.out i hi
     ·rw[Xk (by omega),Xk (by omega)]
    have P:¬ (q:Int)<l.length:=by omega
    clear A;go_wp2
    go_ret;exact⟨ZM.yes R.out,B.out⟩
 ·have I:((l.length:Int) != (m.length:Int))=true:=by simp;omega
  have E:Hid (l.length≠m.length):=k;clear k;go_enter func260,ntmps260
  go_wp2
  go_ret;exact⟨ZM.no (fun h=>E.out (by rw[h])),Zr⟩
theorem same_any:∀ n,QiD 261 n:=by
 intro n
 induction n with
 | zero=>intro t;exact Empty.elim t
 | succ n ih =>
   intro t u a b c d w y D G;have i:∀ x∈t.2.2,x.count<=100000:=fun x J=>by have:=t.count_kid J;omega
   have f:t.2.2.length<=100000:=by have:=t.len_lt_count;rw[t.len_eq] at this;omega
   have C:Hid (∀ g,Below w.heap.size w g->Calls prog 260 #[.slice a t.2.2.length c,.slice b u.2.2.length d,FV] g fun e L=>ZM e (t.2.2=u.2.2)/\Below g.heap.size g L) :=
    fun g z=>QhH n ih t.2.2 u.2.2 a b c d g (y.below z) (D.below z) f i
   rw[TT.eq_iff]
   simp only[Tv,TT.len_eq] at C |-
   generalize t.2.2.length=p at C |-;generalize u.2.2.length=q at C |-;generalize (t.2.2=u.2.2)=E at C |-;generalize t.kind=k;generalize t.r=r;generalize u.kind=s;generalize u.r=o;clear i f G y D ih t u;by_cases l:k=s
   ·subst l;by_cases j:r=o
    ·subst j;go_enter func261,ntmps261
     go_wp2_with fail
     have m:Below w.heap.size w ((w.alloc (.cells #[Iv k,Iv r,.slice a p c] 105)).alloc (.cells #[Iv k,Iv r,.slice b q d] 105)):=((Below.refl _ w).alloc Ze _).alloc (by simp) _;refine(C.out _ m).mono ?_
     rintro e I ⟨⟨v,rfl,A⟩,F⟩;have B:Hid (Below w.heap.size w I):=m.trans (F.mono m.size);have V:Hid (v=true↔E):=A;clear F C A m
     cases v
     all_goals
      go_wp2
      go_ret
     ·exact⟨ZM.no (fun h=>by have:=V.out.2 h.2.2;cases this),B.out⟩
     ·exact⟨ZM.yes (by have:=V.out;simpa using this),B.out⟩
    ·have H:(r==o)=false:=by simpa using j
     have R:Hid (¬ r=o):=j;clear j;go_enter func261,ntmps261
     go_wp2_with fail
     go_ret;exact⟨ZM.no (fun h=>R.out h.2.1),((Below.refl _ w).alloc Ze _).alloc (by simp) _⟩
   ·have K:(k==s)=false:=by simpa using l
    have R:Hid (¬ k=s):=l;clear l;go_enter func261,ntmps261
    go_wp2_with fail
    go_ret;exact⟨ZM.no (fun h=>R.out h.1),((Below.refl _ w).alloc Ze _).alloc (by simp) _⟩
section
variable {α:Type}{A:Lay α}{e:TypeId}{w w':World}{lo g n q s:Nat}{l:List α}{xs:List Value}{x:α}{ds:List Value}
theorem Qap.start (k:A.size=s) (h:w.ownsRow lo e s (.slice (some ⟨g,0,none⟩) m m) m xs):Qap A e w lo (.slice (some ⟨g,0,none⟩) 0 m) (l.take 0) []:=by
 subst k;obtain⟨r,o⟩:=h
 rcases o with ⟨a,_⟩|⟨t,j,b,a,p,n,q,d,f,c⟩
 ·simp at a
 ·simp only[Value.slice.injEq,Option.some.injEq,Addr.mk.injEq,and_true,true_and] at a
  obtain⟨rfl,rfl⟩:=a
  exact⟨⟨by simp,.inr ⟨g,m,b,Z,p,n,Xb _,d,f,by simp⟩⟩,fun i x h=>by simp at h⟩
theorem Qap.blk (h:Qap A e w lo (.slice (some ⟨g,0,none⟩) q n) l xs) (j:A.size=s):∃ c,Blk w g c e/\c.size=n*s:=by
 subst j;obtain⟨r,m⟩:=h.own
 rcases m with ⟨a,_⟩|⟨u,i,b,a,t,k,p,o,f,d⟩
 ·simp at a
 ·simp only[Value.slice.injEq,Option.some.injEq,Addr.mk.injEq,and_true,true_and] at a
  obtain⟨rfl,-,rfl⟩:=a
  exact⟨b,k,f⟩
theorem Qap.fillq (h:Qap A e w lo (.slice (some ⟨g,0,none⟩) q n) (l.take q) xs) (d:A.size=s) (j:q<l.length) (i:l.length=n) (b:l[q]?=some x) (c:A.In w (fun k=>lo<=k/\k≠g) x ds) (f:w'=w.setCells g (0+q*s) ds) :
 ∃ xs',Qap A e w' lo (.slice (some ⟨g,0,none⟩) (q+1) n) (l.take (q+1)) xs':=by
 subst d f;have a:(l.take q).length=q:=by simp;omega
 have T:l.take (q+1)=l.take q++[x]:=by rw[XV,b];rfl
 have:=Qap.fill (l:=l.take q) (g:=g) (n:=n) (by rw[a];exact h) c (by omega)
 rw[a] at this
 rw[T,XK]
 exact⟨_,this⟩
theorem Qap.done (h:Qap A e w lo (.slice (some ⟨g,0,none⟩) q n) (l.take q) xs) (a:q=l.length):A.list.In w (Qcv lo) l [.slice (some ⟨g,0,none⟩) l.length n]:=by
 have:=h.lay
 subst a;rw[List.take_length] at this
 exact this
end
theorem QbL {z:Value}{s:Nat}(h:(prog.info? t).map (fun i=>(i.zero,i.size,i.bytes))=some (some z,s,b)):∃ i,prog.info? t=some i/\i.zero=some z/\i.size=s/\i.bytes=b:=by
 obtain⟨i,a,e⟩:=Option.map_eq_some_iff.1 h
 simp only[Prod.mk.injEq] at e
 exact⟨i,a,e⟩
theorem infoIns:(prog.info? 78).map (fun i=>(i.zero,i.size,i.bytes))=some (some (.agg #[Iv 0,Iv 0,Iv 0,Iv 0,Iv 0,Iv 0,Nv,Nv]),8,96):=by kernel_rfl
theorem infoBlock:(prog.info? 86).map (fun i=>(i.zero,i.size,i.bytes))=some (some (.agg #[Iv 0,Nv,Nv,Iv 0,Iv 0,Iv 0,Nv,Nv,Iv 0,Nv,Nv,Nv]),12,208):=by kernel_rfl
theorem infoFunc:(prog.info? 89).map (fun i=>(i.zero,i.size,i.bytes))=some (some (.agg #[Iv 0,Nv,Nv,Nv]),4,80):=by kernel_rfl
section
open Go.Deep
def Wt {H:Type}(P:Program) (t:TypeId) (d:DataW H):Prop:=∀ n∈d.weights P t,n<=reachBytes
def Qy (P:Program) (t:TypeId){α:Type}(A:Lay α) (n:Nat) (Bd:α->Prop):Prop :=
 P.cellsOf t=A.size/\∀ {H:Type} {enc:TypeId × Value->H} {w:World} {base:Nat} {spare:Nat->Bool} {held:Bool} {fuel:Nat} {cs:List Value} {x:DataW H × List MemPlace},
  fuel<=n->DataW.trod enc P w base spare held fuel t cs=some x->Wt P t x.1->∃ d,A.In w (fun _=>True) d cs/\Bd d
theorem Qy.int (n:Nat) (h:P.underlying t=some (.int .i64)) (c:P.cellsOf t=1):Qy P t Lay.int n (fun _=>True) :=
 ⟨c,fun _ b _=>by
  obtain⟨k,e,_,a⟩:=DataW.trod_int h b
  exact⟨k,⟨e,Go.bounds_i64 a⟩,Y⟩⟩
theorem Qbj {H:Type}{P:Program}{e:TypeId}:∀ {l:List (DataW H)}{d:DataW H},d∈l->∀ n∈d.weights P e,n∈DataW.weightsAll P e l
 | d0::l,d,h,n,hn=>by
   simp only[DataW.weightsAll,List.mem_append]
   rcases List.mem_cons.1 h with rfl | h
   ·exact .inl hn
   ·exact .inr (Qbj h n hn)
theorem Qy.list {α:Type}{A:Lay α}{Bd:α->Prop}(h:P.underlying t=some (.slice e)) (hc:P.cellsOf t=1) (U:Qy P e A n Bd) (G:0<A.size) (Q:0<P.bytesOf e):Qy P t A.list n (fun l=>l.length<1152921504606846976) :=
 ⟨hc,fun {H ad w E O ab X cs x} hf h' V=>by
  rcases DataW.trod_slice h h' with ⟨I,_⟩|⟨a,o,M,c,g,q,rfl,I,ex,hb,hl,hm,aa,T,_,_⟩
  ·exact⟨[],by rw[I];exact Yg A _ _ _ _,by simp⟩
  ·have af:(c.length+g.length)*P.bytesOf e<=reachBytes:=V _ (by rw[ex];simp[DataW.weights,h])
   have ac:o<1152921504606846976:=by
    have h1:c.length*1<=(c.length+g.length)*P.bytesOf e:=Nat.mul_le_mul (by omega) Q;have h2:reachBytes<1152921504606846976:=by decide
    omega
   have C:∀ i,i<o->∃ y,c[i]?=some y/\Wt P e y.1:=fun i D=>by
    refine⟨c[i]'(by omega),Zg (by omega),fun k hk=>V k ?_⟩
    rw[ex]
    simp only[DataW.weights,h,List.mem_cons,List.mem_append]
    exact .inr (.inl (Qbj (List.mem_map_of_mem (List.getElem_mem (by omega))) k hk))
   obtain⟨l,J,hp⟩:=Qkx (P:=fun i (d:α)=>∃ f,w.cells? E (a.add (i*A.size)) A.size=some f/\A.In w (fun _=>True) d f) o (fun i D=>by
    have R:=T i D;obtain⟨y,hy,L⟩:=C i D
    rw[hy,U.1] at R
    rw[Option.bind_eq_some_iff] at R
    obtain⟨f,m,N⟩:=R
    obtain⟨d,F,_⟩:=U.2 (by omega) N L
    exact⟨d,f,m,F⟩)
   refine⟨l,⟨some a,M,by rw[I,J],fun i x W=>?_⟩,by omega⟩
   obtain⟨f,m,F⟩:=hp i x W
   obtain⟨_,ae,s⟩:=World.cells?_some m
   obtain⟨b,u,v⟩:=a
   have r:v=none:=by
    have D:0<l.length:=Nat.lt_of_le_of_lt (Xb i) (Zi W).1;obtain⟨S,B,K⟩:=hp 0 l[0] (Zg D)
    have p:0<S.length:=by rw[A.len K];exact G
    have:=(World.cells?_some B).2.2 0 G
    rw[Zg p] at this
    simpa[Addr.add] using World.cell?_spot this
   subst r
   have z:∀ j,j<A.size->w.cell? ⟨b,u+i*A.size+j,none⟩=f[j]?:=fun j hj=>by
    have:=s j hj
    rw[Go.WideShapes.add_plain,Go.WideShapes.add_plain] at this
    exact this
   refine⟨b,u,f,Z,Y,?_,z,F⟩
   have p:0<f.length:=by rw[A.len F];exact G
   have:=z 0 G
   rw[Zg p] at this
   exact Xi w _ this⟩
def QH (P:Program) (fs:Array Field):Nat->Nat->{α:Type}->Lay α->Nat->(α->Prop)->Prop:=fun i o α A n Bd =>
 ∀ (H:Type) (enc:TypeId × Value->H) (w:World) (base:Nat) (spare:Nat->Bool) (held:Bool) (fuel:Nat) (cs:List Value) (xs:List (DataW H × List MemPlace)),
  fuel<=n->cs.length=o+A.size->xs.length=fs.size->(∀ (j:Nat) (f:Field),fs[j]?=some f->DataW.trod enc P w base spare held fuel f.type ((cs.drop f.offset).take (P.cellsOf f.type))=xs[j]?) ->
  (∀ (j:Nat) (f:Field) x,fs[j]?=some f->xs[j]?=some x->Wt P f.type x.1)->∃ d,A.In w (fun _=>True) d (cs.drop o)/\Bd d
theorem QH.last {fs:Array Field}{o:Nat}{f:Field}{α:Type}{A:Lay α}{l:α->Prop}(b:fs[i]?=some f) (s:f.offset=o) (c:Qy P f.type A n l):QH P fs i o A n l:=by
 intro H m w j a e k z y p x v h t;have g:=h i f b;have u:i<fs.size:=(Array.getElem?_eq_some_iff.1 b).1;rw[Zg (by omega),s,c.1] at g
 obtain⟨d,q,r⟩:=c.2 p g (t i f _ b (Zg (by omega)))
 refine⟨d,?_,r⟩
 rwa [XO (by simp;omega)] at q
theorem QH.cons {fs:Array Field}{o:Nat}{f:Field}{α β:Type}{A:Lay α}{B:Lay β}{l:α->Prop}{p:β->Prop}(b:fs[i]?=some f) (v:f.offset=o) (j:Qy P f.type A n l) (D:QH P fs (i+1) (o+A.size) B n p):QH P fs i o (A.pair B) n (fun x=>l x.1/\p x.2):=by
 intro H t w s a r m F I q E C h k;have g:=h i f b;have G:i<fs.size:=(Array.getElem?_eq_some_iff.1 b).1;rw[Zg (by omega),v,j.1] at g
 obtain⟨d,u,y⟩:=j.2 q g (k i f _ b (Zg (by omega)))
 have J:(A.pair B).size=A.size+B.size:=rfl;obtain⟨e,z,c⟩:=D _ _ _ _ _ _ _ _ _ q (by omega) C h k
 refine⟨(d,e),⟨_,_,?_,u,z⟩,y,c⟩
 rw[<-List.drop_drop,List.take_append_drop]
theorem Qy.struct {fs:Array Field}{α:Type}{A:Lay α}{i:α->Prop}(h:P.underlying t=some (.struct fs)) (g:P.cellsOf t=A.size) (r:QH P fs 0 0 A n i):Qy P t A n i :=
 ⟨g,fun {H q w p c o l F x} G E B=>by
  obtain⟨I,m,rfl,C,a,b,e⟩:=DataW.trod_struct h E
  obtain⟨d,s,v⟩:=r _ _ _ _ _ _ _ _ _ (by omega) (by rw[a,g];omega) b e (fun j f y z u k D=>B k (by
   rw[C]
   simp only[DataW.weights,h]
   exact DataW.weights_mem_each (j:=j) (t:=f.type) (d:=y.1) (by simp[z]) (by simp[u]) k D))
  exact⟨d,by simpa using s,v⟩⟩
theorem Qy.via {α β:Type}{A:Lay α}{f:β->α}{a:α->Prop}(h:Qy P t A n a) (g:α->β) (b:∀ d,f (g d)=d):Qy P t (A.via f) n (fun x=>a (f x)) :=
 ⟨h.1,fun e c k=>by
  obtain⟨d,i,j⟩:=h.2 e c k
  exact⟨g d,by show A.In _ _ (f (g d)) _;rw[b];exact i,by show a (f (g d));rw[b];exact j⟩⟩
theorem own:ownKnob prog.godebug=none:=by kernel_rfl
theorem laidOut:laidOutB prog=true:=by kernel_rfl
theorem fieldsT:∃ f0 f1 f2:Field,prog.underlying 105=some (.struct #[f0,f1,f2]) /\
 (f0.offset=0/\prog.cellsOf f0.type=1/\prog.underlying f0.type=some (.int .i64))/\(f1.offset=1/\prog.cellsOf f1.type=1/\prog.underlying f1.type=some (.int .i64)) /\
 (f2.offset=2/\prog.cellsOf f2.type=1/\f2.type=80) :=
 ⟨_,_,_,underlying105,⟨Z,by kernel_rfl,by kernel_rfl⟩,⟨Z,by kernel_rfl,by kernel_rfl⟩,⟨Z,by kernel_rfl,Z⟩⟩
theorem QmR (n:Nat):Qy prog 105 (Lay.tt n) n (fun _=>True) :=
 ⟨by kernel_rfl,fun {H i w g d f b s x} o m v=>by
  obtain⟨y,u,r,e,q,p,k⟩:=fieldsT
  obtain⟨t,a,c,j,l,h⟩:=Qme (ti:=0) underlying80 e (by kernel_rfl) q p k n b o m
  exact⟨t,⟨a,c,j,l,h⟩,Y⟩⟩
theorem QaV (n:Nat):Qy prog 3 Lay.int n (fun _=>True):=Qy.int n underlying3 (by kernel_rfl)
theorem QlH (n:Nat):Qy prog 2 Lay.int n (fun _=>True):=Qy.int n underlying2 (by kernel_rfl)
theorem QfR (n:Nat):Qy prog 80 (Qp n) n (fun l=>l.length<1152921504606846976):=Qy.list underlying80 (by kernel_rfl) (QmR n) (by show 0<3;decide) (by rw[show prog.bytesOf 105=40 from by kernel_rfl];decide)
end
def QhX {α:Type}(A:Lay α) (w w':World) (x:α) (e:Ending):Prop:=∃ ds:List Value,e=.returned (.agg ds.toArray)/\A.In w' (Qcv w.heap.size) x ds/\Below w.heap.size w w'
theorem Qm4 (a:World) (z:Array Value) (t:TypeId)(b:cs.length=z.size):(a.alloc (.cells z t)).there a.heap.size 0 cs.toArray.size/\Blk ((a.alloc (.cells z t)).setCells a.heap.size 0 cs) a.heap.size cs.toArray t/\Below a.heap.size a ((a.alloc (.cells z t)).setCells a.heap.size 0 cs):=by
 have c:=Blk.new a z t;refine⟨Blk.there c (by simp[b]),?_,?_⟩
 ·have d:Blk (a.alloc (.cells z t)) a.heap.size ([]++z.toList).toArray t:=c;exact Blk.sets cs [] z.toList _ (by simpa using b) d
 ·exact QJ Ze cs _ _ 0 (Zd a _)
theorem Blk.setsA {c:Array Value}(h:Blk w R c t) (a:List Value) (b:a.length=c.size):Blk (w.setCells R 0 a) R a.toArray t:=Blk.sets a [] c.toList w (by simpa using b) h
theorem infoType0:(prog.info? 105).map (fun i=>(i.zero,i.size,i.bytes))=some (some (.agg #[Iv 0,Iv 0,Nv]),3,40):=by kernel_rfl
theorem Qbt {z:Value}(h:(prog.info? t).map (fun i=>(i.zero,i.size,i.bytes))=some (some z,s,b)):(prog.info? t).map (·.size)=some s:=by
 obtain⟨i,a,-,c,-⟩:=QbL h
 rw[a];simp[c]
theorem QbY {fn:Func}{R:Ending->World->Prop}{a:Act}{t:Tmp}{b g:TypeId}{c:Array Value}{d:TypeDesc}(j:fn.results=#[.cell t b]) (f:a.tmps.getD t undef=Pv B 0) (m:a.defers=[]) (i:Blk w B c g)
 (h:prog.underlying b=some d) (l:d.isRow=true) (hi:(prog.info? b).map (·.size)=some c.size) (k:R (.returned (.agg c)) w):bodyPost prog fn R .ret a w:=by
 refine Xy ?_ m k;have e:=run_loadVar_mid (P:=prog) w B 0 b c.toList d (Blk.range (by simpa using i)) h l (by simpa using hi);simp only[Array.toArray_toList] at e
 rw[Za] at f
 simp[results,j,f,asAddr,e]
theorem Qac {α:Type}{A:Lay α}{F K:FuncId}{l:List α}
 (hF:F=122/\A.size=3\/F=186/\A.size=8\/F=124/\A.size=12\/F=76/\A.size=4)
 (V:Qah K) (I:A.list.In w All l [.slice p l.length c]) (hb:l.length<=4294967296) (ab:∀ (w:World) (O:Nat->Prop) (x:α) (ds:List Value),A.In w O x ds->∀ v∈ds,v.oneCell'=true)
 (aa:∀ x∈l,∀ ds wx,A.In wx All x ds->Calls prog K #[.agg ds.toArray] wx fun e w'=>QhX A wx w' x e) :
 Calls prog F #[.slice p l.length c,.func (.func K) #[] #[]] w fun e w'=>QgP A w w' l e:=by
 have hl:=Qf I;have hf:=Qf aa;have h1:=Qf ab;have hE:∀ (args:Array Value) (w:World),(callFunc K args).run prog w=.ok (.enter K args) w:=V;clear I aa ab V;rcases hF with ⟨rfl,s⟩|⟨rfl,s⟩|⟨rfl,s⟩|⟨rfl,s⟩
 have S:=underlying105;have r:=Qbt infoType0;have H:=Qf fun (wx:World) (cs:List Value) (h:cs.length=3)=>Qm4 wx #[Iv 0,Iv 0,Nv] 105 h;obtain⟨D,t,m,b,f⟩:=QbL infoType0
 obtain⟨B,y,a,d⟩:=run_make_full (P:=prog) w w.heap.size 80 105 D _ 3 underlying80 t m b .i64 .i64 l.length (by rw[f];omega) (by unfold maxLen;omega) Ze
 clear t m b f;have J:Hid (Below w.heap.size w B):=(Below.refl _ w).grown d Ze (fun k r=>by cases r);have W:=Qf (Qap.start (l:=l) s a);clear d a;go_enter func122,ntmps122
 rotate_left
 have S:=underlying78;have r:=Qbt infoIns;have H:=Qf fun (wx:World) (cs:List Value) (h:cs.length=8)=>Qm4 wx #[Iv 0,Iv 0,Iv 0,Iv 0,Iv 0,Iv 0,Nv,Nv] 78 h;obtain⟨D,t,m,b,f⟩:=QbL infoIns
 obtain⟨B,y,a,d⟩:=run_make_full (P:=prog) w w.heap.size 79 78 D _ 8 underlying79 t m b .i64 .i64 l.length (by rw[f];omega) (by unfold maxLen;omega) Ze
 clear t m b f;have J:Hid (Below w.heap.size w B):=(Below.refl _ w).grown d Ze (fun k r=>by cases r);have W:=Qf (Qap.start (l:=l) s a);clear d a;go_enter func186,ntmps186
 rotate_left
 have S:=underlying86;have r:=Qbt infoBlock;have H:=Qf fun (wx:World) (cs:List Value) (h:cs.length=12)=>Qm4 wx #[Iv 0,Nv,Nv,Iv 0,Iv 0,Iv 0,Nv,Nv,Iv 0,Nv,Nv,Nv] 86 h;obtain⟨D,t,m,b,f⟩:=QbL infoBlock
 obtain⟨B,y,a,d⟩:=run_make_full (P:=prog) w w.heap.size 87 86 D _ 12 underlying87 t m b .i64 .i64 l.length (by rw[f];omega) (by unfold maxLen;omega) Ze
 clear t m b f;have J:Hid (Below w.heap.size w B):=(Below.refl _ w).grown d Ze (fun k r=>by cases r);have W:=Qf (Qap.start (l:=l) s a);clear d a;go_enter func124,ntmps124
 rotate_left
 have S:=underlying89;have r:=Qbt infoFunc;have H:=Qf fun (wx:World) (cs:List Value) (h:cs.length=4)=>Qm4 wx #[Iv 0,Nv,Nv,Nv] 89 h;obtain⟨D,t,m,b,f⟩:=QbL infoFunc
 obtain⟨B,y,a,d⟩:=run_make_full (P:=prog) w w.heap.size 22 89 D _ 4 underlying22 t m b .i64 .i64 l.length (by rw[f];omega) (by unfold maxLen;omega) Ze
 clear t m b f;have J:Hid (Below w.heap.size w B):=(Below.refl _ w).grown d Ze (fun k r=>by cases r);have W:=Qf (Qap.start (l:=l) s a);clear d a;go_enter func76,ntmps76
 rotate_left
 all_goals
  go_wp2_with fail
  go_loopw [13] (fun i wr=>∃ q:Nat,q<=l.length/\i=Iv q/\(∃ e xs,Qap A e wr w.heap.size (.slice (some ⟨w.heap.size,0,none⟩) q l.length) (l.take q) xs)/\Below w.heap.size w wr) (fun i _=>l.length - (intOf i).toNat)
  case atStart=>exact⟨0,Xb _,Yz,⟨_,_,W.out⟩,J.out⟩
  case round =>
   obtain⟨q,hq,rfl,⟨e,xs,hA⟩,hB⟩:=hrel
   have L:=Qf hA;have E:=Qf hB;clear hA hB J W y;obtain⟨z,ac⟩:∃ z,z=wr:=⟨_,Yz⟩
   subst ac;by_cases T:q<l.length
   rotate_left
   ·have M:¬ (q:Int)<l.length:=by omega
    have R:Hid (QgP A w z l (.returned (.slice (some ⟨w.heap.size,0,none⟩) l.length l.length))):=⟨_,_,Yz,L.out.done (by omega),E.out⟩;clear L E;go_wp2
    go_ret;exact R.out
   have M:(q:Int)<l.length:=by omega
   have U:l[q]?=some l[q]:=Zg T;generalize l[q]=x at U;obtain⟨g,o,ds,rfl,-,-,E3,I3⟩:=Yf (Ya hl.out E.out) U
   have hn:=A.len I3;rw[s] at hn E3
   have RG:=Qf (show z.rangeAt g (o+q*_) ds from fun j v hj=>(E3 j (by rw[<-hn];exact(Zi hj).1)).trans hj);have TO:=Qf (all_oneCell_toArray (h1.out _ _ _ _ I3));obtain⟨M1,M2,M3⟩:=H.out z ds hn
   have HM:=Qf M1;have X:=Qf (r.trans (congrArg some hn.symm));have CC:=Qf (hf.out x (Zm U) ds _ (Ya I3 M3));have B2:=Qf M2;have G:=Qf M3;have HX:=Qf U;clear M1 M2 M3 E3 I3 U hn;go_upto_region 5 with (first | (refine wpList_load_mid Yz _ (.tmp 16) Yz g _ Yz ds _ RG.out S Yz X.out ?_) | (refine wpList_store_mid Yz _ (.tmp 7) (.tmp 17) Yz z.heap.size 0 ds.toArray Yz Yz HM.out X.out TO.out ?_))
   clear HM RG TO;generalize World.setCells _ _ _ _=w3 at B2 G CC |-;generalize z.heap.size=Z at B2 |-;have RZ:Hid (w3.rangeAt Z 0 ds):=Blk.range B2.out;clear B2;go_wp2_with (refine wpList_load_mid Yz _ (.tmp 7) Yz Z 0 Yz ds _ RZ.out S Yz X.out ?_)
   refine CC.out.mono ?_;rintro _ w8 ⟨d2,rfl,I8,B8⟩;have u:=A.len I8;rw[s] at u
   have b8:=G.out.trans (B8.mono G.out.size);have C:=L.out.below b8;obtain⟨cg,Q,N⟩:=C.blk s
   have s1:=(L.out.lo_le (g:=w.heap.size) Yz).2;have s2:=G.out.size;have NX:=Qf (C.fillq s T Yz HX.out (Yc I8 (fun k r _=>⟨by have:_<=k:=r;omega,by have:_<=k:=r;omega⟩)) Yz);have BX:=Qf (QJ Ze d2 _ _ (q*A.size) (E.out.trans (b8.mono E.out.size)));have TO:=Qf (all_oneCell_toArray (h1.out _ _ _ _ I8));have X:=Qf (r.trans (congrArg some u.symm));have HT:=Qf (Blk.there (o:=q*A.size) (n:=d2.length) Q (by rw[N,u,s];omega));clear u b8 C Q N I8 B8 CC RZ G L E hl hf h1 H s1 s2;rw[XK] at NX
   rw[s] at BX HT
   go_wp2_with (refine wpList_store_mid Yz _ (.tmp 23) (.tmp 22) Yz w.heap.size _ d2.toArray Yz Yz HT.out X.out TO.out ?_)
   go_roundw
   case rel=>exact⟨q+1,by omega,by go_num,(by obtain⟨_,h⟩:=NX.out;exact⟨_,_,h⟩),BX.out⟩
   case measure=>simp[intOf];omega
structure Bxs (w wx:World) (l:List (Nat × Array Value × TypeId)):Prop where
 bel:Below w.heap.size w wx
 ge:∀ b∈l,w.heap.size<=b.1
 box:∀ b∈l,Blk wx b.1 b.2.1 b.2.2
 nd:(l.map (·.1)).Nodup
section
variable {w wx w':World}{l a z:List (Nat × Array Value × TypeId)}{B:Nat}{c:Array Value}{t:TypeId}
theorem Bxs.start (w:World):Bxs w w []:=⟨Zr,fun _ h=>by simp at h,fun _ h=>by simp at h,by simp⟩
theorem Bxs.below (h:Bxs w wx l) (k:Below wx.heap.size wx w'):Bxs w w' l:=⟨h.bel.trans (k.mono h.bel.size),h.ge,fun b a=>(h.box b a).below k,h.nd⟩
theorem Bxs.drewN (h:Bxs w wx l) (n:Nat):Bxs w (wx.drewN n) l:=h.below (QI Zr n)
theorem Bxs.drew (h:Bxs w wx l):Bxs w wx.drew l:=h.drewN 1
theorem Bxs.add (h:Bxs w wx l) (g:Blk wx B c t) (d:w.heap.size<=B) (f:∀ b∈l,b.1≠B):Bxs w wx ((B,c,t)::l) :=
 ⟨h.bel,fun b a=>by rcases List.mem_cons.1 a with rfl | e;exact d;exact h.ge b e,fun b a=>by rcases List.mem_cons.1 a with rfl | e;exact g;exact h.box b e,by
  simp only[List.map_cons,List.nodup_cons]
  refine⟨fun e=>?_,h.nd⟩
  obtain⟨b,a,e⟩:=List.mem_map.1 e
  exact f b a e⟩
theorem Bxs.new (h:Bxs w wx l) (c:Array Value) (t:TypeId):Bxs w (wx.alloc (.cells c t)) ((wx.heap.size,c,t)::l) :=
 (h.below (Zd _ _)).add (Blk.new _ _ _) h.bel.size (fun b a e=>by have:=(h.box b a).lt;omega)
theorem Bxs.made (h:Bxs w wx l) (k:Below wx.heap.size wx w') (f:Blk w' B c t) (d:wx.heap.size<=B):Bxs w w' ((B,c,t)::l) :=
 (h.below k).add f (Zt h.bel.size d) (fun b a e=>by have:=(h.box b a).lt;omega)
theorem Bxs.at (h:Bxs w wx (a++(B,c,t)::z)):Blk wx B c t:=h.box (B,c,t) (by simp)
theorem Bxs.cell (h:Bxs w wx (a++(B,c,t)::z)) (i:Nat) (v:Value) (b:c[i]?=some v):wx.cell? ⟨B,i,none⟩=some v:=Qb h.at i v b
theorem Bxs.free (h:Bxs w wx (a++(B,c,t)::z)) (i:Nat):wx.frozen? ⟨B,i,none⟩=false:=Qj h.at i
theorem Bxs.set (h:Bxs w wx (a++(B,c,t)::z)) (i:Nat) (v:Value):Bxs w (wx.setCell ⟨B,i,none⟩ v) (a++(B,c.setIfInBounds i v,t)::z):=by
 have f:∀ b∈a++z,b.1≠B:=fun b d e=>by
  have g:=h.nd;rw[List.map_append,List.map_cons,List.nodup_append] at g
  obtain⟨-,j,k⟩:=g
  rw[List.nodup_cons] at j
  rcases List.mem_append.1 d with d | d
  ·exact k b.1 (List.mem_map_of_mem d) B (by simp) e
  ·exact j.1 (List.mem_map.2 ⟨b,d,e⟩)
 refine⟨h.bel.setCell (p:=⟨B,i,none⟩) (h.ge (B,c,t) (by simp)) v,fun b d=>?_,fun b d=>?_,?_⟩
 ·simp only[List.mem_append,List.mem_cons] at d
  rcases d with d | rfl | d
  ·exact h.ge b (by simp[d])
  ·exact h.ge (B,c,t) (by simp)
  ·exact h.ge b (by simp[d])
 ·simp only[List.mem_append,List.mem_cons] at d
  rcases d with d | rfl | d
  ·exact(Xd _ _ _ _ (f b (by simp[d]))).trans (h.box b (by simp[d]))
  ·have:=Qh h.at i v
   simpa using this
  ·exact(Xd _ _ _ _ (f b (by simp[d]))).trans (h.box b (by simp[d]))
 ·have:=h.nd
  simpa using this
end
def NuI (lo:Nat) (l:List Int) (v:Value) (w:World):Prop:=∃ p c,v=.slice p l.length c/\intsL.In w (Qcv lo) l [v]
theorem NuI.below {lo:Nat}(b:Below w.heap.size w w') (h:NuI lo l v w):NuI lo l v w':=by
 obtain⟨p,c,rfl,h⟩:=h
 exact⟨p,c,Z,Ya h b⟩
theorem NuI.move {lo a:Nat}(h:NuI lo l v w) (e:∀ k,lo<=k->w'.heap[k]?=w.heap[k]?) (d:a<=lo):NuI a l v w':=by
 obtain⟨p,c,rfl,h⟩:=h
 exact⟨p,c,Z,intsL.keep (fun k b _=>e k b) (fun k b _=>Zt d b) h⟩
theorem Qle {F:FuncId}(hF:F=232/\(∃ n,cs=[Iv n])\/F=187/\∃ a b c d e f,cs=[Iv a,Iv b,Iv c,Iv d,Iv e,Iv f])
 {j l:List Int}    (B:intsL.In w All j [.slice pR j.length cR]) (C:intsL.In w All l [.slice pA l.length cA]) (b1:j.length<=4294967296) (b2:l.length<=4294967296) :
 Calls prog F #[.agg (cs++[Value.slice pR j.length cR,Value.slice pA l.length cA]).toArray] w fun e w'=>∃ u v,e=.returned (.agg (cs++[u,v]).toArray)/\NuI w.heap.size j u w'/\NuI w.heap.size l v w'/\Below w.heap.size w w':=by
 have E:=Qf B;have hg:=Qf C;clear B C;obtain⟨o,G⟩:∃ o,cs.length=o:=⟨_,Z⟩
 obtain⟨A,r⟩:∃ o,cs.length+1=o:=⟨_,Z⟩
 rcases hF with ⟨rfl,n,rfl⟩|⟨rfl,n1,n2,n3,n4,n5,n6,rfl⟩
 have p:=Qf (((Bxs.start w).new #[Iv n,.slice pR j.length cR,.slice pA l.length cA] 82).new #[Iv 0,Nv,Nv] 82);have S:=underlying82;have q:(prog.info? 82).map (·.size)=some 3:=by kernel_rfl
 go_enter func232,ntmps232
 rotate_left
 have p:=Qf (((Bxs.start w).new #[Iv n1,Iv n2,Iv n3,Iv n4,Iv n5,Iv n6,.slice pR j.length cR,.slice pA l.length cA] 78).new #[Iv 0,Iv 0,Iv 0,Iv 0,Iv 0,Iv 0,Nv,Nv] 78);have S:=underlying78;have q:(prog.info? 78).map (·.size)=some 8:=by kernel_rfl
 go_enter func187,ntmps187
 all_goals
  go_upto_region 1 with fail
  generalize World.alloc (World.alloc w _) _=s at p |-;have O:s.cell? ⟨w.heap.size,o,none⟩=some (.slice pR j.length cR):=p.out.cell (a:=[_]) o _ (by subst G;rfl);have V:s.cell? ⟨w.heap.size,A,none⟩=some (.slice pA l.length cA):=p.out.cell (a:=[_]) A _ (by subst r;rfl);simp only[List.length_cons,List.length_nil,Nat.zero_add,Nat.reduceAdd] at G r
  refine Qg 7 (QlQ [(5,NuI s.heap.size j),(8,NuI s.heap.size l)] [(1,Pv w.heap.size 0),(3,Pv w.heap.size o),(4,.slice pR j.length cR),(6,Pv w.heap.size A),(7,.slice pA l.length cA),(9,Pv w.heap.size o)]) (fun L=>Below s.heap.size s L) (fun w w'=>Below w.heap.size w w') (by kernel_rfl) (outs:=[1]) (gs:=[]) (bs:=[true,true,true,true,true,true,true]) (n:=12) Z Ze (by kernel_rfl) (by kernel_rfl) ?hR ?hG (QI Zr 1) ⟨Z,Y⟩ ?hA ?hend
  case hR=>exact fun t v w w' E h=>h.keep ⟨NuI.below E,NuI.below E,Y⟩
  case hG=>exact Y
  case hA =>
   subst G r
   repeat
    refine⟨fun a L g i K X=>?_,?_⟩
    focus
     obtain⟨k0,-⟩:=i
     conv at k0=>whnf;rhs;whnf
     have c0:=Qk O g;have c1:=Qk V g;have hw:=p.out.bel.trans (g.mono p.out.bel.size);go_simp
     first
      | with_reducible refine Xm (QaW _ _ _ L (Ya E.out hw) b1) ?_
        rintro e w9 ⟨N,W,rfl,R,D⟩;exact X _ _ D (g.trans (D.mono g.size)) ⟨N,W,Z,Yc R (fun k i _=>Zt g.size i)⟩
      | with_reducible refine Xm (QaW _ _ _ L (Ya hg.out hw) b2) ?_
        rintro e w9 ⟨N,W,rfl,R,D⟩;exact X _ _ D (g.trans (D.mono g.size)) ⟨N,W,Z,Yc R (fun k i _=>Zt g.size i)⟩
      | exact X _ _ Zr g Z
   trivial
  case hend =>
   rintro U x y g i;have H:NuI _ _ (x 5) y:=i 5 (by kernel_rfl);have I:NuI _ _ (x 8) y:=i 8 (by kernel_rfl);obtain⟨p5,c5,T,-⟩:=id H
   obtain⟨p8,c8,Q,-⟩:=id I
   rw[T] at H
   rw[Q] at I
   have e9:x 9=Pv w.heap.size o:=i 9 (by kernel_rfl);have M:=p.out.below g;have c0:=Qk O g;have c1:=Qk V g;have z0:=M.free (a:=[_]) o;have z1:=M.free (a:=[_]) A;have J:=(M.set (a:=[_]) o (.slice p5 j.length c5)).set (a:=[_]) A (.slice p8 l.length c8);have B6:=Qf (J.at (a:=[_]));have e1:∀ o,(w.alloc o).heap.size=w.heap.size+1:=fun o=>by simp
   have z:=J.at (a:=[]);have m:=(p.out.at (a:=[])).lt;rw[e1] at z m
   replace z:=Qf z;replace m:=Qf m;clear e1;have E6:=Qf J.bel;have K5:=Qf H;have K8:=Qf I
   have hO:Hid (∀ k,s.heap.size<=k->((y.setCell ⟨w.heap.size,o,none⟩ (.slice p5 j.length c5)).setCell ⟨w.heap.size,A,none⟩ (.slice p8 l.length c8)).heap[k]?=y.heap[k]?):=fun k h=>by
    have:=(p.out.at (a:=[_])).lt
    rw[Xd _ _ _ _ (show k≠w.heap.size by omega),Xd _ _ _ _ (show k≠w.heap.size by omega)]
   subst G r;show wpList _ U _ [_,_,_] (QM _ x [3,4,5,6,7,8,9]) y;simp only[QM,Act.put,List.setIfInBounds_toArray,List.set_cons_zero,List.set_cons_succ,T,Q,e9]
   clear H I i T Q e9 M J p E hg O V g;go_upto_region 2 with fail
   generalize World.setCell (World.setCell y _ _) _ _=w6 at B6 z E6 hO |-;have P:=B6.out;simp only[List.setIfInBounds_toArray,List.set_cons_zero,List.set_cons_succ] at P
   have RZ:=Qf (Blk.range P);clear B6 P;go_wp2_with (first | (refine wpList_load_mid Z _ (.tmp 1) Z w.heap.size 0 Z _ _ RZ.out S Z q ?_) | (refine wpList_store_mid Z _ (.tmp 2) (.tmp 11) Z (w.heap.size+1) 0 _ Z Z (Blk.there z.out Ze) q (all_oneCell_toArray (Xe.1 Z)) ?_))
   have i:∀ x k,s.heap.size<=k->(w6.setCells (w.heap.size+1) 0 x).heap[k]?=y.heap[k]?:=fun x k h=>(QE (by have:=m.out;omega) x 0 w6).trans (hO.out k h);have h3:w.heap.size<=s.heap.size:=by have:=m.out;omega
   exact QbY (t:=2) Z Z Z (Blk.setsA z.out _ Z) S Z q ⟨_,_,Z,K5.out.move (i _) h3,K8.out.move (i _) h3,QJ (by omega) _ _ _ 0 E6.out⟩
def NuT (lo:Nat) (x:MTo) (v:Value) (w:World):Prop:=∃ a b,v=.agg #[Iv x.block,a,b]/\NuI lo x.regs a w/\NuI lo x.args b w
theorem NuT.below {lo:Nat}{x:MTo}(b:Below w.heap.size w w') (h:NuT lo x v w):NuT lo x v w':=by
 obtain⟨p,q,rfl,h,k⟩:=h
 exact⟨p,q,Z,h.below b,k.below b⟩
theorem NuI.in {lo:Nat}(h:NuI lo l v w):intsL.In w (Qcv lo) l [v]:=by obtain⟨p,c,rfl,h⟩:=h;exact h
theorem NuI.lo {lo a:Nat}(h:NuI lo l v w) (b:a<=lo):NuI a l v w:=h.move (fun _ _=>rfl) b
theorem Qlg {x:MTo}(h:QhB w All x pR cR pA cA) (f:x.regs.length<=4294967296) (b:x.args.length<=4294967296):Calls prog 232 #[.agg #[Iv x.block,.slice pR x.regs.length cR,.slice pA x.args.length cA]] w fun e w'=>∃ v,e=.returned v/\NuT w.heap.size x v w'/\Below w.heap.size w w' :=
 (Qle (cs:=[Iv x.block]) (.inl ⟨Z,_,Z⟩) h.regs h.args f b).mono fun e w' ⟨u,v,g,c,d,a⟩=>⟨_,g,⟨u,v,Z,c,d⟩,a⟩
theorem Qlz {x:ZA}{i:EP}(h0:EIn w All x i) (s:x.small) :
 Calls prog 188 #[.agg #[Iv x.op,Iv x.a,Iv x.yes.block,.slice i.pYR x.yes.regs.length i.cYR,.slice i.pYA x.yes.args.length i.cYA,Iv x.no.block,.slice i.pNR x.no.regs.length i.cNR,.slice i.pNA x.no.args.length i.cNA,.slice i.pA x.args.length i.cA]] w fun e w'=>QhX endL w w' x e:=by
 have H:=Qf h0;have I:x.yes.regs.length<=4294967296:=by have:=s.1.1;omega
 have G:x.yes.args.length<=4294967296:=by have:=s.1.2;omega
 have M:x.no.regs.length<=4294967296:=by have:=s.2.1.1;omega
 have W:x.no.args.length<=4294967296:=by have:=s.2.1.2;omega
 have J:x.args.length<=4294967296:=by have:=s.2.2;omega
 clear h0 s;have g:=Qf (((Bxs.start w).new #[Iv x.op,Iv x.a,Iv x.yes.block,.slice i.pYR x.yes.regs.length i.cYR,.slice i.pYA x.yes.args.length i.cYA,Iv x.no.block,.slice i.pNR x.no.regs.length i.cNR,.slice i.pNA x.no.args.length i.cNA,.slice i.pA x.args.length i.cA] 84).new #[Iv 0,Iv 0,Iv 0,Nv,Nv,Iv 0,Nv,Nv,Nv] 84);go_enter func188,ntmps188
 go_upto_region 1 with fail
 generalize World.alloc (World.alloc w _) _=q at g |-;refine Qg 10 (QlQ [(5,NuT q.heap.size x.yes),(8,NuT q.heap.size x.no),(11,NuI q.heap.size x.args)] [(1,Pv w.heap.size 0),(3,Pv w.heap.size 2),(4,.agg #[Iv x.yes.block,.slice i.pYR x.yes.regs.length i.cYR,.slice i.pYA x.yes.args.length i.cYA]),(6,Pv w.heap.size 5),(7,.agg #[Iv x.no.block,.slice i.pNR x.no.regs.length i.cNR,.slice i.pNA x.no.args.length i.cNA]),(9,Pv w.heap.size 8),(10,.slice i.pA x.args.length i.cA),(12,Pv w.heap.size 2)]) (fun X=>Below q.heap.size q X) (fun w w'=>Below w.heap.size w w') (by kernel_rfl) (outs:=[1]) (gs:=[]) (bs:=[true,true,true,true,true,true,true,true,true,true]) (n:=16) Z Ze (by kernel_rfl) (by kernel_rfl) ?hR ?hG (QI Zr 1) ⟨Z,Y⟩ ?hA ?hend
 case hR=>exact fun t v w w' O h=>h.keep ⟨NuT.below O,NuT.below O,NuI.below O,Y⟩
 case hG=>exact Y
 case hA =>
  have u:=fun j=>g.out.cell (a:=[_]) j
  repeat
   refine⟨fun a X b d K E=>?_,?_⟩
   focus
    obtain⟨k0,-⟩:=d
    conv at k0=>whnf;rhs;whnf
    have c2:=Qk (u 2 _ Z) b;have c3:=Qk (u 3 _ Z) b;have c4:=Qk (u 4 _ Z) b;have c5:=Qk (u 5 _ Z) b;have c6:=Qk (u 6 _ Z) b;have c7:=Qk (u 7 _ Z) b;have c8:=Qk (u 8 _ Z) b;have f:=g.out.bel.trans (b.mono g.out.bel.size);go_simp
    first
     | with_reducible refine Xm (Qlg (H.out.yes.below f) I G) ?_
       rintro e w9 ⟨v9,rfl,⟨F,U,rfl,S,B⟩,l⟩;exact E _ _ l (b.trans (l.mono b.size)) ⟨F,U,Z,S.lo b.size,B.lo b.size⟩
     | with_reducible refine Xm (Qlg (H.out.no.below f) M W) ?_
       rintro e w9 ⟨v9,rfl,⟨F,U,rfl,S,B⟩,l⟩;exact E _ _ l (b.trans (l.mono b.size)) ⟨F,U,Z,S.lo b.size,B.lo b.size⟩
     | with_reducible refine Xm (QaW _ _ _ X (Ya H.out.args f) J) ?_
       rintro e w9 ⟨p9,c9,rfl,B,l⟩;exact E _ _ l (b.trans (l.mono b.size)) ⟨p9,c9,Z,Yc B (fun k d _=>Zt b.size d)⟩
     | exact E _ _ Zr b Z
  trivial
 case hend =>
  rintro N z r b d;obtain⟨y1,y2,e5,L,V⟩:NuT _ _ (z 5) r:=d 5 (by kernel_rfl)
  obtain⟨n1,n2,e8,P,R⟩:NuT _ _ (z 8) r:=d 8 (by kernel_rfl)
  have D:NuI _ _ (z 11) r:=d 11 (by kernel_rfl);have A:z 12=Pv w.heap.size 2:=d 12 (by kernel_rfl);obtain⟨q1,d1,rfl,-⟩:=id L
  obtain⟨q2,d2,rfl,-⟩:=id V
  obtain⟨q3,d3,rfl,-⟩:=id P
  obtain⟨q4,d4,rfl,-⟩:=id R
  obtain⟨q5,d5,m,-⟩:=id D
  rw[m] at D
  have c:=g.out.below b;have z2:=c.free (a:=[_]) 2;have z3:=c.free (a:=[_]) 3;have z4:=c.free (a:=[_]) 4;have z5:=c.free (a:=[_]) 5;have z6:=c.free (a:=[_]) 6;have z7:=c.free (a:=[_]) 7;have z8:=c.free (a:=[_]) 8;have c2:=c.cell (a:=[_]) 2 _ Z;have c3:=c.cell (a:=[_]) 3 _ Z;have c4:=c.cell (a:=[_]) 4 _ Z;have c5:=c.cell (a:=[_]) 5 _ Z;have c6:=c.cell (a:=[_]) 6 _ Z;have c7:=c.cell (a:=[_]) 7 _ Z;have c8:=c.cell (a:=[_]) 8 _ Z;have y:=((((((c.set (a:=[_]) 2 (Iv x.yes.block)).set (a:=[_]) 3 (.slice q1 x.yes.regs.length d1)).set (a:=[_]) 4 (.slice q2 x.yes.args.length d2)).set (a:=[_]) 5 (Iv x.no.block)).set (a:=[_]) 6 (.slice q3 x.no.regs.length d3)).set (a:=[_]) 7 (.slice q4 x.no.args.length d4)).set (a:=[_]) 8 (.slice q5 x.args.length d5);simp only[List.setIfInBounds_toArray,List.set_cons_zero,List.set_cons_succ] at y
  generalize f:World.setCell _ _ _=w6 at y;have e1:∀ o,(w.alloc o).heap.size=w.heap.size+1:=fun o=>by simp
  have C:=y.at (a:=[]);have RZ:=Qf (Blk.range (y.at (a:=[_])));have Q:=(g.out.at (a:=[])).lt;have aa:=(g.out.at (a:=[_])).lt;rw[e1] at C Q
  replace C:=Qf C;have E6:=Qf y.bel;have T:=Qf (show EIn r (Qcv q.heap.size) x ⟨q1,d1,q2,d2,q3,d3,q4,d4,q5,d5⟩ from ⟨⟨L.in,V.in,H.out.yes.bnd⟩,⟨P.in,R.in,H.out.no.bnd⟩,D.in,H.out.bnd⟩)
  have hO:Hid (∀ k,q.heap.size<=k->w6.heap[k]?=r.heap[k]?):=fun k h=>by
   rw[<-f]
   iterate 7 rw[Xd _ _ _ _ (show k≠w.heap.size by omega)]
  show wpList _ N _ [_,_,_,_,_] (QM _ z [3,4,5,6,7,8,9,10,11,12]) r;simp only[QM,Act.put,List.setIfInBounds_toArray,List.set_cons_zero,List.set_cons_succ,e5,e8,m,A]
  clear e5 e8 m A c y b g H e1 L V P R D d;replace f:=Qf f;go_upto_region 2 with fail
  rw[f.out]
  clear f c2 c3 c4 c5 c6 c7 c8 z2 z3 z4 z5 z6 z7 z8;have hu:=underlying84;have p:(prog.info? 84).map (·.size)=some 9:=by kernel_rfl
  go_wp2_with (first | (refine wpList_load_mid Z _ (.tmp 1) Z w.heap.size 0 Z _ _ RZ.out hu Z p ?_) | (refine wpList_store_mid Z _ (.tmp 2) (.tmp 15) Z (w.heap.size+1) 0 _ Z Z (Blk.there C.out Ze) p (all_oneCell_toArray (Xe.1 Z)) ?_))
  exact QbY (t:=2) Z Z Z (Blk.setsA C.out _ Z) hu Z p ⟨_,Z,Qgl (T.out.keep (fun k d _=>(QE (by have:_<=k:=d;omega) _ 0 w6).trans (hO.out k d)) (fun k d _=>by have:_<=k:=d;show _<=k;omega)),QJ (by omega) _ _ _ 0 E6.out⟩
def Qmv (n:Nat):Prop:=∀ (t:TT n) (ds:List Value) (w:World),(Lay.tt n).In w All t ds->t.count<=100000->Calls prog 123 #[.agg ds.toArray] w fun e w'=>QhX (Lay.tt n) w w' t e
theorem QmZ (w:World) (O:Nat->Prop) (x:TT n) (b:List Value) (h:(Lay.tt n).In w O x b):∀ v∈b,v.oneCell'=true:=by
 obtain⟨a,c,rfl,-⟩:=h
 exact Xe.1 Z
theorem enters1:Qah 123:=fun _ _=>by kernel_rfl
theorem enters2:Qah 187:=fun _ _=>by kernel_rfl
theorem enters3:Qah 125:=fun _ _=>by kernel_rfl
theorem enters4:Qah 77:=fun _ _=>by kernel_rfl
theorem cOwnType_:∀ n,Qmv n:=by
 intro n
 induction n with
 | zero=>intro t;exact Empty.elim t
 | succ n ih =>
   intro t B w l R;have v:∀ x∈t.2.2,x.count<=100000:=fun x z=>by have:=t.count_kid z;omega
   have G:t.2.2.length<=100000:=by have:=t.len_lt_count;rw[t.len_eq] at this;omega
   obtain⟨p,c,rfl,l,i⟩:=l
   have e:Hid _:=QeO (c:=c) l.list i.2;clear l;simp only[TT.len_eq]
   have f:=Qf (((Bxs.start w).new #[Iv t.kind,Iv t.r,.slice p t.2.2.length c] 105).new #[Iv 0,Iv 0,Nv] 105);have y:∀ o,(w.alloc o).heap.size=w.heap.size+1:=fun o=>by simp
   have b:Hid (w.heap.size+1<((w.alloc (.cells #[Iv t.kind,Iv t.r,.slice p t.2.2.length c] 105)).alloc (.cells #[Iv 0,Iv 0,Nv] 105)).heap.size):=by have:=(f.out.at (a:=[])).lt;rw[y] at this;exact this
   go_enter func123,ntmps123
   go_upto_region 1 with fail
   generalize World.alloc (World.alloc w _) _=O at f b |-;have F:=f.out.cell (a:=[_]) 2 _ Z;have J:=Qf (Qac (A:=Lay.tt n) (.inl ⟨Z,Z⟩) enters1 (Ya e.out f.out.bel) (by omega) QmZ (fun x z B Q h=>ih x B Q h (v x z)));go_wp2_with fail
   refine J.out.mono ?_;rintro _ u ⟨m,q,rfl,L,C⟩;have s:=f.out.below C;have F:=s.cell (a:=[_]) 2 _ Z;have N:=s.free (a:=[_]) 2;have j:=s.set (a:=[_]) 2 (.slice m t.2.2.length q);simp only[List.setIfInBounds_toArray,List.set_cons_zero,List.set_cons_succ] at j
   have g:=j.at (a:=[]);rw[y] at g
   replace g:=Qf g;have H:=Qf j.bel;have K:=Qf (Blk.range (j.at (a:=[_])));have I:Hid (∀ k,O.heap.size<=k->(u.setCell ⟨w.heap.size,2,none⟩ (.slice m t.2.2.length q)).heap[k]?=u.heap[k]?):=fun k h=>Xd _ _ _ _ (show k≠w.heap.size by have:=b.out;omega);have M:=Qf L;clear J s j f L C e y;go_upto_region 2 with fail
   generalize World.setCell u _ _=D at g H K I |-;clear F N;have E:=underlying105;have d:=Qbt infoType0;go_wp2_with (first | (refine wpList_load_mid Z _ (.tmp 1) Z w.heap.size 0 Z _ _ K.out E Z d ?_) | (refine wpList_store_mid Z _ (.tmp 2) (.tmp 7) Z (w.heap.size+1) 0 _ Z Z (Blk.there g.out Ze) d (all_oneCell_toArray (Xe.1 Z)) ?_))
   have S:=b.out;have P:=QX (Lay.keep (Qp n) (w':=D.setCells (w.heap.size+1) 0 [Iv t.kind,Iv t.r,.slice m t.2.2.length q]) (O':=Qcv w.heap.size) (fun k e _=>(QE (by have:_<=k:=e;omega) _ 0 D).trans (I.out k e)) (fun k e _=>by have:_<=k:=e;show _<=k;omega) M.out);exact QbY (t:=2) Z Z Z (Blk.setsA g.out _ Z) E Z d ⟨_,Z,⟨m,q,by rw[TT.len_eq],P.1,i⟩,QJ (by omega) _ _ _ 0 H.out⟩
theorem Qdm {α:Type}{A:Lay α}{lo:Nat}{x:α}(h:A.In w (Qcv lo) x ds){p:Addr}(a:p.block<lo) (v:Value):A.In (w.setCell p v) (Qcv lo) x ds:=Lay.setCell h (fun e=>by have:lo<=p.block:=e;omega) v
theorem QbF {α:Type}{A:Lay α}{lo hi:Nat}{x:α}(h:A.In w (Qcv hi) x ds) (a:lo<=hi):A.In w (Qcv lo) x ds:=Yc h (fun k b _=>Zt a b)
theorem Qnm (w:World) (O:Nat->Prop) (x:Qt) (a:List Value) (h:insL.In w O x a):∀ v∈a,v.oneCell'=true:=by
 obtain⟨i,rfl,-⟩:=Qew h
 exact Xe.1 Z
theorem Qmt (w:World) (O:Nat->Prop) (x:ZA) (a:List Value) (h:endL.In w O x a):∀ v∈a,v.oneCell'=true:=by
 obtain⟨i,rfl,-⟩:=QdZ h
 exact Xe.1 Z
theorem Qnf (w:World) (O:Nat->Prop) (x:MBlock n) (a:List Value) (h:(Zp n).In w O x a):∀ v∈a,v.oneCell'=true:=by
 obtain⟨i,rfl,-⟩:=Qca h
 exact Xe.1 Z
theorem Qns (w:World) (O:Nat->Prop) (x:MFunc n) (a:List Value) (h:(ZR n).In w O x a):∀ v∈a,v.oneCell'=true:=by
 obtain⟨i,rfl,-⟩:=QcU h
 exact Xe.1 Z
theorem QcO {l:List (TT n)}(h:(Qp n).In w All l [.slice p l.length c]) (a:Qc4 l):Calls prog 122 #[.slice p l.length c,.func (.func 123) #[] #[]] w fun e w'=>QgP (Lay.tt n) w w' l e :=
 Qac (.inl ⟨Z,Z⟩) enters1 h (by have:=a.1;omega) QmZ (fun x d b f h=>cOwnType_ n x b f h (a.2 x d))
theorem QlZ {l:List Qt}(h:insL.list.In w All l [.slice p l.length c]) (s:l.length<=100000) (j:∀ x∈l,x.small):Calls prog 186 #[.slice p l.length c,.func (.func 187) #[] #[]] w fun e w'=>QgP insL w w' l e :=
 Qac (.inr (.inl ⟨Z,Z⟩)) enters2 h (by omega) Qnm (fun x g r t h=>by
  obtain⟨i,rfl,f⟩:=Qew h
  refine(Qle (cs:=[Iv x.op,Iv x.a,Iv x.b,Iv x.c,Iv x.k,Iv x.n]) (.inr ⟨Z,_,_,_,_,_,_,Z⟩) f.regs f.args (by have:=(j x g).1;omega) (by have:=(j x g).2;omega)).mono ?_
  rintro e w' ⟨u,v,rfl,⟨a,c,rfl,o⟩,⟨b,d,rfl,q⟩,m⟩;exact⟨_,Z,QmG o q f.bnd,m⟩)
theorem Qjq {x:MBlock n}(h:(Zp n).In w All x ds) (hs:x.small):Calls prog 125 #[.agg ds.toArray] w fun e w'=>QhX (Zp n) w w' x e:=by
 obtain⟨i,rfl,hb⟩:=Qca h
 have H:=Qf hb;have G:=Qf hs;clear h hb hs;have A:=Qf (((Bxs.start w).new #[Iv x.regs,.slice i.pP x.params.length i.cP,.slice i.pC x.code.length i.cC,Iv x.fin.op,Iv x.fin.a,Iv x.fin.yes.block,.slice i.e.pYR x.fin.yes.regs.length i.e.cYR,.slice i.e.pYA x.fin.yes.args.length i.e.cYA,Iv x.fin.no.block,.slice i.e.pNR x.fin.no.regs.length i.e.cNR,.slice i.e.pNA x.fin.no.args.length i.e.cNA,.slice i.e.pA x.fin.args.length i.e.cA] 86).new #[Iv 0,Nv,Nv,Iv 0,Iv 0,Iv 0,Nv,Nv,Iv 0,Nv,Nv,Nv] 86);have e1:∀ o,(w.alloc o).heap.size=w.heap.size+1:=fun o=>by simp
 have b:=Qf ((A.out.at (a:=[])).lt);rw[e1] at b
 go_enter func125,ntmps125
 go_upto_region 1 with fail
 generalize World.alloc (World.alloc w _) _=s at A b |-;have c1:=A.out.cell (a:=[_]) 1 _ Z;have C1:=Qf (QcO (Ya H.out.params A.out.bel) G.out.2.1);go_wp2_with fail
 refine C1.out.mono ?_;rintro _ w4 ⟨y,m,rfl,I1,U⟩;have O:=A.out.below U;replace c1:=O.cell (a:=[_]) 1 _ Z;have z1:=O.free (a:=[_]) 1;have D:=Qf (O.set (a:=[_]) 1 (.slice y x.params.length m));have J1:=Qf (Qdm I1 (p:=⟨w.heap.size,1,none⟩) (by have:=b.out;show w.heap.size<_;omega) (.slice y x.params.length m));have b5:=Qf U.size;clear O C1 I1 U A;go_upto_region 2 with fail
 generalize F:World.setCell w4 _ _=w5 at D J1 |-;have u:Hid (s.heap.size<=w5.heap.size):=by show _<=_;rw[<-F];simpa using b5.out
 clear F b5 c1 z1;have c2:=D.out.cell (a:=[_]) 2 _ Z;have C2:=Qf (QlZ (Ya H.out.code D.out.bel) G.out.1 G.out.2.2.2);go_wp2_with fail
 refine C2.out.mono ?_;rintro _ w6 ⟨j,l,rfl,I2,P⟩;have N:=D.out.below P;replace c2:=N.cell (a:=[_]) 2 _ Z;have z2:=N.free (a:=[_]) 2;have g:=N.set (a:=[_]) 2 (.slice j x.code.length l);have hp:w.heap.size<s.heap.size:=by have:=b.out;omega
 have K1:=Qf (Qdm (Ya J1.out P) (p:=⟨w.heap.size,2,none⟩) hp (.slice j x.code.length l));have S:=Qf (Qdm (QbF I2 u.out) (p:=⟨w.heap.size,2,none⟩) hp (.slice j x.code.length l));have b7:=Qf (Zt u.out P.size);simp only[List.setIfInBounds_toArray,List.set_cons_zero,List.set_cons_succ] at g
 replace g:=Qf g;clear N C2 I2 P D J1;go_upto_region 3 with fail
 generalize K:World.setCell w6 _ _=w7 at g K1 S |-;have L:Hid (s.heap.size<=w7.heap.size):=by show _<=_;rw[<-K];simpa using b7.out
 clear K b7 c2 z2 u;have hE:=Qf (QlC (g.out.at (a:=[_])) 3 9 Z);have C3:=Qf (Qlz (H.out.fin.below g.out.bel) G.out.2.2.1);have hu:=underlying84;have C:(prog.info? 84).map (·.size)=some 9:=by kernel_rfl
 have hp:w.heap.size<s.heap.size:=by have:=b.out;omega
 go_wp2_with (refine wpList_load_mid Z _ (.tmp 11) Z w.heap.size 3 Z _ _ hE.out hu Z C ?_)
 refine C3.out.mono ?_;rintro _ d ⟨c,rfl,R,Q⟩;have J:=endL.len R;have he:=Qf (all_oneCell_toArray (Qmt _ _ _ _ R));have M:=g.out.below Q;have W:=M.at (a:=[_]);have HT:=Qf (Blk.there (o:=3) (n:=c.toArray.size) W (by rw[List.size_toArray,J];exact Ze));have HK:=Qf (C.trans (congrArg some J.symm));have HZ:=Blk.sets c [Iv x.regs,.slice y x.params.length m,.slice j x.code.length l] _ d (by rw[J];rfl) W;have hR:=M.at (a:=[]);rw[e1] at hR
 have V:Hid (Blk (d.setCells w.heap.size 3 c) (w.heap.size+1) _ _):=(QE (by omega) c 3 d).trans hR;have E6:=Qf (QJ Ze c d w 3 M.bel);have RZ:=Qf (Blk.range HZ);have hO:Hid (∀ k,s.heap.size<=k->(d.setCells w.heap.size 3 c).heap[k]?=d.heap[k]?):=fun k h=>QE (by omega) c 3 d;have L1:=Qf (Ya K1.out Q);have L2:=Qf (Ya S.out Q);have L3:=Qf (QbF R L.out);have X:=H.out.bnd;clear M W HZ hR C3 K1 S R Q hE g H G L e1;go_upto_region 4 with (refine wpList_store_mid Z _ (.tmp 14) (.tmp 13) Z w.heap.size 3 c.toArray Z Z HT.out HK.out he.out ?_)
 generalize World.setCells d _ _ _=w9 at V E6 RZ hO |-;have E:=underlying86;have r:([Iv x.regs,.slice y x.params.length m,.slice j x.code.length l]++c:List Value).length=12:=by rw[List.length_append,J];rfl
 have f:=Qf ((Qbt infoBlock).trans (congrArg some r.symm));have z:=Qf r;have B:=Qf (all_oneCell_toArray (cs:=[Iv x.regs,.slice y x.params.length m,.slice j x.code.length l]++c) (fun v hv=>(List.mem_append.1 hv).elim (fun h=>Xe.1 (rfl:([Iv x.regs,.slice y x.params.length m,.slice j x.code.length l]:List Value).all (·.oneCell')=true) v h) (Qmt _ _ _ _ L3.out v)));generalize I:([Iv x.regs,.slice y x.params.length m,.slice j x.code.length l]++c:List Value)=q at RZ f z B;replace I:=Qf I;clear r HT HK he J;go_wp2_with (first | (refine wpList_load_mid Z _ (.tmp 1) Z w.heap.size 0 Z q _ RZ.out E Z f.out ?_) | (refine wpList_store_mid Z _ (.tmp 2) (.tmp 15) Z (w.heap.size+1) 0 q.toArray Z Z (Blk.there V.out (by rw[List.size_toArray,z.out];exact Ze)) f.out B.out ?_))
 have hk:∀ k,s.heap.size<=k->(w9.setCells (w.heap.size+1) 0 q).heap[k]?=d.heap[k]?:=fun k h=>(QE (by have:=b.out;omega) _ 0 w9).trans (hO.out k h);have T:w.heap.size<=s.heap.size:=by omega
 replace I:=I.out;subst I;refine QbY (t:=2) Z Z Z (Blk.setsA V.out _ z.out) E Z f.out ⟨_,Z,?_,QJ (by omega) _ _ _ 0 E6.out⟩;exact QgA (Lay.keep _ (fun k h _=>hk k h) (fun k h _=>Zt T h) L1.out) (Lay.keep _ (fun k h _=>hk k h) (fun k h _=>Zt T h) L2.out) (Lay.keep _ (fun k h _=>hk k h) (fun k h _=>Zt T h) L3.out) X
theorem QjN {x:MFunc n}(h:(ZR n).In w All x ds) (hs:x.small):Calls prog 77 #[.agg ds.toArray] w fun e w'=>QhX (ZR n) w w' x e:=by
 obtain⟨i,rfl,hb⟩:=QcU h
 have H:=Qf hb;have q:=Qf hs;clear h hb hs;have f:=Qf (((Bxs.start w).new #[Iv x.regs,.slice i.pP x.params.length i.cP,.slice i.pR x.results.length i.cR,.slice i.pB x.blocks.length i.cB] 89).new #[Iv 0,Nv,Nv,Nv] 89);have N:∀ o,(w.alloc o).heap.size=w.heap.size+1:=fun o=>by simp
 have b:=Qf ((f.out.at (a:=[])).lt);rw[N] at b
 go_enter func77,ntmps77
 go_upto_region 1 with fail
 generalize World.alloc (World.alloc w _) _=r at f b |-;have c1:=f.out.cell (a:=[_]) 1 _ Z;have C1:=Qf (QcO (Ya H.out.params f.out.bel) q.out.2.1);go_wp2_with fail
 refine C1.out.mono ?_;rintro _ w4 ⟨p1,W,rfl,I1,K⟩;have E:=f.out.below K;replace c1:=E.cell (a:=[_]) 1 _ Z;have z1:=E.free (a:=[_]) 1;have l:=Qf (E.set (a:=[_]) 1 (.slice p1 x.params.length W));have Q:=Qf (Qdm I1 (p:=⟨w.heap.size,1,none⟩) (by have:=b.out;show w.heap.size<_;omega) (.slice p1 x.params.length W));have b5:=Qf K.size;clear E C1 I1 K f;go_upto_region 2 with fail
 generalize m:World.setCell w4 _ _=w5 at l Q |-;have d:Hid (r.heap.size<=w5.heap.size):=by show _<=_;rw[<-m];simpa using b5.out
 clear m b5 c1 z1;have c2:=l.out.cell (a:=[_]) 2 _ Z;have C2:=Qf (QcO (Ya H.out.results l.out.bel) q.out.2.2.1);go_wp2_with fail
 refine C2.out.mono ?_;rintro _ w6 ⟨P,R,rfl,I2,F⟩;have C:=l.out.below F;replace c2:=C.cell (a:=[_]) 2 _ Z;have z2:=C.free (a:=[_]) 2;have j:=Qf (C.set (a:=[_]) 2 (.slice P x.results.length R));have s:w.heap.size<r.heap.size:=by have:=b.out;omega
 have U:=Qf (Qdm (Ya Q.out F) (p:=⟨w.heap.size,2,none⟩) s (.slice P x.results.length R));have I:=Qf (Qdm (QbF I2 d.out) (p:=⟨w.heap.size,2,none⟩) s (.slice P x.results.length R));have b7:=Qf (Zt d.out F.size);clear C C2 I2 F l Q;go_upto_region 3 with fail
 generalize u:World.setCell w6 _ _=w7 at j U I |-;have v:Hid (r.heap.size<=w7.heap.size):=by show _<=_;rw[<-u];simpa using b7.out
 clear u b7 c2 z2 d;have c3:=j.out.cell (a:=[_]) 3 _ Z;have C3:=Qf (Qac (A:=Zp n) (.inr (.inr (.inl ⟨Z,Z⟩))) enters3 (Ya H.out.blocks j.out.bel) (by have:=q.out.1;omega) Qnf (fun y hy ds wx h=>Qjq h (q.out.2.2.2 y hy)));go_wp2_with fail
 refine C3.out.mono ?_;rintro _ w8 ⟨z,D,rfl,I3,G⟩;have B:=j.out.below G;replace c3:=B.cell (a:=[_]) 3 _ Z;have z3:=B.free (a:=[_]) 3;have g:=B.set (a:=[_]) 3 (.slice z x.blocks.length D);simp only[List.setIfInBounds_toArray,List.set_cons_zero,List.set_cons_succ] at g
 have T:=g.at (a:=[]);rw[N] at T
 have L:=Qf T;have E6:=Qf g.bel;have RZ:=Qf (Blk.range (g.at (a:=[_])));have V:=Qf (Qdm (Ya U.out G) (p:=⟨w.heap.size,3,none⟩) s (.slice z x.blocks.length D));have L2:=Qf (Qdm (Ya I.out G) (p:=⟨w.heap.size,3,none⟩) s (.slice z x.blocks.length D));have L3:=Qf (Qdm (QbF I3 v.out) (p:=⟨w.heap.size,3,none⟩) s (.slice z x.blocks.length D));have M:=H.out.bnd;clear B g T C3 U I I3 G j H q v N;go_upto_region 4 with fail
 generalize World.setCell w8 _ _=O at L E6 RZ V L2 L3 |-;clear c3 z3;have hu:=underlying89;have c:=Qbt infoFunc;go_wp2_with (first | (refine wpList_load_mid Z _ (.tmp 1) Z w.heap.size 0 Z _ _ RZ.out hu Z c ?_) | (refine wpList_store_mid Z _ (.tmp 2) (.tmp 15) Z (w.heap.size+1) 0 _ Z Z (Blk.there L.out Ze) c (all_oneCell_toArray (Xe.1 Z)) ?_))
 have S:∀ X k,r.heap.size<=k->(O.setCells (w.heap.size+1) 0 X).heap[k]?=O.heap[k]?:=fun X k h=>QE (by have:=b.out;omega) _ 0 O;have J:w.heap.size<=r.heap.size:=by omega
 exact QbY (t:=2) Z Z Z (Blk.setsA L.out _ Z) hu Z c ⟨_,Z,QhV (Lay.keep _ (fun k h _=>S _ k h) (fun k h _=>Zt J h) V.out) (Lay.keep _ (fun k h _=>S _ k h) (fun k h _=>Zt J h) L2.out) (Lay.keep _ (fun k h _=>S _ k h) (fun k h _=>Zt J h) L3.out) M,QJ (by omega) _ _ _ 0 E6.out⟩
theorem Qgg (m:List (MFunc n)) (p:Option Addr) (c:Nat) (w:World) (h:(QaN n).In w All m [.slice p m.length c]) (f:Qbf m) :
 Calls prog 47 #[.agg #[.slice p m.length c]] w fun e w'=>∃ v,e=.returned v/\(∃ a' c',v=.agg #[.slice a' m.length c']/\(QaN n).In w' (Qcv w.heap.size) m [.slice a' m.length c'])/\Below w.heap.size w w':=by
 have H:=Qf h;have l:=Qf f;clear h f;have d:=Qf (((Bxs.start w).new #[.slice p m.length c] 24).new #[Nv] 24);have k:∀ o,(w.alloc o).heap.size=w.heap.size+1:=fun o=>by simp
 have b:=Qf ((d.out.at (a:=[])).lt);rw[k] at b
 go_enter func47,ntmps47
 go_upto_region 1 with fail
 generalize World.alloc (World.alloc w _) _=z at d b |-;have I:=d.out.cell (a:=[_]) 0 _ Z;have s:=Qf (Qac (A:=ZR n) (.inr (.inr (.inr ⟨Z,Z⟩))) enters4 (Ya H.out d.out.bel) (by have:=l.out.1;omega) Qns (fun y x F K h=>QjN h (l.out.2 y x)));go_wp2_with fail
 refine s.out.mono ?_;rintro _ G ⟨j,i,rfl,u,r⟩;have q:=d.out.below r;have g:=q.at (a:=[]);rw[k] at g
 have J:=Qb g 0 _ Z;have L:=Qj g 0;have C:w.heap.size+1<z.heap.size:=b.out;have E:=Qf (Qh g 0 (.slice j m.length i));have B:=Qf (Qdm u (p:=⟨w.heap.size+1,0,none⟩) C (.slice j m.length i));have D:=Qf (q.bel.setCell (p:=⟨w.heap.size+1,0,none⟩) (by show w.heap.size<=w.heap.size+1;omega) (.slice j m.length i));clear q s u r d g k H l b;go_wp2
 exact QbY (t:=2) Z Z Z E.out underlying24 Z (by kernel_rfl) ⟨_,Z,⟨j,i,Z,QbF B.out (by omega)⟩,D.out⟩
abbrev Qcn (be:Nat) (pm:Option Addr) (ml cm:Nat) (pi:Option Addr) (il ci most k:Nat):Array Value :=
 #[Pv be 0,.slice pm ml cm,.slice pi il ci,Iv most,.slice (some ⟨k,0,none⟩) 1 1,Iv 0,Nv,Nv,Iv 0,.bool false]
theorem WAt.begin {a:World}{e:Nat}{m:List (MFunc 6)}{d b lo:Nat}(J:Qdk a e bp (fun x=>d<=x/\x<b) (Est.new pages)) (I:(QaN 6).In a (fun x=>b<=x) m [.slice pm m.length cm])
 (E:intsL.In a (fun x=>b<=x) inp [.slice pi inp.length ci]) (C:inp.length<=ci) (L:b<=a.heap.size) (N:d<=b) (G:lo<=a.heap.size) :
 ∃ g,WAt (((a.alloc (.cells #[Iv 0,Iv 0,Iv 0,Nv] 132)).alloc (.cells #[Pv a.heap.size 0] 130)).alloc (.cells (Qcn e pm m.length cm pi inp.length ci most (a.heap.size+1)) 68)) (a.heap.size+1+1) most m (RM.start inp pages) g/\(∀ x,g.A x->d<=x)/\g.lo=lo/\g.lk=b:=by
 have v:=ZP a (.cells #[Iv 0,Iv 0,Iv 0,Nv] 132);have r:=v.trans ((ZP (a.alloc (.cells #[Iv 0,Iv 0,Iv 0,Nv] 132)) (.cells #[Pv a.heap.size 0] 130)).mono v.size);have l:=Qe a #[Iv 0,Iv 0,Iv 0,Nv] 132;have p:=Qe (a.alloc (.cells #[Iv 0,Iv 0,Iv 0,Nv] 132)) #[Pv a.heap.size 0] 130;have u:(a.alloc (.cells #[Iv 0,Iv 0,Iv 0,Nv] 132)).heap.size=a.heap.size+1:=by simp
 generalize a.alloc (.cells #[Iv 0,Iv 0,Iv 0,Nv] 132)=q at *;rw[u] at p
 have s:(q.alloc (.cells #[Pv a.heap.size 0] 130)).heap.size=a.heap.size+1+1:=by simp[u]
 replace l:(q.alloc (.cells #[Pv a.heap.size 0] 130)).heap[a.heap.size]?=_:=(Below.heap_alloc _ _ _ (by omega)).trans l;generalize q.alloc (.cells #[Pv a.heap.size 0] 130)=n at *;have j:=r.trans ((ZP n (.cells (Qcn e pm m.length cm pi inp.length ci most (a.heap.size+1)) 68)).mono r.size);have t:=Qe n (Qcn e pm m.length cm pi inp.length ci most (a.heap.size+1)) 68;rw[s] at t
 have y:(n.alloc (.cells (Qcn e pm m.length cm pi inp.length ci most (a.heap.size+1)) 68)).heap.size=a.heap.size+1+1+1:=by simp[s]
 replace l:(n.alloc (.cells (Qcn e pm m.length cm pi inp.length ci most (a.heap.size+1)) 68)).heap[a.heap.size]?=_:=(Below.heap_alloc _ _ _ (by omega)).trans l;replace p:(n.alloc (.cells (Qcn e pm m.length cm pi inp.length ci most (a.heap.size+1)) 68)).heap[a.heap.size+1]?=_:=(Below.heap_alloc _ _ _ (by omega)).trans p;generalize n.alloc (.cells (Qcn e pm m.length cm pi inp.length ci most (a.heap.size+1)) 68)=w at *;clear v r u s;obtain⟨F,D⟩:∃ F,a.heap.size=F:=⟨_,Z⟩
 rw[D] at l p t y |-
 let ow:Nat->Nat:=fun x=>if x=F+1+1 then 1 else if d<=x/\x<b then 2 else if x=F+1 then 3 else if x=F then 5 else 0
 have z:∀ x,b<=x->x<F->ow x=0:=fun x M K=>by
  show (if x=F+1+1 then 1 else if d<=x/\x<b then 2 else if x=F+1 then 3 else if x=F then 5 else 0)=0;rw[Xr (by omega),Xr (by omega),Xr (by omega),Xr (by omega)]
 have B:∀ x,ow x≠0->d<=x/\x<F+1+1+1:=fun x h=>by
  have h:(if x=F+1+1 then 1 else if d<=x/\x<b then 2 else if x=F+1 then 3 else if x=F then 5 else 0)≠0:=h;split at h
  ·omega
  ·split at h
   ·omega
   ·split at h
    ·omega
    ·split at h
     ·omega
     ·exact absurd Z h
 refine⟨⟨ow,e,bp,pm,cm,pi,ci,.slice (some ⟨F+1,0,none⟩) 1 1,Nv,Nv,⟨F,Nv⟩,[],lo,b⟩,⟨t,?_,?_,?_,C,?_,⟨none,0,Z,fun i H=>by simp[RM.start] at H⟩,⟨Z,.inl ⟨Z,Z⟩⟩,?_,Xs Z,fun x c=>?_,fun x c=>by simp[Value.ownBlock] at c,fun x c=>?_,?_⟩,fun x c=>(B x c).1,Z,Z⟩
 ·have k:=J.step (P:=fun _=>False) (P':=fun _=>False) (w':=w) ⟨j.os,j.tape,j.output,j.size,fun x c _=>j.block x c,fun _ h=>h.elim⟩ (fun _ _ h=>h);refine⟨k.1.mono (fun x c _=>?_),k.2⟩
  show (if x=F+1+1 then 1 else if d<=x/\x<b then 2 else if x=F+1 then 3 else if x=F then 5 else 0)=2;rw[Xr (by omega),Xs c]
 ·exact(QaN 6).keep (fun k f o=>j.block k o) (fun k f o=>⟨z k f (by omega),f,by show k<F+1+1;omega⟩) I
 ·exact intsL.keep (fun k f o=>j.block k o) (fun k f o=>⟨z k f (by omega),f,by show k<F+1+1;omega⟩) E
 ·exact⟨Z,.inr ⟨F+1,1,#[Pv F 0],Z,Xb _,p,Ze,by unfold maxLen;omega,Z,Z⟩⟩
 ·refine⟨⟨⟨l,⟨Z,.inl ⟨Z,Z⟩⟩⟩,?_,fun k f=>by simp[Value.ownBlock] at f⟩,Y⟩
  show (if F=F+1+1 then 1 else if d<=F/\F<b then 2 else if F=F+1 then 3 else if F=F then 5 else 0)=5;rw[Xr (by omega),Xr (by omega),Xr (by omega),Xs Z]
 ·have:x=F+1:=by simpa[Value.ownBlock] using c.symm
  subst this;show (if F+1=F+1+1 then 1 else if d<=F+1/\F+1<b then 2 else if F+1=F+1 then 3 else if F+1=F then 5 else 0)=3;rw[Xr (by omega),Xr (by omega),Xs Z]
 ·rw[y];exact(B x c).2
 ·show lo<=w.heap.size;omega
def QiO (w:World) (m:List (MFunc 6)) (inp:List Int) (most pages:Nat) (e:Ending) (w':World):Prop :=
 ∃ b g,e=.returned (.tuple #[Pv b 0,Qbw 0 0])/\WAt w' b most m (RM.start inp pages) g/\(∀ x,g.A x->w.heap.size<=x)/\w.heap.size<=b/\(g.lo=w.heap.size/\w.heap.size<=g.lk)/\Below w.heap.size w w'
theorem Qgr {m:List (MFunc 6)}(hM:(QaN 6).In w All m [.slice pm m.length cm]) (hs:Qbf m) (hI:intsL.In w All inp [.slice pi inp.length ci]) (s:∀ x∈inp,Qnh x) (hi:inp.length<=200) (hf:most<=20000) (hp:pages<=64){a0:Int}
 (CV:∀ wx,Below w.heap.size w wx->Calls prog 66 #[.agg #[.slice pm m.length cm]] wx fun e w'=>e=.returned (Qbw 0 a0)/\Below wx.heap.size wx w') :
 Calls prog 32 #[.agg #[.slice pm m.length cm],.slice pi inp.length ci,Iv (most:Int),Iv (pages:Int)] w fun e w'=>QiO w m inp most pages e w':=by
 have HM:=Qc hM;have HS:=Qc hs;have HI:=Qc hI;have U:=Qc s;have HL:=Qc (Xh hi (Xh hf hp));have p:=Qc (QjV w (.cells #[.slice pm m.length cm] 24) (.cells #[Iv 0,Iv 0] 32));have R:=Qc CV;have d1:decide ((inp.length:Int)>200)=false:=Xu (by omega);have d2:decide ((most:Int)<0)=false:=Xu (by omega);have d3:decide ((most:Int)>20000)=false:=Xu (by omega);clear hM hs hI s hi hf hp CV;go_enter func32,ntmps32
 go_upto_region 1 with fail
 have C:Hid (Blk ((w.alloc (.cells #[.slice pm m.length cm] 24)).alloc (.cells #[Iv 0,Iv 0] 32)) w.heap.size #[.slice pm m.length cm] 24):=Qnz w #[.slice pm m.length cm] 24 _;have BY:Hid (Blk ((w.alloc (.cells #[.slice pm m.length cm] 24)).alloc (.cells #[Iv 0,Iv 0] 32)) (w.heap.size+1) #[Iv 0,Iv 0] 32):=QmI w _ #[Iv 0,Iv 0] 32;generalize (w.alloc (.cells #[.slice pm m.length cm] 24)).alloc (.cells #[Iv 0,Iv 0] 32)=w2 at p C BY |-;obtain⟨Y,hY⟩:∃ Y,w.heap.size+1=Y:=⟨_,Z⟩
 have HY:Hid (w.heap.size<=Y):=by show _<=_;omega
 rw[hY] at BY |-
 clear hY;have x0:=Qb C.out 0 _ Z;generalize hX:w.heap.size=X at x0 C |-;have u:=Qc (R.out w2 p.out);go_upto_region 2 with (go_at_call 66;refine u.out.mono ?_;rintro K D ⟨rfl,T⟩)
 have y:=Qe D #[Iv 0,Iv a0] 32;have E:=Qc (T.trans ((ZP D (.cells #[Iv 0,Iv a0] 32)).mono T.size));clear T u;generalize D.alloc (.cells #[Iv 0,Iv a0] 32)=O at y E |-;generalize D.heap.size=F at y |-;have c0:=Qb y 0 _ Z;clear y x0;have CE:=Qc (QjS O pages HL.out.2.2);go_upto_region 7 with (go_at_call 67;refine CE.out.mono ?_;rintro K i ⟨be,bp,rfl,hE,G⟩)
 clear c0 CE;have B6:=Qc (G.trans ((ZP i (.cells #[Iv 0,Iv 0] 32)).mono G.size));have I:=Qc (hE.step (P:=fun _=>False) (P':=fun _=>False) (w':=i.alloc (.cells #[Iv 0,Iv 0] 32)) ⟨Z,Z,Z,by simp,fun x f _=>Below.heap_alloc _ _ _ f,fun _ h=>h.elim⟩ (fun _ _ h=>h));have j:Hid (O.heap.size<=i.heap.size/\i.heap.size<=(i.alloc (.cells #[Iv 0,Iv 0] 32)).heap.size):=⟨G.size,by simp⟩;have H:=Qe i #[Iv 0,Iv 0] 32;clear hE G;generalize i.alloc (.cells #[Iv 0,Iv 0] 32)=n at B6 I j H |-;generalize i.heap.size=z at I j H |-;have g0:=Qb H 0 _ Z;clear H;have M:=Qc (E.out.trans (B6.out.mono E.out.size));have X6:=Qk (Qb C.out 0 _ Z) M.out;have B:=Qc (p.out.trans (M.out.mono p.out.size));go_upto_region 9 with fail
 have CO:=Qc (Qgg m pm cm n (Ya HM.out B.out) HS.out);have u:Hid (∀ wx,Below n.heap.size n wx->Calls prog 48 #[.slice pi inp.length ci] wx fun e w'=>Qcq wx inp e w'):=fun wx bx=>QgZ (Ya (Ya HI.out B.out) bx) (by have:=HL.out.1;omega);clear g0;have S:=Qc (Blk.below BY.out M.out);go_wp2_with (first | (go_at_call 47;refine CO.out.mono ?_;rintro K w7 ⟨v7,rfl,⟨a7,N,rfl,r⟩,d⟩) | (go_at_call 48;refine(u.out _ d).mono ?_;rintro K c ⟨J,c8,rfl,ac,q,l,b⟩;have B9:=(QjV c (.cells #[Iv 0,Iv 0,Iv 0,Nv] 132) (.cells #[Pv c.heap.size 0] 130)).alloc (by simp;omega) (.cells #[Pv be 0,.slice a7 m.length N,.slice J inp.length c8,Iv (most:Int),.slice (some ⟨c.heap.size+1,0,none⟩) 1 1,Iv 0,Nv,Nv,Iv 0,.bool false] 68);have a:=Blk.below (Blk.below (Blk.below S.out d) b) B9;have y0:=Qb a 0 _ Z;have y1:=Qb a 1 _ Z;have z0:=Qj a 0;have z1:=Qj a 1))
 have ae:n.heap.size<=w7.heap.size:=d.size;have ad:=b.size;have E8:=(I.out.step (P:=fun _=>False) (P':=fun _=>False) (w':=w7) ⟨d.os,d.tape,d.output,d.size,fun x f _=>d.block x f,fun _ h=>h.elim⟩ (fun _ _ h=>h)).step (P:=fun _=>False) (P':=fun _=>False) (w':=c) ⟨b.os,b.tape,b.output,b.size,fun x f _=>b.block x f,fun _ h=>h.elim⟩ (fun _ _ h=>h);obtain⟨ab,ag⟩:=j.out
 have M8:(QaN 6).In c (fun x=>z<=x) m [.slice a7 m.length N]:=Ya (Yc r (fun k L _=>by have L:n.heap.size<=k:=L;show z<=k;omega)) b;have I8:intsL.In c (fun x=>z<=x) inp [.slice J inp.length c8]:=Qkk q U.out (fun x f=>by have:=l x f;show z<=x;omega);have aa:w.heap.size<=O.heap.size:=Zt p.out.size E.out.size;obtain⟨g,A9,hg,Q,af⟩:=WAt.begin (most:=most) (lo:=w.heap.size) E8 M8 I8 ac (by omega) ab (by omega)
 have C9:=B.out.trans ((d.trans ((b.trans (B9.mono b.size)).mono d.size)).mono B.out.size);have W:w.heap.size<=c.heap.size+1+1:=by omega
 have o:w.heap.size<=g.lk:=by omega
 clear y0 y1 z0 z1 B9 E8 M8 I8 r q l d b CO u I;generalize ((c.alloc (.cells #[Iv 0,Iv 0,Iv 0,Nv] 132)).alloc (.cells #[Pv c.heap.size 0] 130)).alloc (.cells (Qcn be a7 m.length N J inp.length c8 most (c.heap.size+1)) 68)=A at *
 have V:((A.setCell ⟨Y,0,none⟩ (Iv 0)).setCell ⟨Y,1,none⟩ (Iv 0)).heap[Y]?=some (.cells #[Iv 0,Iv 0] 32 (0,0)):=by
  rw[Qh (Qh a 0 _) 1 _]
  simp
 have t:Below A.heap.size A ((A.setCell ⟨Y,0,none⟩ (Iv 0)).setCell ⟨Y,1,none⟩ (Iv 0)):=⟨Z,Z,Z,by simp,fun k L=>by
  by_cases e:k=Y
  ·subst e;exact V.trans a.symm
  ·rw[Xd _ _ _ _ e,Xd _ _ _ _ e]⟩
 have f0:=Qb V 0 _ Z;have f1:=Qb V 1 _ Z;exact Xy (v:=.tuple #[Pv (c.heap.size+1+1) 0,Qbw 0 0]) (by simp[results,results32,go_sem,f0,f1]) Z ⟨_,g,Z,A9.below t,fun x f=>Zt aa (hg x f),W,⟨Q,o⟩,C9.trans (t.mono C9.size)⟩
section
variable {m:List (MFunc 6)}{op:Int->Int->Int->Option Int}{R N r:RM}{x:Qt}{most:Nat}
theorem QdU (h size:Int) (l:List Int):(R.thing h size l).fuel=R.fuel/\(R.thing h size l).back=R.back:=by
 unfold RM.thing;split<;>exact⟨Z,Z⟩
theorem QiT (h:R.part x=some r):r.fuel=R.fuel/\r.back=R.back:=by
 unfold RM.part at h;repeat' split at h
 all_goals first | (cases h;done) | (cases h;exact⟨Z,Z⟩)
def FuO (f:Nat) (k:List Int) (o:Option RM):Prop:=∀ N,o=some N->N.fuel=f/\N.back=k
theorem FuO.no {k:List Int}:FuO f k none:=fun N h=>by cases h
theorem FuO.some {k:List Int}(h:R.fuel=f/\R.back=k):FuO f k (some R):=fun N e=>by cases e;exact h
theorem FuO.ite {k:List Int}{c:Prop}[Decidable c] {a b:Option RM}(d:c->FuO f k a) (e:¬ c->FuO f k b):FuO f k (if c then a else b):=by
 by_cases h:c
 ·rw[Xs h];exact d h
 ·rw[Xr h];exact e h
theorem ins_fuO:FuO R.fuel R.back (RM.ins op R x):=by
 unfold RM.ins;refine FuO.ite (fun _=>.some ⟨Z,Z⟩) fun _=>FuO.ite (fun _=>?_) fun _=>FuO.ite (fun _=>FuO.ite (fun _=>.some ⟨Z,Z⟩) (fun _=>.some ⟨Z,Z⟩)) fun _=>FuO.ite (fun _=>?_) fun _=>FuO.ite (fun _=>?_) fun _=>FuO.ite (fun _=>?_) fun _=>FuO.ite (fun _=>?_) fun _=>FuO.ite (fun _=>?_) fun _=>FuO.ite (fun e=>FuO.ite (fun d=>?_) (fun _=>.some ⟨Z,Z⟩)) (fun _ N h=>QiT h)
 ·cases iAt R.top.v x.a with
  | none=>exact .no
  | some a =>
    cases iAt R.top.v x.b with
    | none=>exact .no
    | some b =>
      simp only
      cases op x.k a b with
      | none=>exact .some ⟨Z,Z⟩
      | some c=>exact .some ⟨Z,Z⟩
 ·cases iAt R.top.v x.a with
  | none=>exact .no
  | some a=>exact .some ⟨Z,Z⟩
 ·cases iAt R.top.v x.a with
  | none=>exact .no
  | some a=>cases QaA R.top.v x.args with
    | none=>exact .no
    | some l=>exact .some (QdU _ _ _)
 ·cases iAt R.top.v x.a with
  | none=>exact .no
  | some a=>cases iAt R.top.v x.b with
    | none=>exact .no
    | some k=>exact FuO.ite (fun _=>.some (QdU _ _ _)) (fun _=>.some ⟨Z,Z⟩)
 ·cases R.inp with
  | nil=>exact .some ⟨Z,Z⟩
  | cons k l=>exact .some ⟨Z,Z⟩
 ·cases iAt R.top.v x.a with
  | none=>exact .no
  | some a=>exact FuO.ite (fun _=>.some ⟨Z,Z⟩) (fun _=>.some ⟨Z,Z⟩)
 ·cases QaA R.top.v x.args with
  | none=>exact .no
  | some l=>exact .some ⟨Z,Z⟩
theorem QjP (h:RM.ins op R x=some r):r.fuel=R.fuel/\r.back=R.back:=ins_fuO r h
theorem Qd5 {t:MTo}(h:R.to t=some r):r.fuel=R.fuel/\r.back=R.back:=by
 unfold RM.to at h;split at h
 ·cases h
 ·cases h;exact⟨Z,Z⟩
theorem QjE {e:ZA}(h:R.endd e=some r):r.fuel=R.fuel/\(r.done=true\/r.back=R.back):=by
 unfold RM.endd at h;split at h
 ·split at h
  ·cases h
  ·split at h
   ·cases h;exact⟨Z,.inl Z⟩
   ·cases h;exact⟨Z,.inr Z⟩
 ·split at h
  ·split at h
   ·cases h
   ·split at h<;>exact⟨(Qd5 h).1,.inr (Qd5 h).2⟩
  ·exact⟨(Qd5 h).1,.inr (Qd5 h).2⟩
theorem Qhv (a:N.fuel<=most) (h:RM.step m op most N=some r):r.fuel<=most/\(r.done=false->r.fuel=N.fuel+1/\r.back=N.back):=by
 unfold RM.step at h;split at h
 ·cases h;exact⟨a,fun h=>by cases h⟩
 split at h
 ·cases h
 split at h
 ·cases h
 split at h
 ·have q:r.fuel=N.fuel+1/\r.back=N.back:=QjP h;exact⟨by omega,fun _=>q⟩
 ·obtain⟨q,k⟩:r.fuel=N.fuel+1/\(r.done=true\/r.back=N.back):=QjE h
  exact⟨by omega,fun e=>⟨q,k.resolve_left (by rw[e];decide)⟩⟩
theorem rsteps_snoc:∀ (k:Nat) (R:RM),RM.steps m op most (k+1) R=(match RM.steps m op most k R with
 | none=>none
 | some N=>if N.done then some N else RM.step m op most N)
 | 0,R=>by
   simp only[RM.steps]
   split
   ·rfl
   ·cases RM.step m op most R<;>rfl
 | k+1,R=>by
   rw[RM.steps]
   split
   ·rename_i a
    rw[RM.steps,Xs a]
    simp[a]
   ·rename_i a
    rw[RM.steps,Xr a]
    cases RM.step m op most R with
    | none=>rfl
    | some R'=>exact rsteps_snoc k R'
theorem Qgc (h:RM.steps m op most k R=some N) (b:N.done=true):∀ n,k<=n->RM.steps m op most n R=some N:=fun n a=>by
 obtain⟨j,rfl⟩:=Nat.le.dest a
 clear a
 induction j with
 | zero=>exact h
 | succ j ih=>rw[<-Nat.add_assoc,rsteps_snoc,ih];simp[b]
theorem Qem (H:(Qq m).1=0) (inp:List Int)(b:pages<=64) (n:Nat):∃ N,RM.steps m op most n (RM.start inp pages)=some N:=by
 obtain⟨c,a,-,h,-⟩:=QkM (op:=op) (most:=most) H inp b n
 exact⟨a,h⟩
end
def QfD (m:List (MFunc 6)) (most:Nat) (R0:RM):Prop:=∀ k,∃ N,RM.steps m aOp most k R0=some N
structure Qey (wL w:World) (b most:Nat) (m:List (MFunc 6)) (R0 N:RM) (g:WG) (k:Nat):Prop where
 at_:WAt w b most m N g
 far:∀ x,g.A x->wL.heap.size<=x
 bel:Below wL.heap.size wL w
 st:RM.steps m aOp most k R0=some N
 fu:N.done=false->N.fuel=k
 le:N.fuel<=most
 bk:N.done=false->N.back=[]
def boolW:Value->Bool
 | .bool b=>b
 | _=>false
def Qj0 (b most:Nat) (w:World):Nat:=if boolW ((w.cell? ⟨b,9,none⟩).getD undef) then 0 else most+1 - (intOf ((w.cell? ⟨b,8,none⟩).getD undef)).toNat+1
section
variable {wL w w':World}{b most k:Nat}{m:List (MFunc 6)}{R0 N:RM}{g:WG}
theorem WAt.left (S:WAt w b most m N g):Qj0 b most w=if N.done then 0 else most+1 - N.fuel+1:=by
 unfold Qj0;have d:w.cell? ⟨b,9,none⟩=some (.bool N.done):=Qb S.box 9 _ Z;have c:w.cell? ⟨b,8,none⟩=some (Iv N.fuel):=Qb S.box 8 _ Z;rw[d,c]
 by_cases a:N.done=true
 ·simp[a,boolW]
 ·simp[a,intOf,boolW]
theorem Qey.below (Z:Qey wL w b most m R0 N g k) (h:Below w.heap.size w w'):Qey wL w' b most m R0 N g k:=⟨Z.at_.below h,Z.far,Z.bel.trans (h.mono Z.bel.size),Z.st,Z.fu,Z.le,Z.bk⟩
theorem WAt.high (S:WAt w b most m N g) (h:N.back=[]):WAt w b most m N { g with lo:=w.heap.size } :=
 ⟨S.box,S.est,S.mod,S.inp,S.inpC,S.calls,by
  obtain⟨p,c,e,-⟩:=S.back
  exact⟨p,c,e,fun i a=>by rw[h] at a;exact absurd a (XG i)⟩,S.out,S.frs,S.ob,S.oc,S.oo,S.lt,Ze⟩
theorem Qey.go (n:(modFault m).1=0) (s:most<=20000) (o:QfD m most R0) (t:ROk m 0 R0) (Z:Qey wL w b most m R0 N g k) (f:N.done=false) :
 Calls prog 34 #[Pv b 0] w fun e w'=>e=.returned (.tuple #[])/\∃ N' g',Qey wL w' b most m R0 N' g' (k+1)/\Qz g.A g'.A w w'/\(g'.lo=w.heap.size/\g'.lk=g.lk)/\(N'.done=false->N'.fuel=N.fuel+1):=by
 obtain⟨r,l⟩:=o (k+1)
 have a:=l;rw[rsteps_snoc,Z.st] at a
 simp only[f] at a
 have a:RM.step m aOp most N=some r:=by simpa using a
 have u:=Z.fu f;have d:=Z.le;have I:=Qc3 n t k Z.st;obtain⟨q,j⟩:=Qhv d a
 refine(Qh5 (Z.at_.high (Z.bk f)) I (by omega) n d (by omega) f a).mono ?_
 rintro e w' ⟨rfl,g',p,c⟩;refine⟨Yz,r,g',⟨p,fun x i=>?_,?_,l,fun h=>by rw[(j h).1,u],q,fun h=>by rw[(j h).2,Z.bk f]⟩,c.1,⟨c.lo,c.lk⟩,fun h=>(j h).1⟩
 ·rcases c.own x i with e | e
  ·exact Z.far x e
  ·have:=Z.bel.size;omega
 ·exact⟨c.os.trans Z.bel.os,c.tape.trans Z.bel.tape,c.output.trans Z.bel.output,Zt Z.bel.size c.size,fun x i=>(c.block x (by have:=Z.bel.size;omega) (fun e=>by have:=Z.far x e;omega)).trans (Z.bel.block x i)⟩
theorem Qey.end_ (Z:Qey wL w b most m R0 N g k) (c:k<=most+1) (a:N.done=true):RM.steps m aOp most (most+1) R0=some N:=Qgc Z.st a _ c
def Qeo (w:World) (m:List (MFunc 6)) (inp:List Int) (most pages:Nat) (e:Ending) (w':World):Prop :=
 ∃ N v,RM.steps m aOp most (most+1) (RM.start inp pages)=some N/\N.done=true/\QjH w.heap.size N v w'/\e=.returned (.tuple #[v,Qbw 0 0])/\Below w.heap.size w w'
theorem Qkj (hm:(modFault m).1=0) (H:most<=20000) (HS:QfD m most (RM.start inp pages)) (I0:ROk m 0 (RM.start inp pages))
 (I:∀ wx,Below w.heap.size w wx->Calls prog 32 #[.agg #[.slice pm m.length cm],.slice pi inp.length ci,Iv (most:Int),Iv (pages:Int)] wx fun e w'=>QiO wx m inp most pages e w') :
 Calls prog 30 #[.agg #[.slice pm m.length cm],.slice pi inp.length ci,Iv (most:Int),Iv (pages:Int)] w fun e w'=>Qeo w m inp most pages e w':=by
 have d:=((((Bxs.start w).new #[.slice pm m.length cm] 24)).new #[Iv 0,Nv,Nv,Iv 0] 44).new #[Iv 0,Iv 0] 32;rw[World.size_alloc,World.size_alloc] at d
 have d:=Qc d;have HM:=Qc hm;have HI:=Qc I0;have ag:=Qc H;have W:=Qc HS;have al:=Qc I;clear hm I0 H HS I;go_enter func30,ntmps30
 go_upto_region 1 with fail
 generalize ((w.alloc (.cells #[.slice pm m.length cm] 24)).alloc (.cells #[Iv 0,Nv,Nv,Iv 0] 44)).alloc (.cells #[Iv 0,Iv 0] 32)=t at d |-;have ah:Hid (w.heap.size<=w.heap.size+1):=by show _<=_;omega
 have aa:Hid (w.heap.size<=w.heap.size+1+1):=by show _<=_;omega
 generalize w.heap.size+1+1=h at d aa |-;generalize w.heap.size+1=c at d ah |-;generalize hX:w.heap.size=X at d |-;have HX:=Qc hX;have I:=Qc (al.out t (by rw[<-HX.out] at d;exact d.out.bel));have x0:t.cell? ⟨X,0,none⟩=some (.slice pm m.length cm):=d.out.cell (a:=[_,_]) 0 _ Yz;go_upto_region 2 with (go_at_call 32;refine I.out.mono ?_;rintro S p ⟨b,g,rfl,S4,R,ac,D,E⟩)
 have U:=Qc ((d.out.below E).new #[Iv 0,Iv 0] 32);have Z5:Hid (Qey t (p.alloc (.cells #[Iv 0,Iv 0] 32)) b most m (RM.start inp pages) (RM.start inp pages) g 0):=⟨S4.below (ZP _ _),R,E.trans ((ZP _ _).mono E.size),Yz,fun _=>rfl,Xb _,fun _=>rfl⟩;have ai:Hid (t.heap.size<=p.heap.size):=E.size;clear S4 R ac D E I x0;have ap:=Qc d.out.bel
 have G:Hid (t.heap.size<=p.heap.size/\p.heap.size<(p.alloc (.cells #[Iv 0,Iv 0] 32)).heap.size):=by
  constructor
  ·exact ai.out
  ·simp
 clear hX;generalize p.alloc (.cells #[Iv 0,Iv 0] 32)=w5 at U Z5 G |-;generalize p.heap.size=F at U G |-;have f0:w5.cell? ⟨F,0,none⟩=some (Iv 0):=U.out.cell (a:=[]) 0 _ Yz;go_upto_region 4 with fail
 clear f0;go_loopw [] (fun wr=>∃ N g k,Qey t wr b most m (RM.start inp pages) N g k/\k<=most+1) (fun wr=>Qj0 b most wr)
 case atStart=>exact⟨_,_,_,Z5.out,Xb _⟩
 case round =>
  obtain⟨N,g',k,Z,hk⟩:=hrel
  have M:=Qc (QeZ Z.at_)
  cases hd:N.done with
  | false =>
    have C:=Qc (Z.go HM.out ag.out W.out HI.out hd);have HL:=Qc Z.at_.left;rw[hd] at M HL
    have an:=Z.le;have aj:k+1<=most+1:=by have:=Z.fu hd;omega
    clear Z hd;go_wp2_with (first | (go_at_call 33;refine M.out.mono ?_;rintro S w' ⟨rfl,o⟩;have o:=o.symm;subst o) | (go_at_call 34;refine C.out.mono ?_;rintro S w6 ⟨rfl,N',g6,Z6,T6,-,ae⟩))
    go_roundw
    case rel=>exact⟨N',g6,_,Z6,aj⟩
    case measure =>
     rw[HL.out,Z6.at_.left]
     have h6:=Z6.le
     cases hd6:N'.done with
     | true=>simp
     | false=>have:=ae hd6;simp;omega
  | true =>
    have ak:=Qc (Z.end_ hk hd);have HD:=Qc hd
    have HK:Hid (N.out.length<=1000000/\N.back.length<=1000000):=by
     have J:=Qc3 HM.out HI.out k Z.st;exact⟨by have:=J.out.1;omega,by have:=J.out.2;omega⟩
    have CO:=Qc (Qcf Z.at_ HK.out.1 HK.out.2);have L:=Qc (d.out.below Z.bel);have ad:Hid (c<wr.heap.size/\h<wr.heap.size):=⟨(L.out.at (a:=[_])).lt,(L.out.at (a:=[])).lt⟩;have af:Hid (w.heap.size<=wr.heap.size):=L.out.bel.size;rw[hd] at M
    clear Z hd hk;go_upto_region 6 with (go_at_call 33;refine M.out.mono ?_;rintro S w' ⟨rfl,o⟩;have o:=o.symm;subst o)
    go_wp2_with fail
    refine CO.out.mono ?_;rintro S w8 ⟨v,rfl,⟨vb,vo,rfl,⟨q,y,rfl,A,z,K⟩,⟨s,u,rfl,Q,P,B⟩⟩,b8⟩;have f:=Qc (L.out.below b8);have r0:=f.out.cell (a:=[_]) 0 _ Yz;have r1:=f.out.cell (a:=[_]) 1 _ Yz;have r2:=f.out.cell (a:=[_]) 2 _ Yz;have r3:=f.out.cell (a:=[_]) 3 _ Yz;have z0:=f.out.free (a:=[_]) 0;have z1:=f.out.free (a:=[_]) 1;have z2:=f.out.free (a:=[_]) 2;have z3:=f.out.free (a:=[_]) 3;have s0:=f.out.cell (a:=[]) 0 _ Yz;have s1:=f.out.cell (a:=[]) 1 _ Yz;have y0:=f.out.free (a:=[]) 0;have y1:=f.out.free (a:=[]) 1;have V:¬ c=h:=fun e=>by have:=f.out.nd;simp[e] at this
    have am:¬ h=c:=fun e=>V e.symm;have i:=Qc (Xh A (Xh z K));have j:=Qc (Xh Q (Xh P B));clear A z K Q P B b8 CO M d U L Z5;go_wp2_with fail
    have l:=(((((f.out.set (a:=[_]) 0 (Iv N.fin)).set (a:=[_]) 1 (.slice q N.back.length y)).set (a:=[_]) 2 (.slice s N.out.length u)).set (a:=[_]) 3 (Iv N.fuel)).set (a:=[]) 0 (Iv 0)).set (a:=[]) 1 (Iv 0)
    have KK:∀ x,wr.heap.size<=x->((((((w8.setCell ⟨c,0,none⟩ (Iv N.fin)).setCell ⟨c,1,none⟩ (.slice q N.back.length y)).setCell ⟨c,2,none⟩ (.slice s N.out.length u)).setCell ⟨c,3,none⟩ (Iv N.fuel)).setCell ⟨h,0,none⟩ (Iv 0)).setCell ⟨h,1,none⟩ (Iv 0)).heap[x]?=w8.heap[x]?:=fun x n=>by
     have h1:=ad.out;have T:x≠c:=by omega
     have n9:x≠h:=by omega
     rw[Xd _ _ _ _ n9,Xd _ _ _ _ n9,Xd _ _ _ _ T,Xd _ _ _ _ T,Xd _ _ _ _ T,Xd _ _ _ _ T]
    generalize ((((((w8.setCell ⟨c,0,none⟩ (Iv N.fin)).setCell ⟨c,1,none⟩ (.slice q N.back.length y)).setCell ⟨c,2,none⟩ (.slice s N.out.length u)).setCell ⟨c,3,none⟩ (Iv N.fuel)).setCell ⟨h,0,none⟩ (Iv 0)).setCell ⟨h,1,none⟩ (Iv 0))=r at l KK |-;have f0:r.cell? ⟨c,0,none⟩=some (Iv N.fin):=l.cell (a:=[_]) 0 _ Yz;have f1:r.cell? ⟨c,1,none⟩=some (.slice q N.back.length y):=l.cell (a:=[_]) 1 _ Yz;have f2:r.cell? ⟨c,2,none⟩=some (.slice s N.out.length u):=l.cell (a:=[_]) 2 _ Yz;have f3:r.cell? ⟨c,3,none⟩=some (Iv N.fuel):=l.cell (a:=[_]) 3 _ Yz;have q0:r.cell? ⟨h,0,none⟩=some (Iv 0):=l.cell (a:=[]) 0 _ Yz;have q1:r.cell? ⟨h,1,none⟩=some (Iv 0):=l.cell (a:=[]) 1 _ Yz;have O:=af.out
    exact Xy (v:=.tuple #[.agg #[Iv N.fin,.slice q N.back.length y,.slice s N.out.length u,Iv N.fuel],Qbw 0 0]) (by simp[results,results30,go_sem,f0,f1,f2,f3,q0,q1]) Yz
     ⟨N,_,ak.out,HD.out,⟨_,_,Yz,⟨q,y,Yz,i.out.1,Q0 i.out.2.1 (fun x n=>KK x (i.out.2.2 x n)),fun x n=>Zt O (i.out.2.2 x n)⟩,⟨s,u,Yz,j.out.1,Q0 j.out.2.1 (fun x n=>KK x (j.out.2.2 x n)),fun x n=>Zt O (j.out.2.2 x n)⟩⟩,Yz,l.bel⟩
end
section
variable {wL w w':World}{b bx by_ most j k s F:Nat}{m o:List (MFunc 6)}{R X0 Y0 X Y:RM}{g gx gy:WG}{O O':Nat->Prop}{ff:Array Value}{T:TypeId}
theorem WAt.other (S:WAt w b most m R g) (T:Qz O O' w w') (f:∀ x,g.A x->¬ O x) (e:∀ x,g.lk<=x->x<b->¬ O x) (h:WIn w (fun x=>(g.ow x=0/\g.lo<=x)/\¬ O x) R.back g.vb):WAt w' b most m R g:=by
 have d:∀ x,g.A x->w'.heap[x]?=w.heap[x]?:=fun x a=>T.block x (S.lt x a) (f x a);have i:=S.est.step (P:=O) (P':=O') T (fun x a=>f x (by show g.ow x≠0;have a:g.ow x=2:=a;omega));refine⟨(d b (by show g.ow b≠0;rw[S.ob];decide)).trans S.box,?_,?_,?_,S.inpC,Q0 S.calls (fun x a=>d x (by show g.ow x≠0;rw[S.oc x a];decide)),?_,Q0 S.out (fun x a=>d x (by show g.ow x≠0;rw[S.oo x a];decide)),S.frs.keep (fun _ _=>rfl) (fun x a j _=>d x (by show g.ow x≠0;omega)),S.ob,S.oc,S.oo,fun x a=>Zl (S.lt x a) T.size,Zt S.low T.size⟩
 ·exact i
 ·exact(QaN 6).keep (fun x a c=>T.block x c (e x a.2.1 a.2.2)) (fun x a _=>a) S.mod
 ·exact intsL.keep (fun x a c=>T.block x c (e x a.2.1 a.2.2)) (fun x a _=>a) S.inp
 ·exact WIn.keep (fun x a c=>T.block x c a.2) (fun x a _=>a.1) h
structure Qdq (wL w:World) (bx by_ most:Nat) (m o:List (MFunc 6)) (X0 Y0 X Y:RM) (gx gy:WG) (j k s F:Nat) (ff:Array Value) (T:TypeId):Prop where
 x:Qey wL w bx most m X0 X gx j
 y:Qey wL w by_ most o Y0 Y gy k
 ap:∀ z,gx.A z->¬ gy.A z
 ys:∀ z,gy.A z->s<=z
 xs:∀ z,gx.A z->z<s\/by_<z
 bs:bx<s
 ly:s<=gy.lk
 xb:WIn w (fun z=>(gx.ow z=0/\gx.lo<=z)/\¬ gy.A z) X.back gx.vb
 yb:WIn w (fun z=>(gy.ow z=0/\gy.lo<=z)/\¬ gx.A z) Y.back gy.vb
 fb:w.heap[F]?=some (.cells ff T (0,0))
 fx:¬ gx.A F
 fy:¬ gy.A F
theorem Qdq.goX (p:(modFault m).1=0) (d:most<=20000) (D:QfD m most X0) (t:ROk m 0 X0) (Z:Qdq wL w bx by_ most m o X0 Y0 X Y gx gy j k s F ff T) (r:X.done=false) :
 Calls prog 34 #[Pv bx 0] w fun e w'=>e=.returned (.tuple #[])/\∃ X' gx',Qdq wL w' bx by_ most m o X0 Y0 X' Y gx' gy (j+1) k s F ff T/\(X'.done=false->X'.fuel=X.fuel+1):=by
 refine(Z.x.go p d D t r).mono ?_
 rintro e w' ⟨rfl,X',gx',g,b,⟨u,E⟩,B⟩;have I:=XC Z.y.at_.box;have n:=XC Z.fb;have l:∀ z,z<w.heap.size->¬ gx.A z->¬ gx'.A z:=fun z a h e=>(b.own z e).elim h (fun q=>by omega);refine⟨Yz,X',gx',⟨g,⟨Z.y.at_.other b (fun z C i=>Z.ap z i C) (fun z G v i=>?_) Z.yb,Z.y.far,g.bel,Z.y.st,Z.y.fu,Z.y.le,Z.y.bk⟩,fun z h c=>?_,Z.ys,fun z h=>?_,Z.bs,Z.ly,?_,?_,(b.block F n Z.fx).trans Z.fb,l F n Z.fx,Z.fy⟩,B⟩
 ·have H:=Z.ly;rcases Z.xs z i with e | e<;>omega
 ·exact l z (Z.y.at_.lt z c) (fun e=>Z.ap z e c) h
 ·rcases b.own z h with e | e
  ·exact Z.xs z e
  ·exact .inr (by omega)
 ·exact WIn.keep (fun _ _ _=>rfl) (fun z a _=>⟨a,fun c=>by
   have G:=Z.y.at_.lt z c;have v:=a.2;omega⟩) g.at_.back
 ·exact WIn.keep (fun z a f=>b.block z f a.2) (fun z a f=>⟨a.1,l z f a.2⟩) Z.yb
theorem Qdq.goY (u:(modFault o).1=0) (d:most<=20000) (G:QfD o most Y0) (B:ROk o 0 Y0) (Z:Qdq wL w bx by_ most m o X0 Y0 X Y gx gy j k s F ff T) :
 Calls prog 34 #[Pv by_ 0] w fun e w'=>e=.returned (.tuple #[])/\∃ Y' gy' k',Qdq wL w' bx by_ most m o X0 Y0 X Y' gx gy' j k' s F ff T:=by
 cases hd:Y.done with
 | true=>exact(Qhe Z.y.at_ hd).mono fun e w' h=>⟨h.1,Y,gy,k,by rw[h.2];exact Z⟩
 | false =>
   refine(Z.y.go u d G B hd).mono ?_
   rintro e w' ⟨rfl,Y',gy',g,c,⟨C,i⟩,H⟩;have n:=XC Z.fb;have l:∀ z,z<w.heap.size->¬ gy.A z->¬ gy'.A z:=fun z a h e=>(c.own z e).elim h (fun q=>by omega);refine⟨Yz,Y',gy',k+1,⟨⟨Z.x.at_.other c (fun z D b=>Z.ap z D b) (fun z r p b=>?_) Z.xb,Z.x.far,g.bel,Z.x.st,Z.x.fu,Z.x.le,Z.x.bk⟩,g,fun z h b=>?_,fun z h=>?_,Z.xs,Z.bs,by rw[i];exact Z.ly,?_,?_,(c.block F n Z.fy).trans Z.fb,Z.fx,l F n Z.fy⟩⟩
   ·have v:=Z.ys z b;have t:=Z.bs;omega
   ·exact l z (Z.x.at_.lt z h) (Z.ap z h) b
   ·rcases c.own z h with e | e
    ·exact Z.ys z e
    ·have r:=Z.bs;have p:=Z.ly;have v:=XC Z.y.at_.box;have t:=Z.ys by_ (by show gy.ow by_≠0;rw[Z.y.at_.ob];decide);omega
   ·exact WIn.keep (fun z a f=>c.block z f a.2) (fun z a f=>⟨a.1,l z f a.2⟩) Z.xb
   ·exact WIn.keep (fun _ _ _=>rfl) (fun z a _=>⟨a,fun E=>by
     have r:=Z.x.at_.lt z E;have p:=a.2;omega⟩) g.at_.back
theorem Qdq.start {d:World}(a:Qey wL w2 bx most m X0 X0 gx 0) (s:bx<w2.heap.size) (t:WIn w2 (fun z=>(gx.ow z=0/\gx.lo<=z)/\z<w2.heap.size) X0.back gx.vb)
 (S:WAt d by_ most o (RM.start inp pages) gy) (f:∀ x,gy.A x->w2.heap.size<=x) (v:w2.heap.size<=by_) (b:w2.heap.size<=gy.lk) (g:Below w2.heap.size w2 d) (q:d.heap[F]?=some (.cells ff T (0,0))) (u:¬ gx.A F) (r:¬ gy.A F) :
 Qdq wL d bx by_ most m o X0 (RM.start inp pages) X0 (RM.start inp pages) gx gy 0 0 w2.heap.size F ff T:=by
 have j:=a.bel.size;refine⟨a.below g,⟨S,fun x h=>Zt j (f x h),a.bel.trans (g.mono j),Z,fun _=>rfl,Xb _,fun _=>rfl⟩,fun z h n=>?_,f,fun z h=>.inl (a.at_.lt z h),s,b,?_,?_,q,u,r⟩
 ·have:=a.at_.lt z h
  have:=f z n
  omega
 ·exact WIn.keep (fun z _ b=>g.block z b) (fun z l b=>⟨l.1,fun e=>by have:=f z e;omega⟩) t
 ·obtain⟨p,c,e,-⟩:=S.back
  exact⟨p,c,e,fun i k=>absurd k (XG i)⟩
end
theorem QhM (x:MTo) (a:Nat):x.form a true=if rangeC x.block 0 ((a:Int) - 1)=0 then handedC x.regs.length 16 x.args.length else rangeC x.block 0 ((a:Int) - 1):=by
 unfold MTo.form rangeC handedC manyC;simp only[Bool.true_eq_false,if_false]
 repeat' split
 all_goals omega
theorem Qis (x:MTo) (a:Nat):x.form a false=if x.block=0/\x.regs.length=0/\x.args.length=0 then 0 else 4:=by
 unfold MTo.form;simp only[if_true]
 repeat' split
 all_goals omega
theorem Qg5 (e:ZA) (b:Nat):e.form b=if e.op<1\/3<e.op then 3 else if (e.op≠2/\e.a≠0)\/(e.op≠3/\0<e.args.length) then 4 else if 8<e.args.length then 2
 else if e.yes.form b (e.op != 3)=0 then e.no.form b (e.op==2) else e.yes.form b (e.op != 3):=by
 unfold ZA.form;have j:decide (e.op≠3)=(e.op != 3):=by by_cases h:e.op=3<;>simp[h]
 have i:decide (e.op=2)=(e.op==2):=by by_cases h:e.op=2<;>simp[h]
 rw[j,i]
 by_cases f:e.op<1\/3<e.op
 ·simp[f]
 ·rw[Xr f,Xr f]
  by_cases c:(e.op≠2/\e.a≠0)\/(e.op≠3/\0<e.args.length)
  ·rw[Xs c,Xs (c.imp (fun h=>⟨h.2,h.1⟩) (fun h=>⟨h.2,h.1⟩))]
  ·rw[Xr c,Xr (fun h=>c (h.imp (fun h=>⟨h.2,h.1⟩) (fun h=>⟨h.2,h.1⟩)))]
   by_cases d:8<e.args.length
   ·simp[d]
   ·rw[Xr d,Xr d]
    by_cases g:e.yes.form b (e.op != 3)=0
    ·simp[g]
    ·simp[g]
theorem Ql3 {a:Int}{b c:Nat}{d e j:Option Addr}{i h k f l m:Nat}:Rd prog 230 #[.agg #[Iv fr,.slice d i h,.slice e k f,.slice j l m],.agg #[Iv a,.slice pR b cR,.slice pA c cA],.bool false] w (Iv (if a=0/\b=0/\c=0 then 0 else 4)):=by
 unfold Rd;rcases (show a=0/\b=0/\c=0\/¬ a=0\/a=0/\(0:Int)<b\/a=0/\b=0/\(0:Int)<c by omega) with ⟨rfl,rfl,rfl⟩ | g | ⟨rfl,g⟩|⟨rfl,rfl,g⟩
 rw[Xs ⟨Z,Z,Z⟩]
 rotate_left
 all_goals
  try rw[Xr (by omega)]
  try rw[<-bne_iff_ne,bne,Bool.not_eq_true'] at g
  go_enter func230,ntmps230
  go_wp2
  go_ret;exact⟨Z,QhA _ _ _⟩
theorem QlE {b:Int}{c d:Nat}{j k r:Option Addr}{p o m q a n:Nat}(E:a<2305843009213693952):Rd prog 230 #[.agg #[Iv fr,.slice j p o,.slice k m q,.slice r a n],.agg #[Iv b,.slice pR c cR,.slice pA d cA],.bool true] w (Iv (if rangeC b 0 ((a:Int) - 1)=0 then handedC c 16 d else rangeC b 0 ((a:Int) - 1))):=by
 have C:Hid (∀ f:World,Calls prog 262 #[Iv b,Iv 0,Iv ((a:Int) - 1)] f fun e z=>e=.returned (Iv (rangeC b 0 ((a:Int) - 1)))/\Below f.heap.size f z):=fun f=>QaG;have s:Hid (∀ f:World,Calls prog 264 #[.slice pR c cR,Iv 16,.slice pA d cA] f fun e z=>e=.returned (Iv (handedC c 16 d))/\Below f.heap.size f z):=fun f=>Qbh;generalize rangeC b 0 ((a:Int) - 1)=v at C |-;generalize handedC c 16 d=u at s |-;have h:Blk ((w.alloc (.cells #[Iv fr,.slice j p o,.slice k m q,.slice r a n] 89)).alloc (.cells #[Iv b,.slice pR c cR,.slice pA d cA] 82)) (w.heap.size+1) #[Iv b,.slice pR c cR,.slice pA d cA] 82:=Blk.new2 _ _ _ _;have g:Hid (Below w.heap.size w ((w.alloc (.cells #[Iv fr,.slice j p o,.slice k m q,.slice r a n] 89)).alloc (.cells #[Iv b,.slice pR c cR,.slice pA d cA] 82))):=QhA _ _ _;unfold Rd;by_cases y:v=0
 ·subst y;rw[Xs Z]
  go_enter func230,ntmps230
  go_wp2_with fail
  generalize ((w.alloc (.cells #[Iv fr,.slice j p o,.slice k m q,.slice r a n] 89)).alloc (.cells #[Iv b,.slice pR c cR,.slice pA d cA] 82))=D at h g |-;refine(C.out _).mono ?_
  rintro e x ⟨rfl,i⟩;have t:=(i.block _ (XC h)).trans h;have l:Hid (Below w.heap.size w x):=g.out.trans (i.mono g.out.size);have H:=Qb t 1 _ Z;have I:=Qb t 2 _ Z;clear i C h g t;go_wp2_with fail
  refine(s.out _).mono ?_
  rintro e F ⟨rfl,A⟩;have B:Hid (Below w.heap.size w F):=l.out.trans (A.mono l.out.size);clear A s l;go_wp2
  go_ret;exact⟨Z,B.out⟩
 ·rw[Xr y]
  have G:(v==0)=false:=by simpa using y
  go_enter func230,ntmps230
  go_wp2_with fail
  generalize ((w.alloc (.cells #[Iv fr,.slice j p o,.slice k m q,.slice r a n] 89)).alloc (.cells #[Iv b,.slice pR c cR,.slice pA d cA] 82))=D at h g |-;refine(C.out _).mono ?_
  rintro e x ⟨rfl,i⟩;have l:Hid (Below w.heap.size w x):=g.out.trans (i.mono g.out.size);clear i C s h g;go_wp2
  go_ret;exact⟨Z,l.out⟩
theorem QdG {x:MTo}{d f i:Option Addr}{j h g e c k:Nat}(a:Bool)(b:c<2305843009213693952) :
 Rd prog 230 #[.agg #[Iv fr,.slice d j h,.slice f g e,.slice i c k],.agg #[Iv x.block,.slice pR x.regs.length cR,.slice pA x.args.length cA],.bool a] w (Iv (x.form c a)):=by
 cases a
 ·rw[Qis];exact Ql3
 ·rw[QhM];exact QlE b
theorem QjJ {a r G:Int}{f n d b J:Option Addr}{c h m l p k g i q I:Nat}{s t E:Option Addr}{C B y D u A:Nat}{x O:Int}(V:¬ (a<1\/3<a)) (S:¬ ((a≠2/\r≠0)\/(a≠3/\0<q))) (R:¬ 8<q)
 (N:Hid (∀ wx:World,Calls prog 230 #[.agg #[Iv fr,.slice s C B,.slice t y D,.slice E u A],.agg #[Iv yb,.slice f c h,.slice n m l],.bool (a != 3)] wx fun e w'=>e=.returned (Iv x)/\Below wx.heap.size wx w'))
 (K:Hid (∀ wx:World,Calls prog 230 #[.agg #[Iv fr,.slice s C B,.slice t y D,.slice E u A],.agg #[Iv G,.slice d p k,.slice b g i],.bool (a==2)] wx fun e w'=>e=.returned (Iv O)/\Below wx.heap.size wx w')) :
 Rd prog 185 #[.agg #[Iv fr,.slice s C B,.slice t y D,.slice E u A],.agg #[Iv a,Iv r,Iv yb,.slice f c h,.slice n m l,Iv G,.slice d p k,.slice b g i,.slice J q I]] w (Iv (if x=0 then O else x)):=by
 obtain⟨v,z⟩:∃ v,v=(w.alloc (.cells #[Iv fr,.slice s C B,.slice t y D,.slice E u A] 89)).alloc (.cells #[Iv a,Iv r,Iv yb,.slice f c h,.slice n m l,Iv G,.slice d p k,.slice b g i,.slice J q I] 84):=⟨_,Z⟩
 have o:Blk v w.heap.size #[Iv fr,.slice s C B,.slice t y D,.slice E u A] 89:=by rw[z];exact Blk.new1 _ _ _ _ _
 have j:Blk v (w.heap.size+1) #[Iv a,Iv r,Iv yb,.slice f c h,.slice n m l,Iv G,.slice d p k,.slice b g i,.slice J q I] 84:=by rw[z];exact Blk.new2 _ _ _ _
 have L:Hid (Below w.heap.size w v):=by rw[z];exact QhA _ _ _
 unfold Rd;have g8:¬ (8:Int)<q:=by omega
 rcases (show a=1/\r=0/\q=0\/a=2/\q=0\/a=3/\r=0 by omega) with ⟨rfl,rfl,rfl⟩|⟨rfl,rfl⟩|⟨rfl,rfl⟩
 all_goals
  clear V S R;go_enter func185,ntmps185
  go_wp2_with fail
  rw[<-z]
  clear z;refine(N.out _).mono ?_
  rintro e T ⟨rfl,H⟩;replace o:=(H.block _ (XC o)).trans o;replace j:=(H.block _ (XC j)).trans j;have F:Hid (Below w.heap.size w T):=L.out.trans (H.mono L.out.size);clear H N L;by_cases P:x=0
  ·subst P;have X:=Qb o 0 _ Z;have c1:=Qb o 1 _ Z;have c2:=Qb o 2 _ Z;have c3:=Qb o 3 _ Z;have d0:=Qb j 0 _ Z;have d5:=Qb j 5 _ Z;have d6:=Qb j 6 _ Z;have d7:=Qb j 7 _ Z;clear o j;go_wp2_with fail
   refine(K.out _).mono ?_
   rintro e U ⟨rfl,M⟩;have Q:Hid (Below w.heap.size w U):=F.out.trans (M.mono F.out.size);clear M K F;go_wp2
   go_ret;exact⟨Z,Q.out⟩
  ·have W:(x==0)=false:=by simpa using P
   clear K o j;go_wp2
   go_ret;exact⟨Z,F.out⟩
theorem QfQ {a c y:Int}{i p f d A:Option Addr}{e k o n q m j l b t:Nat}{r s E:Option Addr}{C B x D u z:Nat}{v:Int}(h:(v=3/\(a<1\/3<a))\/(v=4/\¬ (a<1\/3<a)/\((a≠2/\c≠0)\/(a≠3/\0<b)))\/(v=2/\¬ (a<1\/3<a)/\¬ ((a≠2/\c≠0)\/(a≠3/\0<b))/\8<b)) :
 Rd prog 185 #[.agg #[Iv fr,.slice r C B,.slice s x D,.slice E u z],.agg #[Iv a,Iv c,Iv yb,.slice i e k,.slice p o n,Iv y,.slice f q m,.slice d j l,.slice A b t]] w (Iv v):=by
 unfold Rd;rcases (show v=3/\a<1\/v=3/\¬ a<1/\3<a\/v=4/\a=1/\c=0/\(0:Int)<b\/v=4/\a=1/\¬ c=0\/v=4/\a=2/\(0:Int)<b\/v=4/\a=3/\¬ c=0\/v=2/\a=3/\c=0/\(8:Int)<b by omega) with ⟨rfl,g⟩|⟨rfl,F,g⟩|⟨rfl,rfl,rfl,g⟩|⟨rfl,rfl,g⟩|⟨rfl,rfl,g⟩|⟨rfl,rfl,g⟩|⟨rfl,rfl,rfl,g⟩
 all_goals
  try rw[<-bne_iff_ne,bne,Bool.not_eq_true'] at g
  clear h;go_enter func185,ntmps185
  go_wp2
  go_ret;exact⟨Z,QhA _ _ _⟩
theorem QgN {x:ZA}{e:EP}{h j m:Option Addr}{l k n i g o:Nat}(p:x.yes.regs.length<2305843009213693952/\x.yes.args.length<2305843009213693952/\x.no.regs.length<2305843009213693952/\x.no.args.length<2305843009213693952) (c:g<2305843009213693952):Rd prog 185 #[.agg #[Iv fr,.slice h l k,.slice j n i,.slice m g o],.agg #[Iv x.op,Iv x.a,Iv x.yes.block,.slice e.pYR x.yes.regs.length e.cYR,.slice e.pYA x.yes.args.length e.cYA,Iv x.no.block,.slice e.pNR x.no.regs.length e.cNR,.slice e.pNA x.no.args.length e.cNA,.slice e.pA x.args.length e.cA]] w (Iv (x.form g)):=by
 rw[Qg5]
 by_cases b:x.op<1\/3<x.op
 ·rw[Xs b];exact QfQ (.inl ⟨Z,b⟩)
 rw[Xr b]
 by_cases d:(x.op≠2/\x.a≠0)\/(x.op≠3/\0<x.args.length)
 ·rw[Xs d];exact QfQ (.inr (.inl ⟨Z,b,d⟩))
 rw[Xr d]
 by_cases f:8<x.args.length
 ·rw[Xs f];exact QfQ (.inr (.inr ⟨Z,b,d,f⟩))
 rw[Xr f]
 exact QjJ b d f (fun _=>QdG _ c) (fun _=>QdG _ c)
theorem typeFault_any:∀ n,Qd3 127 n:=by
 intro n
 induction n with
 | zero=>intro t;exact Empty.elim t
 | succ n ih =>
   intro t a c b w ht ab;have IH:Hid (Qd3 127 n):=ih;clear ih;have hT:Hid (LIn w All t.2.2 a):=ht.list;have N:Hid (∀ x∈t.2.2,x.count<=100000):=fun x J=>by have:=t.count_kid J;omega
   have G:t.2.2.length<=100000:=by have:=t.len_lt_count;rw[t.len_eq] at this;omega
   have m:Hid (t.fault b=if ownC t.kind t.r t.2.2.length b≠0 then ownC t.kind t.r t.2.2.length b else Qu (TT.fault b) t.2.2):=rfl;generalize t.fault b=h at m |-;simp only[Tv,TT.len_eq]
   generalize t.2.2=l at hT N m G |-;generalize t.kind=k at m |-;generalize t.r=r at m |-;clear ht ab t;generalize Q:l.length=d at m G |-;have U:Hid (l.length=d):=Q;clear Q;rcases (show k<1\/(¬ k<1/\4<k)\/k=1\/k=2\/k=4\/k=3 by omega) with p | ⟨p,E⟩ | rfl | rfl | rfl | rfl
   ·have f:=m.out;rw[show ownC _ _ d b=3 by unfold ownC;repeat' split;all_goals omega] at f
    clear m;replace f:Hid (h=3):=by show h=3;simpa using f
    go_enter func127,ntmps127
    go_wp2_with fail
    go_ret;exact⟨by rw[f.out];rfl,(Below.refl _ w).alloc Ze _⟩
   ·have f:=m.out;rw[show ownC _ _ d b=3 by unfold ownC;repeat' split;all_goals omega] at f
    clear m;replace f:Hid (h=3):=by show h=3;simpa using f
    go_enter func127,ntmps127
    go_wp2_with fail
    go_ret;exact⟨by rw[f.out];rfl,(Below.refl _ w).alloc Ze _⟩
   ·rcases (show r≠0\/(r=0/\0<d)\/(r=0/\d=0) by omega) with p | ⟨rfl,p⟩|⟨rfl,p⟩
    ·have u:(r != 0)=true:=by simpa using p
     have f:=m.out;rw[show ownC _ _ d b=4 by unfold ownC;repeat' split;all_goals omega] at f
     clear m;replace f:Hid (h=4):=by show h=4;simpa using f
     go_enter func127,ntmps127
     go_wp2_with fail
     go_ret;exact⟨by rw[f.out];rfl,(Below.refl _ w).alloc Ze _⟩
    ·have u:(0:Int)<(d:Int):=by omega
     have f:=m.out;rw[show ownC _ _ d b=4 by unfold ownC;repeat' split;all_goals omega] at f
     clear m;replace f:Hid (h=4):=by show h=4;simpa using f
     go_enter func127,ntmps127
     go_wp2_with fail
     go_ret;exact⟨by rw[f.out];rfl,(Below.refl _ w).alloc Ze _⟩
    ·have u:¬ (0:Int)<(d:Int):=by omega
     have F:¬ (8:Int)<(d:Int):=by omega
     have f:=m.out;rw[show ownC _ _ d b=0 by unfold ownC;repeat' split;all_goals omega] at f
     clear m;have R:Hid (h=Qu (TT.fault b) l):=by show h=Qu (TT.fault b) l;simpa using f
     clear f
     have P:Hid (h=0):=by
      have D:l=[]:=Xf.1 (U.out.trans p)
      have:=R.out
      rw[D] at this
      exact this
     subst p;clear R u F;go_enter func127,ntmps127
     go_wp2_with fail
     have B:=Bx.start w 1 0 a 0 c;generalize w.alloc (.cells #[Iv 1,Iv 0,.slice a 0 c] 105)=I at B |-;have s:Hid (Bx w I 1 0 a 0 c):=B;clear B;go_loopw [5] (fun i wr=>i=Iv 0/\Bx w wr 1 0 a 0 c) (fun _ _=>0)
     case atStart=>exact⟨Z,s.out⟩
     case round =>
      clear s;obtain⟨rfl,z⟩:=hrel
      have s:Hid (Bx w wr 1 0 a 0 c):=z;have V:wr.cell? ⟨w.heap.size,2,none⟩=some (.slice a 0 c):=Qb z.box 2 _ Z;clear z;go_wp2
      go_ret;exact⟨by rw[P.out];rfl,s.out.bel⟩
   ·rcases (show 0<d\/(d=0/\r<0)\/(d=0/\0<=r/\b<=r)\/(d=0/\0<=r/\r<b) by omega) with p | ⟨p,E⟩|⟨p,E,O⟩|⟨p,E,O⟩
    ·have u:(0:Int)<(d:Int):=by omega
     have f:=m.out;rw[show ownC _ _ d b=4 by unfold ownC;repeat' split;all_goals omega] at f
     clear m;replace f:Hid (h=4):=by show h=4;simpa using f
     go_enter func127,ntmps127
     go_wp2_with fail
     go_ret;exact⟨by rw[f.out];rfl,(Below.refl _ w).alloc Ze _⟩
    ·have u:¬ (0:Int)<(d:Int):=by omega
     have F:¬ (8:Int)<(d:Int):=by omega
     have f:=m.out;rw[show ownC _ _ d b=1 by unfold ownC;repeat' split;all_goals omega] at f
     clear m;replace f:Hid (h=1):=by show h=1;simpa using f
     go_enter func127,ntmps127
     go_wp2_with fail
     go_ret;exact⟨by rw[f.out];rfl,(Below.refl _ w).alloc Ze _⟩
    ·have u:¬ (0:Int)<(d:Int):=by omega
     have F:¬ (8:Int)<(d:Int):=by omega
     have f:=m.out;rw[show ownC _ _ d b=1 by unfold ownC;repeat' split;all_goals omega] at f
     clear m;replace f:Hid (h=1):=by show h=1;simpa using f
     go_enter func127,ntmps127
     go_wp2_with fail
     go_ret;exact⟨by rw[f.out];rfl,(Below.refl _ w).alloc Ze _⟩
    ·have u:¬ (0:Int)<(d:Int):=by omega
     have F:¬ (8:Int)<(d:Int):=by omega
     have f:=m.out;rw[show ownC _ _ d b=0 by unfold ownC;repeat' split;all_goals omega] at f
     clear m;have R:Hid (h=Qu (TT.fault b) l):=by show h=Qu (TT.fault b) l;simpa using f
     clear f
     have P:Hid (h=0):=by
      have D:l=[]:=Xf.1 (U.out.trans p)
      have:=R.out
      rw[D] at this
      exact this
     subst p;clear R u F;go_enter func127,ntmps127
     go_wp2_with fail
     have B:=Bx.start w 2 r a 0 c;generalize w.alloc (.cells #[Iv 2,Iv r,.slice a 0 c] 105)=I at B |-;have s:Hid (Bx w I 2 r a 0 c):=B;clear B;go_loopw [5] (fun i wr=>i=Iv 0/\Bx w wr 2 r a 0 c) (fun _ _=>0)
     case atStart=>exact⟨Z,s.out⟩
     case round =>
      clear s;obtain⟨rfl,z⟩:=hrel
      have s:Hid (Bx w wr 2 r a 0 c):=z;have V:wr.cell? ⟨w.heap.size,2,none⟩=some (.slice a 0 c):=Qb z.box 2 _ Z;clear z;go_wp2
      go_ret;exact⟨by rw[P.out];rfl,s.out.bel⟩
   ·rcases (show 0<d\/(d=0/\r<0)\/(d=0/\0<=r/\b<=r)\/(d=0/\0<=r/\r<b) by omega) with p | ⟨p,E⟩|⟨p,E,O⟩|⟨p,E,O⟩
    ·have u:(0:Int)<(d:Int):=by omega
     have f:=m.out;rw[show ownC _ _ d b=4 by unfold ownC;repeat' split;all_goals omega] at f
     clear m;replace f:Hid (h=4):=by show h=4;simpa using f
     go_enter func127,ntmps127
     go_wp2_with fail
     go_ret;exact⟨by rw[f.out];rfl,(Below.refl _ w).alloc Ze _⟩
    ·have u:¬ (0:Int)<(d:Int):=by omega
     have F:¬ (8:Int)<(d:Int):=by omega
     have f:=m.out;rw[show ownC _ _ d b=1 by unfold ownC;repeat' split;all_goals omega] at f
     clear m;replace f:Hid (h=1):=by show h=1;simpa using f
     go_enter func127,ntmps127
     go_wp2_with fail
     go_ret;exact⟨by rw[f.out];rfl,(Below.refl _ w).alloc Ze _⟩
    ·have u:¬ (0:Int)<(d:Int):=by omega
     have F:¬ (8:Int)<(d:Int):=by omega
     have f:=m.out;rw[show ownC _ _ d b=1 by unfold ownC;repeat' split;all_goals omega] at f
     clear m;replace f:Hid (h=1):=by show h=1;simpa using f
     go_enter func127,ntmps127
     go_wp2_with fail
     go_ret;exact⟨by rw[f.out];rfl,(Below.refl _ w).alloc Ze _⟩
    ·have u:¬ (0:Int)<(d:Int):=by omega
     have F:¬ (8:Int)<(d:Int):=by omega
     have f:=m.out;rw[show ownC _ _ d b=0 by unfold ownC;repeat' split;all_goals omega] at f
     clear m;have R:Hid (h=Qu (TT.fault b) l):=by show h=Qu (TT.fault b) l;simpa using f
     clear f
     have P:Hid (h=0):=by
      have D:l=[]:=Xf.1 (U.out.trans p)
      have:=R.out
      rw[D] at this
      exact this
     subst p;clear R u F;go_enter func127,ntmps127
     go_wp2_with fail
     have B:=Bx.start w 4 r a 0 c;generalize w.alloc (.cells #[Iv 4,Iv r,.slice a 0 c] 105)=I at B |-;have s:Hid (Bx w I 4 r a 0 c):=B;clear B;go_loopw [5] (fun i wr=>i=Iv 0/\Bx w wr 4 r a 0 c) (fun _ _=>0)
     case atStart=>exact⟨Z,s.out⟩
     case round =>
      clear s;obtain⟨rfl,z⟩:=hrel
      have s:Hid (Bx w wr 4 r a 0 c):=z;have V:wr.cell? ⟨w.heap.size,2,none⟩=some (.slice a 0 c):=Qb z.box 2 _ Z;clear z;go_wp2
      go_ret;exact⟨by rw[P.out];rfl,s.out.bel⟩
   ·rcases (show 8<d\/(d<=8/\r<0)\/(d<=8/\0<=r/\b<=r)\/(d<=8/\0<=r/\r<b) by omega) with p | ⟨p,E⟩|⟨p,E,O⟩|⟨p,E,O⟩
    ·have u:(8:Int)<(d:Int):=by omega
     have f:=m.out;rw[show ownC _ _ d b=2 by unfold ownC;repeat' split;all_goals omega] at f
     clear m;replace f:Hid (h=2):=by show h=2;simpa using f
     go_enter func127,ntmps127
     go_wp2_with fail
     go_ret;exact⟨by rw[f.out];rfl,(Below.refl _ w).alloc Ze _⟩
    ·have u:¬ (8:Int)<(d:Int):=by omega
     have f:=m.out;rw[show ownC _ _ d b=1 by unfold ownC;repeat' split;all_goals omega] at f
     clear m;replace f:Hid (h=1):=by show h=1;simpa using f
     go_enter func127,ntmps127
     go_wp2_with fail
     go_ret;exact⟨by rw[f.out];rfl,(Below.refl _ w).alloc Ze _⟩
    ·have u:¬ (8:Int)<(d:Int):=by omega
     have f:=m.out;rw[show ownC _ _ d b=1 by unfold ownC;repeat' split;all_goals omega] at f
     clear m;replace f:Hid (h=1):=by show h=1;simpa using f
     go_enter func127,ntmps127
     go_wp2_with fail
     go_ret;exact⟨by rw[f.out];rfl,(Below.refl _ w).alloc Ze _⟩
    ·have u:¬ (8:Int)<(d:Int):=by omega
     have f:=m.out;rw[show ownC _ _ d b=0 by unfold ownC;repeat' split;all_goals omega] at f
     clear m;have R:Hid (h=Qu (TT.fault b) l):=by show h=Qu (TT.fault b) l;simpa using f
     clear f;go_enter func127,ntmps127
     go_wp2_with fail
     have B:=Bx.start w 3 r a d c;generalize w.alloc (.cells #[Iv 3,Iv r,.slice a d c] 105)=I at B |-;have s:Hid (Bx w I 3 r a d c):=B;clear B;go_loopw [5] (fun i wr=>∃ q:Nat,q<=d/\i=Iv q/\(∀ (j:Nat) x,j<q->l[j]?=some x->x.fault b=0)/\Bx w wr 3 r a d c) (fun i _=>d - (intOf i).toNat)
     case atStart=>exact⟨0,Xb _,Z,fun j x hj=>by omega,s.out⟩
     case round =>
      clear s;obtain⟨q,hq,rfl,H,z⟩:=hrel
      have A:Hid (∀ (j:Nat) x,j<q->l[j]?=some x->x.fault b=0):=H;have s:Hid (Bx w wr 3 r a d c):=z;have V:wr.cell? ⟨w.heap.size,2,none⟩=some (.slice a d c):=Qb z.box 2 _ Z;clear H;by_cases ac:q<d
      ·have S:q<l.length:=by have:=U.out;omega
       have J:l[q]?=some l[q]:=Zg S;generalize l[q]=x at J;clear S;obtain⟨g,o,a',c',rfl,_,d0,d1,d2,hk⟩:=LIn.at (hT.out.below z.bel) J
       have T:Hid (l[q]?=some x):=J;have ad:(0:Int)<=q:=by omega
       have X:(q:Int)<d:=by omega
       have C:Hid (∀ M,Below wr.heap.size wr M->Calls prog 127 #[Tv x a' c',Iv b] M fun e w'=>e=.returned (Iv (x.fault b))/\Below M.heap.size M w') :=
        fun M hb=>IH.out x a' c' b M (hk.below hb) (N.out x (Zm J))
       clear z hk J;simp only[Tv] at C
       generalize x.kind=kx at C d0;generalize x.r=rx at C d1;generalize x.len=lx at C d2;go_wp2_with fail
       refine(C.out _ Zr).mono ?_
       rintro e w2 ⟨rfl,b2⟩;have X2:Hid (Bx w w2 3 r (some ⟨g,o,none⟩) d c):=s.out.below b2;clear s b2 C d0 d1 d2 V;by_cases K:x.fault b=0
       ·have A2:Hid (∀ (j:Nat) x,j<q+1->l[j]?=some x->x.fault b=0):=fun j y hj L=>by
         by_cases e:j=q
         ·subst e;rw[T.out] at L
          cases L
          exact K
         ·exact A.out j y (by omega) L
        rw[K]
        clear K A;go_wp2
        go_roundw
        case rel=>exact⟨q+1,by omega,by go_num,A2.out,X2.out⟩
        case measure=>simp[intOf];omega
       ·have W:Hid (h=x.fault b):=R.out.trans (Qaq T.out A.out K);have aa:(x.fault b != 0)=true:=by simpa using K
        generalize x.fault b=v at aa W |-;clear K A;go_wp2
        go_ret;exact⟨by rw[W.out];rfl,X2.out.bel⟩
      ·have W:Hid (h=0):=R.out.trans (Z1 (fun j y L=>A.out j y (by have:=(Zi L).1;have:=U.out;omega) L));have X:¬ (q:Int)<d:=by omega
       clear z A;go_wp2
       go_ret;exact⟨by rw[W.out];rfl,s.out.bel⟩
theorem Qdr {α:Type}(f:α->Nat) (l:List α) (i:Nat) (x:α) (h:l[i]?=some x):((l.map f).take (i+1)).foldl max 0=max (((l.map f).take i).foldl max 0) (f x):=by
 rw[XV,XS,h]
 simp
theorem Qcg (l:List Nat) (i:Nat):(l.take i).foldl max 0<=l.foldl max 0:=by
 rw[QaO]
 exact⟨Xb _,fun x a=>(QaO.1 (Nat.le_refl (l.foldl max 0))).2 x (List.mem_of_mem_take a)⟩
theorem deepOf_any:∀ (n:Nat) (t:TT n) (a:Option Addr) (c:Nat) (w:World) (m:Nat),TIn w All t a->t.count<=100000->m<=4 ->
 Calls prog 126 #[Tv t a c,Iv m] w fun e w'=>e=.returned (Iv ((min t.height (m+1):Nat):Int))/\Below w.heap.size w w':=by
 intro n
 induction n with
 | zero=>intro t;exact Empty.elim t
 | succ n ih =>
   intro t a c w m U L ac
   have IH:Hid (∀ (t:TT n) (a:Option Addr) (c:Nat) (w:World) (m:Nat),TIn w All t a->t.count<=100000->m<=4 ->
    Calls prog 126 #[Tv t a c,Iv m] w fun e w'=>e=.returned (Iv ((min t.height (m+1):Nat):Int))/\Below w.heap.size w w'):=ih
   clear ih;have hT:Hid (LIn w All t.2.2 a):=U.list;have u:Hid (∀ x∈t.2.2,x.count<=100000):=fun x f=>by have:=t.count_kid f;omega
   have D:t.2.2.length<=100000:=by have:=t.len_lt_count;rw[t.len_eq] at this;omega
   have B:Hid (t.height=(t.2.2.map (fun x=>1+x.height)).foldl max 0):=rfl;generalize t.height=h at B |-;simp only[Tv,TT.len_eq]
   generalize t.2.2=l at hT u B D |-;generalize t.kind=k;generalize t.r=r;clear U L t;generalize d:((min h (m+1):Nat):Int)=b;have O:Hid (((min h (m+1):Nat):Int)=b):=d;clear d;go_enter func126,ntmps126
   go_wp2_with fail
   have I:Hid (Bx w (w.alloc (.cells #[Iv k,Iv r,.slice a l.length c] 105)) k r a l.length c):=Bx.start w k r a l.length c;generalize w.alloc (.cells #[Iv k,Iv r,.slice a l.length c] 105)=w1 at I |-;go_loopw [5,6] (fun v i wr=>∃ q y:Nat,q<=l.length/\i=Iv q/\v=Iv y/\y=min (((l.map (fun x=>1+x.height)).take q).foldl max 0) (m+1)/\Bx w wr k r a l.length c) (fun _ i _=>l.length - (intOf i).toNat)
   case atStart=>exact⟨0,0,Xb _,Yz,Yz,by simp,I.out⟩
   case round =>
    clear I;obtain⟨q,y,hq,rfl,rfl,S,p⟩:=hrel
    have Y:Hid (y=min (((l.map (fun x=>1+x.height)).take q).foldl max 0) (m+1)):=S;have E:Hid (Bx w wr k r a l.length c):=p;have e2:wr.cell? ⟨w.heap.size,2,none⟩=some (.slice a l.length c):=Qb p.box 2 _ Yz;have af:(y:Int)<=5:=by omega
    clear S;by_cases H:q<l.length
    ·have aa:(0:Int)<=q:=by omega
     have J:(q:Int)<l.length:=by omega
     by_cases j:y<=m
     ·have f:l[q]?=some l[q]:=Zg H;generalize l[q]=x at f;obtain⟨g,o,R,c',rfl,_,d0,P,X,M⟩:=LIn.at (hT.out.below p.bel) f
      have G:=Qdr (fun x:TT n=>1+x.height) l q x f;have A:(y:Int)<=m:=by omega
      by_cases V:m=0
      ·have N:((m:Int)==0)=true:=by simp;omega
       have F:Hid (b=1):=by
        have h1:=Qcg (l.map (fun x=>1+x.height)) (q+1);have T:=B.out;have Q:=O.out;rw[G] at h1
        show b=1;omega
       clear p M f V G j;go_wp2_with fail
       go_ret;exact⟨by rw[F.out];rfl,E.out.bel⟩
      ·have N:((m:Int)==0)=false:=by simp;omega
       have C:Hid (∀ s,Below wr.heap.size wr s->Calls prog 126 #[Tv x R c',Iv ((m:Int) - 1)] s fun e w'=>e=.returned (Iv ((min x.height m:Nat):Int))/\Below s.heap.size s w'):=fun s hb=>by
        have:=IH.out x R c' s (m - 1) (M.below hb) (u.out x (Zm f)) (by omega)
        rw[show ((m - 1:Nat):Int)=(m:Int) - 1 by omega,show m - 1+1=m by omega] at this
        exact this
       have ad:(1:Int)<=m:=by omega
       have ab:(m:Int)<=4:=by omega
       generalize K:min x.height m=z at C;have ae:(z:Int)<=4:=by omega
       have Z:Hid (max y (1+z)=min (((l.map (fun x=>1+x.height)).take (q+1)).foldl max 0) (m+1)):=by
        rw[G]
        have:=Y.out
        show _=_;omega
       clear p M f V G K Y j;simp only[Tv] at C
       generalize x.kind=kx at C d0;generalize x.r=rx at C P;generalize x.len=lx at C X;go_wp2_with fail
       refine(C.out _ Zr).mono ?_
       rintro e w2 ⟨rfl,b2⟩;have W:Hid (Bx w w2 k r (some ⟨g,o,none⟩) l.length c):=E.out.below b2;clear E b2 C d0 P X e2;by_cases hd:(y:Int)<1+z
       ·go_wp2
        go_roundw
        case rel=>exact⟨q+1,1+z,by omega,by go_num,by go_num,by rw[<-Z.out];omega,W.out⟩
        case measure=>simp[intOf];omega
       ·go_wp2
        go_roundw
        case rel=>exact⟨q+1,y,by omega,by go_num,Yz,by rw[<-Z.out];omega,W.out⟩
        case measure=>simp[intOf];omega
     ·have F:Hid (b=y):=by
       have h1:=Qcg (l.map (fun x=>1+x.height)) q;have T:=B.out;have Q:=O.out
       have:=Y.out
       show b=y;omega
      have A:¬ (y:Int)<=m:=by omega
      clear p j Y;go_wp2
      go_ret;exact⟨by rw[F.out];rfl,E.out.bel⟩
    ·have F:Hid (b=y):=by
      have T:=B.out;have Q:=O.out
      have:=Y.out
      rw[XO (by simp;omega)] at this
      show b=y;omega
     have J:¬ (q:Int)<l.length:=by omega
     clear p Y;go_wp2
     go_ret;exact⟨by rw[F.out];rfl,E.out.bel⟩
def Qig (f:Nat):Prop:=∀ (n:Nat) (t:TT n) (a:Option Addr) (c:Nat) (regs:Int) (w:World),TIn w All t a->t.count<=100000 ->
 Calls prog f #[Tv t a c,Iv regs] w fun e w'=>e=.returned (Iv (t.check regs))/\Below w.heap.size w w'
theorem typeFaultT_any:Qig 78:=by
 intro n t a c b w p o
 have g:Hid (∀ d,Below w.heap.size w d->Calls prog 126 #[Tv t a c,Iv 4] d fun e u=>e=.returned (Iv ((min t.height 5:Nat):Int))/\Below d.heap.size d u) :=
  fun d s=>deepOf_any n t a c d 4 (p.below s) o (by omega)
 have h:Hid (∀ d,Below w.heap.size w d->Calls prog 127 #[Tv t a c,Iv b] d fun e u=>e=.returned (Iv (t.fault b))/\Below d.heap.size d u) :=
  fun d s=>typeFault_any n t a c b d (p.below s) o
 have E:Hid (t.check b=if 4<t.height then 19 else t.fault b):=rfl;generalize t.check b=j at E |-;clear p o;simp only[Tv] at g h |-
 generalize t.kind=k at g h |-;generalize t.r=r at g h |-;generalize t.len=f at g h |-;generalize t.fault b=v at h E;generalize y:min t.height 5=q at g;go_enter func78,ntmps78
 go_wp2_with fail
 have m:=Bx.start w k r a f c;generalize w.alloc (.cells #[Iv k,Iv r,.slice a f c] 105)=I at m |-;refine(g.out _ m.bel).mono ?_
 rintro e D ⟨rfl,z⟩;have i:Hid (Bx w D k r a f c):=m.below z;have H:=Qb i.out.box 0 _ Z;have C:=Qb i.out.box 1 _ Z;have A:=Qb i.out.box 2 _ Z;clear m z g;by_cases l:4<t.height
 ·have R:Hid (j=19):=by have:=E.out;rwa [Xs l] at this
  have F:(4:Int)<q:=by omega
  clear l y;go_wp2_with fail
  go_ret;exact⟨by rw[R.out];rfl,i.out.bel⟩
 ·have R:Hid (j=v):=by have:=E.out;rwa [Xr l] at this
  have F:¬ (4:Int)<q:=by omega
  clear l y;go_wp2_with fail
  refine(h.out _ i.out.bel).mono ?_
  rintro e G ⟨rfl,x⟩;have B:Hid (Bx w G k r a f c):=i.out.below x;clear i x h H C A;go_wp2_with fail
  go_ret;exact⟨by rw[R.out];rfl,B.out.bel⟩
theorem Qga (k r:Int) (a:Option Addr) (len c:Nat) (regs:Int) (w:World) :
 Calls prog 282 #[.agg #[Iv k,Iv r,.slice a len c],Iv regs] w fun e w'=>e=.returned (Iv (ownC k r len regs))/\Below w.heap.size w w':=by
 rcases (show k<1\/(¬ k<1/\4<k)\/k=1\/k=2\/k=4\/k=3 by omega) with b | ⟨b,f⟩ | rfl | rfl | rfl | rfl
 ·rw[show ownC _ _ len regs=3 by unfold ownC;repeat' split;all_goals omega]
  go_enter func282,ntmps282
  go_wp2_with fail
  go_ret;exact⟨Z,(Below.refl _ w).alloc Ze _⟩
 ·rw[show ownC _ _ len regs=3 by unfold ownC;repeat' split;all_goals omega]
  go_enter func282,ntmps282
  go_wp2_with fail
  go_ret;exact⟨Z,(Below.refl _ w).alloc Ze _⟩
 ·rcases (show r≠0\/(r=0/\0<len)\/(r=0/\len=0) by omega) with b | ⟨rfl,b⟩|⟨rfl,b⟩
  ·have d:(r != 0)=true:=by simpa using b
   rw[show ownC _ _ len regs=4 by unfold ownC;repeat' split;all_goals omega]
   go_enter func282,ntmps282
   go_wp2_with fail
   go_ret;exact⟨Z,(Below.refl _ w).alloc Ze _⟩
  ·have d:(0:Int)<(len:Int):=by omega
   rw[show ownC _ _ len regs=4 by unfold ownC;repeat' split;all_goals omega]
   go_enter func282,ntmps282
   go_wp2_with fail
   go_ret;exact⟨Z,(Below.refl _ w).alloc Ze _⟩
  ·have d:¬ (0:Int)<(len:Int):=by omega
   have g:¬ (8:Int)<(len:Int):=by omega
   rw[show ownC _ _ len regs=0 by unfold ownC;repeat' split;all_goals omega]
   go_enter func282,ntmps282
   go_wp2_with fail
   go_ret;exact⟨Z,(Below.refl _ w).alloc Ze _⟩
 ·rcases (show 0<len\/(len=0/\r<0)\/(len=0/\0<=r/\regs<=r)\/(len=0/\0<=r/\r<regs) by omega) with b | ⟨b,f⟩|⟨b,f,h⟩|⟨b,f,h⟩
  ·have d:(0:Int)<(len:Int):=by omega
   rw[show ownC _ _ len regs=4 by unfold ownC;repeat' split;all_goals omega]
   go_enter func282,ntmps282
   go_wp2_with fail
   go_ret;exact⟨Z,(Below.refl _ w).alloc Ze _⟩
  ·have d:¬ (0:Int)<(len:Int):=by omega
   have g:¬ (8:Int)<(len:Int):=by omega
   rw[show ownC _ _ len regs=1 by unfold ownC;repeat' split;all_goals omega]
   go_enter func282,ntmps282
   go_wp2_with fail
   go_ret;exact⟨Z,(Below.refl _ w).alloc Ze _⟩
  ·have d:¬ (0:Int)<(len:Int):=by omega
   have g:¬ (8:Int)<(len:Int):=by omega
   rw[show ownC _ _ len regs=1 by unfold ownC;repeat' split;all_goals omega]
   go_enter func282,ntmps282
   go_wp2_with fail
   go_ret;exact⟨Z,(Below.refl _ w).alloc Ze _⟩
  ·have d:¬ (0:Int)<(len:Int):=by omega
   have g:¬ (8:Int)<(len:Int):=by omega
   rw[show ownC _ _ len regs=0 by unfold ownC;repeat' split;all_goals omega]
   go_enter func282,ntmps282
   go_wp2_with fail
   go_ret;exact⟨Z,(Below.refl _ w).alloc Ze _⟩
 ·rcases (show 0<len\/(len=0/\r<0)\/(len=0/\0<=r/\regs<=r)\/(len=0/\0<=r/\r<regs) by omega) with b | ⟨b,f⟩|⟨b,f,h⟩|⟨b,f,h⟩
  ·have d:(0:Int)<(len:Int):=by omega
   rw[show ownC _ _ len regs=4 by unfold ownC;repeat' split;all_goals omega]
   go_enter func282,ntmps282
   go_wp2_with fail
   go_ret;exact⟨Z,(Below.refl _ w).alloc Ze _⟩
  ·have d:¬ (0:Int)<(len:Int):=by omega
   have g:¬ (8:Int)<(len:Int):=by omega
   rw[show ownC _ _ len regs=1 by unfold ownC;repeat' split;all_goals omega]
   go_enter func282,ntmps282
   go_wp2_with fail
   go_ret;exact⟨Z,(Below.refl _ w).alloc Ze _⟩
  ·have d:¬ (0:Int)<(len:Int):=by omega
   have g:¬ (8:Int)<(len:Int):=by omega
   rw[show ownC _ _ len regs=1 by unfold ownC;repeat' split;all_goals omega]
   go_enter func282,ntmps282
   go_wp2_with fail
   go_ret;exact⟨Z,(Below.refl _ w).alloc Ze _⟩
  ·have d:¬ (0:Int)<(len:Int):=by omega
   have g:¬ (8:Int)<(len:Int):=by omega
   rw[show ownC _ _ len regs=0 by unfold ownC;repeat' split;all_goals omega]
   go_enter func282,ntmps282
   go_wp2_with fail
   go_ret;exact⟨Z,(Below.refl _ w).alloc Ze _⟩
 ·rcases (show 8<len\/(len<=8/\r<0)\/(len<=8/\0<=r/\regs<=r)\/(len<=8/\0<=r/\r<regs) by omega) with b | ⟨b,f⟩|⟨b,f,h⟩|⟨b,f,h⟩
  ·have d:(8:Int)<(len:Int):=by omega
   rw[show ownC _ _ len regs=2 by unfold ownC;repeat' split;all_goals omega]
   go_enter func282,ntmps282
   go_wp2_with fail
   go_ret;exact⟨Z,(Below.refl _ w).alloc Ze _⟩
  ·have d:¬ (8:Int)<(len:Int):=by omega
   rw[show ownC _ _ len regs=1 by unfold ownC;repeat' split;all_goals omega]
   go_enter func282,ntmps282
   go_wp2_with fail
   go_ret;exact⟨Z,(Below.refl _ w).alloc Ze _⟩
  ·have d:¬ (8:Int)<(len:Int):=by omega
   rw[show ownC _ _ len regs=1 by unfold ownC;repeat' split;all_goals omega]
   go_enter func282,ntmps282
   go_wp2_with fail
   go_ret;exact⟨Z,(Below.refl _ w).alloc Ze _⟩
  ·have d:¬ (8:Int)<(len:Int):=by omega
   rw[show ownC _ _ len regs=0 by unfold ownC;repeat' split;all_goals omega]
   go_enter func282,ntmps282
   go_wp2_with fail
   go_ret;exact⟨Z,(Below.refl _ w).alloc Ze _⟩
theorem firstCode_any:∀ n,Qd3 258 n:=by
 intro n
 induction n with
 | zero=>intro t;exact Empty.elim t
 | succ n ih =>
   intro t a c b w T M;have IH:Hid (Qd3 258 n):=ih;clear ih;have hT:Hid (LIn w All t.2.2 a):=T.list;have D:Hid (∀ x∈t.2.2,x.count<=100000):=fun x p=>by have:=t.count_kid p;omega
   have E:t.2.2.length<=100000:=by have:=t.len_lt_count;rw[t.len_eq] at this;omega
   have f:Hid (t.fault b=if ownC t.kind t.r t.2.2.length b≠0 then ownC t.kind t.r t.2.2.length b else Qu (TT.fault b) t.2.2):=rfl;generalize t.fault b=d at f |-;simp only[Tv,TT.len_eq]
   generalize t.2.2=l at hT D f E |-;generalize t.kind=k at f |-;generalize t.r=r at f |-;clear T M t;go_enter func258,ntmps258
   go_wp2_with fail
   have X0:Hid (Bx w (w.alloc (.cells #[Iv k,Iv r,.slice a l.length c] 105)) k r a l.length c):=Bx.start w k r a l.length c;refine(Qga k r a l.length c b _).mono ?_
   rintro e S ⟨rfl,V⟩;have h:Hid (Bx w S k r a l.length c):=X0.out.below V;clear X0 V;by_cases z:ownC k r l.length b=0
   ·have R:Hid (d=Qu (TT.fault b) l):=by
     have:=f.out
     rw[z] at this
     show d=Qu (TT.fault b) l;simpa using this
    rw[z]
    clear z f;have e2:S.cell? ⟨w.heap.size,2,none⟩=some (.slice a l.length c):=Qb h.out.box 2 _ Z;go_wp2_with fail
    clear e2;go_loopw [18] (fun i wr=>∃ q:Nat,q<=l.length/\i=Iv q/\(∀ (j:Nat) x,j<q->l[j]?=some x->x.fault b=0)/\Bx w wr k r a l.length c) (fun i _=>l.length - (intOf i).toNat)
    case atStart=>exact⟨0,Xb _,Z,fun j x hj=>by omega,h.out⟩
    case round =>
     clear h;obtain⟨q,hq,rfl,m,H⟩:=hrel
     have A:Hid (∀ (j:Nat) x,j<q->l[j]?=some x->x.fault b=0):=m;have h:Hid (Bx w wr k r a l.length c):=H;clear m;by_cases I:q<l.length
     ·have p:l[q]?=some l[q]:=Zg I;generalize l[q]=x at p;obtain⟨g,o,K,P,rfl,_,X,Q,W,hk⟩:=LIn.at (hT.out.below H.bel) p
      have F:Hid (l[q]?=some x):=p;have aa:(0:Int)<=q:=by omega
      have J:(q:Int)<l.length:=by omega
      have C:Hid (∀ B,Below wr.heap.size wr B->Calls prog 258 #[Tv x K P,Iv b] B fun e w'=>e=.returned (Iv (x.fault b))/\Below B.heap.size B w') :=
       fun B hb=>IH.out x K P b B (hk.below hb) (D.out x (Zm p))
      clear H hk p;simp only[Tv] at C
      generalize x.kind=kx at C X;generalize x.r=rx at C Q;generalize x.len=lx at C W;go_wp2_with fail
      have O:Below wr.heap.size wr (wr.alloc (.cells #[Iv kx,Iv rx,.slice K lx P] 105)):=(Below.refl _ wr).alloc Ze _;refine(C.out _ O).mono ?_
      rintro e w2 ⟨rfl,b2⟩;have U:Hid (Bx w w2 k r (some ⟨g,o,none⟩) l.length c):=(h.out.below O).below b2;clear h b2 O C X Q W;by_cases s:x.fault b=0
      ·have A2:Hid (∀ (j:Nat) x,j<q+1->l[j]?=some x->x.fault b=0):=fun j y hj u=>by
        by_cases e:j=q
        ·subst e;rw[F.out] at u
         cases u
         exact s
        ·exact A.out j y (by omega) u
       rw[s]
       clear s A;go_wp2
       go_roundw
       case rel=>exact⟨q+1,by omega,by go_num,A2.out,U.out⟩
       case measure=>simp[intOf];omega
      ·have G:Hid (d=x.fault b):=R.out.trans (Qaq F.out A.out s);have L:(x.fault b != 0)=true:=by simpa using s
       generalize x.fault b=v at L G |-;clear s A;go_wp2
       go_ret;exact⟨by rw[G.out];rfl,U.out.bel⟩
     ·have G:Hid (d=0):=R.out.trans (Z1 (fun j y u=>A.out j y (by have:=(Zi u).1;omega) u));have J:¬ (q:Int)<l.length:=by omega
      clear H A;go_wp2
      go_ret;exact⟨by rw[G.out];rfl,h.out.bel⟩
   ·have R:Hid (d=ownC k r l.length b):=by
     have:=f.out
     rwa [Xs z] at this
    have N:(ownC k r l.length b != 0)=true:=by simpa using z
    generalize ownC k r l.length b=v at N R |-;clear z f;go_wp2_with fail
    go_ret;exact⟨by rw[R.out];rfl,h.out.bel⟩
theorem QiS {l:List (TT n)}{k r:Int}:m<TT.height (n:=n+1) (mkT k r l)↔∃ (i:Nat) (x:TT n),l[i]?=some x/\m<1+x.height:=by
 rw[<-Nat.not_le,Q8]
 constructor
 ·intro h;simp only[Classical.not_forall] at h
  obtain⟨x,a,c⟩:=h
  obtain⟨i,b,rfl⟩:=List.mem_iff_getElem.1 a
  exact⟨i,_,Zg b,by omega⟩
 ·rintro ⟨i,x,a,c⟩ h
  have:=h x (Zm (l:=l) a)
  omega
theorem deeper_any:∀ (n:Nat) (t:TT n) (a:Option Addr) (c:Nat) (w:World) (m:Nat),TIn w All t a->t.count<=100000->m<=4 ->
 Calls prog 257 #[Tv t a c,Iv m] w fun e w'=>e=.returned (.bool (decide (m<t.height)))/\Below w.heap.size w w':=by
 intro n
 induction n with
 | zero=>intro t;exact Empty.elim t
 | succ n ih =>
   intro t a c w m S K ad
   have IH:Hid (∀ (t:TT n) (a:Option Addr) (c:Nat) (w:World) (m:Nat),TIn w All t a->t.count<=100000->m<=4 ->
    Calls prog 257 #[Tv t a c,Iv m] w fun e w'=>e=.returned (.bool (decide (m<t.height)))/\Below w.heap.size w w'):=ih
   clear ih;have W:Hid (LIn w All t.2.2 a):=S.list;have s:Hid (∀ x∈t.2.2,x.count<=100000):=fun x b=>by have:=t.count_kid b;omega
   have z:t.2.2.length<=100000:=by have:=t.len_lt_count;rw[t.len_eq] at this;omega
   have v:Hid (m<t.height↔∃ (i:Nat) (x:TT n),t.2.2[i]?=some x/\m<1+x.height):=QiS;generalize t.height=h at v |-;simp only[Tv,TT.len_eq]
   generalize t.2.2=l at W s v z |-;generalize t.kind=k;generalize t.r=r;clear S K t;go_enter func257,ntmps257
   go_wp2_with fail
   have P:Hid (Bx w (w.alloc (.cells #[Iv k,Iv r,.slice a l.length c] 105)) k r a l.length c):=Bx.start w k r a l.length c;generalize w.alloc (.cells #[Iv k,Iv r,.slice a l.length c] 105)=w1 at P |-;go_loopw [10] (fun i wr=>∃ q:Nat,q<=l.length/\i=Iv q/\(∀ (j:Nat) x,j<q->l[j]?=some x->1+x.height<=m)/\Bx w wr k r a l.length c) (fun i _=>l.length - (intOf i).toNat)
   case atStart=>exact⟨0,Xb _,Z,fun j x hj=>by omega,P.out⟩
   case round =>
    clear P;obtain⟨q,hq,rfl,d,D⟩:=hrel
    have A:Hid (∀ (j:Nat) x,j<q->l[j]?=some x->1+x.height<=m):=d;have F:Hid (Bx w wr k r a l.length c):=D;clear d;by_cases G:q<l.length
    ·have b:l[q]?=some l[q]:=Zg G;generalize l[q]=x at b;obtain⟨g,o,I,Q,rfl,_,L,R,V,M⟩:=LIn.at (W.out.below D.bel) b
     have hg:g<wr.heap.size:=Xi wr ⟨g,o+q*3,none⟩ L;have B:Hid (l[q]?=some x):=b;have aa:(0:Int)<=q:=by omega
     have H:(q:Int)<l.length:=by omega
     by_cases T:m=0
     ·have p:Hid (m<h):=v.out.2 ⟨q,x,b,by omega⟩;have N:((m:Int)==0)=true:=by simp;omega
      clear D M b T;go_wp2_with fail
      go_ret;exact⟨by rw[Xt p.out];rfl,(F.out.alloc _).bel⟩
     ·have N:((m:Int)==0)=false:=by simp;omega
      have C:Hid (∀ f,Below wr.heap.size wr f->Calls prog 257 #[Tv x I Q,Iv ((m:Int) - 1)] f fun e w'=>e=.returned (.bool (decide (m - 1<x.height)))/\Below f.heap.size f w'):=fun f hb=>by
       have:=IH.out x I Q f (m - 1) (M.below hb) (s.out x (Zm b)) (by omega)
       rw[show ((m - 1:Nat):Int)=(m:Int) - 1 by omega] at this
       exact this
      have ac:(1:Int)<=m:=by omega
      have ab:(m:Int)<=4:=by omega
      have u:Hid (1<=m):=by show 1<=m;omega
      clear D M b T;simp only[Tv] at C
      generalize x.kind=kx at C L;generalize x.r=rx at C R;generalize x.len=lx at C V;go_wp2_with fail
      have O:Below wr.heap.size wr (wr.alloc (.cells #[Iv kx,Iv rx,.slice I lx Q] 105)):=(Below.refl _ wr).alloc Ze _;refine(C.out _ O).mono ?_
      rintro e w2 ⟨rfl,X⟩;have U:Hid (Bx w w2 k r (some ⟨g,o,none⟩) l.length c):=(F.out.below O).below X;clear F X O C L R V;by_cases E:m - 1<x.height
      ·have p:Hid (m<h):=v.out.2 ⟨q,x,B.out,by have:=u.out;omega⟩;rw[Xt E]
       clear E;go_wp2
       go_ret;exact⟨by rw[Xt p.out];rfl,U.out.bel⟩
      ·have A2:Hid (∀ (j:Nat) x,j<q+1->l[j]?=some x->1+x.height<=m):=fun j y hj J=>by
        by_cases e:j=q
        ·subst e;rw[B.out] at J
         cases J
         have:=u.out
         omega
        ·exact A.out j y (by omega) J
       rw[Xu E]
       clear E A;go_wp2
       go_roundw
       case rel=>exact⟨q+1,by omega,by go_num,A2.out,U.out⟩
       case measure=>simp[intOf];omega
    ·have p:Hid (¬ m<h):=fun hc=>by
      obtain⟨i,x,b,h3⟩:=v.out.1 hc
      have:=A.out i x (by have:=(Zi b).1;omega) b
      omega
     have H:¬ (q:Int)<l.length:=by omega
     clear D A;go_wp2
     go_ret;exact⟨by rw[Xu p.out];rfl,F.out.bel⟩
theorem check_any:Qig 223:=by
 intro n t a c b w p o
 have j:Hid (∀ d,Below w.heap.size w d->Calls prog 257 #[Tv t a c,Iv 4] d fun e s=>e=.returned (.bool (decide (4<t.height)))/\Below d.heap.size d s) :=
  fun d q=>deeper_any n t a c d 4 (p.below q) o (by omega)
 have g:Hid (∀ d,Below w.heap.size w d->Calls prog 258 #[Tv t a c,Iv b] d fun e s=>e=.returned (Iv (t.fault b))/\Below d.heap.size d s) :=
  fun d q=>firstCode_any n t a c b d (p.below q) o
 have E:Hid (t.check b=if 4<t.height then 19 else t.fault b):=rfl;generalize t.check b=l at E |-;clear p o;simp only[Tv] at j g |-
 generalize t.kind=k at j g |-;generalize t.r=r at j g |-;generalize t.len=f at j g |-;generalize t.fault b=v at g E;go_enter func223,ntmps223
 go_wp2_with fail
 have m:=Bx.start w k r a f c;generalize w.alloc (.cells #[Iv k,Iv r,.slice a f c] 105)=F at m |-;refine(j.out _ m.bel).mono ?_
 rintro e B ⟨rfl,x⟩;have h:Hid (Bx w B k r a f c):=m.below x;have D:=Qb h.out.box 0 _ Z;have A:=Qb h.out.box 1 _ Z;have y:=Qb h.out.box 2 _ Z;clear m x j;by_cases i:4<t.height
 ·rw[Xt i]
  have R:Hid (l=19):=by have:=E.out;rwa [Xs i] at this
  clear i;go_wp2_with fail
  go_ret;exact⟨by rw[R.out];rfl,h.out.bel⟩
 ·rw[Xu i]
  have R:Hid (l=v):=by have:=E.out;rwa [Xr i] at this
  clear i;go_wp2_with fail
  refine(g.out _ h.out.bel).mono ?_
  rintro e C ⟨rfl,u⟩;have z:Hid (Bx w C k r a f c):=h.out.below u;clear h u g D A y;go_wp2_with fail
  go_ret;exact⟨by rw[R.out];rfl,z.out.bel⟩
abbrev QG (p:Int × Int):Value:=.agg #[Iv p.1,Iv p.2]
def atF (c p:Int):Int × Int:=if c=0 then (0,0) else (c,p)
theorem QeJ {α:Type}{f:Nat->α->Int × Int}:∀ {l:List α}{j:Nat},firstF (fun i x=>atF (f i x).1 (f i x).2) j l=firstF f j l
 | [],_=>rfl
 | x::xs,j=>by
   simp only[firstF,atF]
   by_cases h:(f j x).1=0
   ·simp only[h,if_true,ne_eq,not_true_eq_false,if_false]
    exact QeJ
   ·simp[h]
def MFunc.code {n:Nat}(f:Nat) (x:MFunc n):Int :=
 if x.regs<0\/6<x.regs then 1 else if listC x.regs x.params≠0 then listC x.regs x.params else if listC x.regs x.results≠0 then listC x.regs x.results
 else if x.blocks.length<1\/12<x.blocks.length then 2 else if f=0/\¬ (x.regs=0/\x.params.length=0/\x.results.all (fun t=>t.kind==1)=true) then 18 else 0
theorem MFunc.fault_eq (a f:Nat) (x:MFunc n):MFunc.fault a f x=if x.code f=0 then firstF (fun b y=>MBlock.fault a f x b y) 0 x.blocks else (x.code f,10000*(f:Int)+9999):=by
 unfold MFunc.fault MFunc.code;generalize listC x.regs x.params=e;generalize listC x.regs x.results=c;generalize firstF (fun b y=>MBlock.fault a f x b y) 0 x.blocks=d;repeat' split
 all_goals first | rfl | (exfalso;omega) | contradiction
def MBlock.code' {n:Nat}(fn:MFunc n) (b:Nat) (x:MBlock n):Int :=
 if x.regs<fn.regs\/16<x.regs then 1 else if listC x.regs x.params≠0 then listC x.regs x.params
 else if b=0/\(x.regs≠fn.regs\/QcH x.params fn.params=false) then 9 else if 40<x.code.length then 2 else 0
theorem MBlock.fault_eq (a f:Nat) (fn:MFunc n) (b:Nat) (x:MBlock n):MBlock.fault a f fn b x =
 if x.code' fn b=0 then (if (firstF (fun i y=>(Qt.form a y,(10000*f+100*b+i:Int))) 0 x.code).1=0 then atF (x.fin.form fn.blocks.length) (10000*(f:Int)+100*(b:Int)+91)
  else firstF (fun i y=>(Qt.form a y,(10000*f+100*b+i:Int))) 0 x.code) else (x.code' fn b,10000*(f:Int)+100*(b:Int)+90):=by
 unfold MBlock.fault MBlock.code' atF;generalize firstF (fun i y=>(Qt.form a y,(10000*f+100*b+i:Int))) 0 x.code=d;generalize x.fin.form fn.blocks.length=c;generalize listC x.regs x.params=e;repeat' split
 all_goals first | rfl | (exfalso;omega) | contradiction
def idxK {n:Nat}:Nat->List (TT n)->Int
 | _,[]=>-1
 | i,t::ts=>if t.kind=1 then idxK (i+1) ts else (i:Int)
theorem QhK {l:List (TT n)}{x:TT n}(h:l[q]?=some x):idxK q (l.drop q)=if x.kind=1 then idxK (q+1) (l.drop (q+1)) else (q:Int):=by
 obtain⟨a,rfl⟩:=Zi h
 rw[List.drop_eq_getElem_cons a]
 rfl
theorem Qge {n:Nat}:∀ (l:List (TT n)) (j:Nat),(0<=idxK j l)↔¬ l.all (fun t=>t.kind==1)=true
 | [],j=>by simp[idxK]
 | y::ys,j=>by
   by_cases h:y.kind=1
   ·simp only[idxK,h,if_true,List.all_cons,beq_self_eq_true,Bool.true_and]
    exact Qge ys (j+1)
   ·simp[idxK,h]
theorem QeW {t:TT n}{regs:Int}(b:TIn w All t a) (d:t.count<=100000):Rd prog 78 #[Tv t a c,Iv regs] w (Iv (t.check regs)):=typeFaultT_any n t a c regs w b d
theorem QkF {t:TT n}{regs:Int}(b:TIn w All t a) (d:t.count<=100000):Rd prog 223 #[Tv t a c,Iv regs] w (Iv (t.check regs)):=check_any n t a c regs w b d
theorem Qdb {α:Type}{f:α->Int}{l:List α}{x:α}(h:l[q]?=some x):Qu f (l.drop q)=if f x≠0 then f x else Qu f (l.drop (q+1)):=by
 obtain⟨a,rfl⟩:=Zi h
 rw[List.drop_eq_getElem_cons a]
 rfl
theorem Qld {l:List (TT n)}{regs:Int}(f:(Qp n).In w All l [.slice p l.length c]) (b:Qc4 l) :
 Rd prog 51 #[.slice p l.length c,Iv regs] w (Iv (listC regs l)):=by
 have K:=Qf (QX f).1;have H:=Qf b.2;by_cases s:8<l.length
 ·have E:Hid (listC regs l=2):=Xs s;have d:decide ((l.length:Int)>8)=true:=Xt (by omega);clear s b f;go_enter func51,ntmps51
  go_wp2
  go_ret;exact⟨by rw[E.out];rfl,Zr⟩
 have E:Hid (listC regs l=Qu (TT.check regs) (l.drop 0)):=Xr s;have d:decide ((l.length:Int)>8)=false:=Xu (by omega);have s:l.length<=8:=by omega
 generalize listC regs l=V at E |-;clear b f;go_enter func51,ntmps51
 go_wp2
 go_loopw [5] (fun i wr=>∃ q:Nat,q<=l.length/\i=Iv q/\Hid (V=Qu (TT.check regs) (l.drop q))/\Hid (Below w.heap.size w wr)) (fun i _=>l.length - (intOf i).toNat)
 case atStart=>exact⟨0,Xb _,Z,E,Zr⟩
 case round =>
  obtain⟨q,O,rfl,e,k⟩:=hrel
  clear E;by_cases h:q<l.length
  ·have j:l[q]?=some l[q]:=Zg h;have z:=Qf (H.out _ (List.getElem_mem h));generalize l[q]=t at j z;obtain⟨g,o,F,I,rfl,-,D,J,B,In⟩:=LIn.at (TIn.below K.out k.out) j
   have N:(q:Int)<l.length:=by omega
   have a:=Qf (e.out.trans (Qdb j));have C:Hid (∀ x,Below wr.heap.size wr x->Rd prog 78 #[.agg #[Iv t.kind,Iv t.r,.slice F t.len I],Iv regs] x (Iv (t.check regs))):=fun x L=>QeW (In.below L) z.out;clear j e In;generalize t.check regs=v at a C;have C:=Qf (C.out wr Zr);go_wp2_with fail
   refine C.out.mono ?_;rintro P G ⟨rfl,A⟩;have y:Hid (Below w.heap.size w G):=k.out.trans (A.mono k.out.size);clear A C D J B;by_cases m:v=0
   ·subst m;have a:=Qf (a.out.trans (Xr (by simp)));go_wp2
    go_roundw
    case rel=>exact⟨q+1,by omega,by go_num,a,y⟩
    case measure=>simp[intOf];omega
   ·have a:=Qf (a.out.trans (Xs m));have M:(v != 0)=true:=bne_iff_ne.2 m;clear m;go_wp2
    go_ret;exact⟨by rw[a.out];rfl,y.out⟩
  ·have u:q=l.length:=by omega
   subst u;go_wp2
   go_ret;exact⟨by rw[e.out,List.drop_length];rfl,k.out⟩
theorem QaJ {l:List (TT n)}{regs:Int}(f:(Qp n).In w All l [.slice p l.length c]) (b:Qc4 l) :
 Rd prog 178 #[.slice p l.length c,Iv regs] w (Iv (listC regs l)):=by
 have K:=Qf (QX f).1;have I:=Qf b.2;by_cases s:8<l.length
 ·have E:Hid (listC regs l=2):=Xs s;have d:decide ((l.length:Int)>8)=true:=Xt (by omega);clear s b f;go_enter func178,ntmps178
  go_wp2
  go_ret;exact⟨by rw[E.out];rfl,Zr⟩
 have E:Hid (listC regs l=Qu (TT.check regs) (l.drop 0)):=Xr s;have d:decide ((l.length:Int)>8)=false:=Xu (by omega);have s:l.length<=8:=by omega
 generalize listC regs l=V at E |-;clear b f;go_enter func178,ntmps178
 go_wp2
 go_loopw [13] (fun i wr=>∃ q:Nat,q<=l.length/\i=Iv q/\Hid (V=Qu (TT.check regs) (l.drop q))/\Hid (Below w.heap.size w wr)) (fun i _=>l.length - (intOf i).toNat)
 case atStart=>exact⟨0,Xb _,Z,E,Zr⟩
 case round =>
  obtain⟨q,O,rfl,e,k⟩:=hrel
  clear E;by_cases h:q<l.length
  ·have j:l[q]?=some l[q]:=Zg h;have z:=Qf (I.out _ (List.getElem_mem h));generalize l[q]=t at j z;obtain⟨g,o,A,B,rfl,-,G,J,F,In⟩:=LIn.at (TIn.below K.out k.out) j
   have N:(q:Int)<l.length:=by omega
   have a:=Qf (e.out.trans (Qdb j));have C:Hid (∀ x,Below wr.heap.size wr x->Rd prog 223 #[.agg #[Iv t.kind,Iv t.r,.slice A t.len B],Iv regs] x (Iv (t.check regs))):=fun x L=>QkF (In.below L) z.out;clear j e In;generalize t.check regs=v at a C;have C:=Qf (C.out _ (Zd wr (.cells #[Iv t.kind,Iv t.r,.slice A t.len B] 105)));go_wp2_with fail
   refine C.out.mono ?_;rintro P H ⟨rfl,D⟩;have y:Hid (Below w.heap.size w H):=k.out.trans (((Zd wr _).trans (D.mono (Zd wr _).size)).mono k.out.size);clear D C G J F;by_cases m:v=0
   ·subst m;have a:=Qf (a.out.trans (Xr (by simp)));go_wp2
    go_roundw
    case rel=>exact⟨q+1,by omega,by go_num,a,y⟩
    case measure=>simp[intOf];omega
   ·have a:=Qf (a.out.trans (Xs m));have M:(v != 0)=true:=bne_iff_ne.2 m;clear m;go_wp2
    go_ret;exact⟨by rw[a.out];rfl,y.out⟩
  ·have u:q=l.length:=by omega
   subst u;go_wp2
   go_ret;exact⟨by rw[e.out,List.drop_length];rfl,k.out⟩
theorem Qbq {f:Int}:Rd prog 117 #[Iv xc,Iv f] w (QG (atF xc f)):=by
 have b:=Qf ((Bxs.start w).new #[Iv 0,Iv 0] 32);go_enter func117,ntmps117
 go_upto_region 1 with fail
 generalize w.alloc (.cells #[Iv 0,Iv 0] 32)=j at b |-;generalize w.heap.size=R at b |-;have k:=b.out.cell (a:=[]) 0 _ Z;have l:=b.out.cell (a:=[]) 1 _ Z;have i:=b.out.free (a:=[]) 0;have m:=b.out.free (a:=[]) 1;have g:Hid (∀ c p:Int,_):=fun c p=>(b.out.set (a:=[]) 0 (Iv c)).set (a:=[]) 1 (Iv p);by_cases h:xc=0
 ·subst h;go_wp2
  exact Xy (v:=QG (atF 0 f)) (by simp[results,results117,go_sem,(g.out 0 0).cell (a:=[]) 0 _ Z,(g.out 0 0).cell (a:=[]) 1 _ Z,atF,QG]) Z ⟨Z,(g.out 0 0).bel⟩
 ·have d:(xc==0)=false:=by simpa using h
  have e:=Qf h;clear h;go_wp2
  exact Xy (v:=QG (atF xc f)) (by simp[results,results117,go_sem,(g.out xc f).cell (a:=[]) 0 _ Z,(g.out xc f).cell (a:=[]) 1 _ Z,atF,QG,e.out]) Z ⟨Z,(g.out xc f).bel⟩
theorem Qhs {l:List (TT n)}(d:(Qp n).In w All l [.slice p l.length c]) (x:l.length<=100000) :
 Rd prog 259 #[.slice p l.length c,.func (.func 225) #[] #[]] w (Iv (idxK 0 l)):=by
 have u:=Qf (QX d).1;have E:Hid (idxK 0 l=idxK 0 (l.drop 0)):=rfl;have B:∀ (args:Array Value) (w:World),(callFunc 225 args).run prog w=.ok (.enter 225 args) w:=fun _ _=>by kernel_rfl
 generalize idxK 0 l=V at E |-;clear d;go_enter func259,ntmps259
 go_wp2
 go_loopw [8] (fun i wr=>∃ q:Nat,q<=l.length/\i=Iv q/\Hid (V=idxK q (l.drop q))/\Hid (Below w.heap.size w wr)) (fun i _=>l.length - (intOf i).toNat)
 case atStart=>exact⟨0,Xb _,Z,E,Zr⟩
 case round =>
  obtain⟨q,C,rfl,e,k⟩:=hrel
  clear E;by_cases h:q<l.length
  ·have f:l[q]?=some l[q]:=Zg h;generalize l[q]=t at f;obtain⟨g,o,y,v,rfl,-,s,D,z,In⟩:=LIn.at (TIn.below u.out k.out) f
   have F:(q:Int)<l.length:=by omega
   have a:=Qf (e.out.trans (QhK f));have j:Hid (Below w.heap.size w (wr.alloc (.cells #[Iv t.kind,Iv t.r,.slice y t.len v] 105))):=k.out.trans ((Zd wr _).mono k.out.size);clear f e In;by_cases b:t.kind=1
   ·have a:=Qf (a.out.trans (Xs b));rw[b] at s j
    clear b;go_wp2
    go_roundw
    case rel=>exact⟨q+1,by omega,by go_num,a,j⟩
    case measure=>simp[intOf];omega
   ·have a:=Qf (a.out.trans (Xr b));have A:(t.kind != 1)=true:=bne_iff_ne.2 b;clear b;go_wp2
    go_ret;exact⟨by rw[a.out];rfl,j.out⟩
  ·have m:q=l.length:=by omega
   subst m;go_wp2
   go_ret;exact⟨by rw[e.out,List.drop_length];rfl,k.out⟩
theorem Qeb {l:List (TT n)}(a:(Qp n).In w All l [.slice p l.length c]) (b:l.length<=100000) :
 Rd prog 224 #[.slice p l.length c,.func (.func 225) #[] #[]] w (.bool (decide (0<=idxK 0 l))):=by
 have C:=Qf (Qhs a b);clear a;go_enter func224,ntmps224
 go_wp2_with fail
 refine C.out.mono ?_;rintro f g ⟨rfl,d⟩;have e:=Qf d;clear d C;go_wp2
 go_ret;exact⟨Z,e.out⟩
def MFunc.begins {n:Nat}(x:MFunc n):Prop:=x.regs=0/\x.params.length=0/\x.results.all (fun t=>t.kind==1)=true
def MBlock.takes {n:Nat}(fn:MFunc n) (x:MBlock n):Prop:=x.regs=fn.regs/\x.params=fn.params
theorem Qk0 {fn:MFunc n}{x:MBlock n}(h:¬ x.takes fn):x.regs≠fn.regs\/QcH x.params fn.params=false:=by
 by_cases a:x.regs=fn.regs
 ·refine .inr ?_
  cases e:QcH x.params fn.params with
  | false=>rfl
  | true=>exact absurd ⟨a,QcX.1 e⟩ h
 ·exact .inl a
theorem QjD {fn:MFunc n}{x:MBlock n}(h:x.takes fn):¬ (x.regs≠fn.regs\/QcH x.params fn.params=false):=by
 rintro (a | a)
 ·exact a h.1
 ·rw[QcX.2 h.2] at a;cases a
abbrev bkA {n:Nat}(m:List (MFunc n)) (p:Option Addr) (c:Nat) (x:MFunc n) (fp:FP) (fi:Nat) (y:MBlock n) (bp:BP) (bi:Nat):Array Value:=#[.slice p m.length c,Iv x.regs,.slice fp.pP x.params.length fp.cP,.slice fp.pR x.results.length fp.cR,.slice fp.pB x.blocks.length fp.cB,Iv (fi:Int),Iv y.regs,.slice bp.pP y.params.length bp.cP,.slice bp.pC y.code.length bp.cC,Iv y.fin.op,Iv y.fin.a,Iv y.fin.yes.block,.slice bp.e.pYR y.fin.yes.regs.length bp.e.cYR,.slice bp.e.pYA y.fin.yes.args.length bp.e.cYA,Iv y.fin.no.block,.slice bp.e.pNR y.fin.no.regs.length bp.e.cNR,.slice bp.e.pNA y.fin.no.args.length bp.e.cNA,.slice bp.e.pA y.fin.args.length bp.e.cA,Iv (bi:Int)]
theorem QeK {m:List (MFunc n)}{x:MFunc n}{a:FP}(i:FIn w All x a) (g:x.small) :
 Rd prog 179 #[.agg #[.slice p m.length c,Iv x.regs,.slice a.pP x.params.length a.cP,.slice a.pR x.results.length a.cR,.slice a.pB x.blocks.length a.cB,Iv (fi:Int)]] w (.bool (ZU x.begins)):=by
 have f:=Qf (Zd w (.cells #[.slice p m.length c,Iv x.regs,.slice a.pP x.params.length a.cP,.slice a.pR x.results.length a.cR,.slice a.pB x.blocks.length a.cB,Iv (fi:Int)] 139));have j:=Qf (Blk.new w #[.slice p m.length c,Iv x.regs,.slice a.pP x.params.length a.cP,.slice a.pR x.results.length a.cR,.slice a.pB x.blocks.length a.cB,Iv (fi:Int)] 139);have C:=Qf (Qeb (Ya i.results f.out) (by have:=g.2.2.1.1;omega));have o:x.begins↔x.regs=0/\x.params.length=0/\¬ 0<=idxK 0 x.results:=by unfold MFunc.begins;rw[Qge,Classical.not_not]
 have b:=Qf o;clear o;generalize idxK 0 x.results=q at C b;clear i g;go_enter func179,ntmps179
 go_upto_region 1 with fail
 generalize w.alloc (.cells #[.slice p m.length c,Iv x.regs,.slice a.pP x.params.length a.cP,.slice a.pR x.results.length a.cR,.slice a.pB x.blocks.length a.cB,Iv (fi:Int)] 139)=y at f j C |-;generalize s:w.heap.size=X at j |-;have D:=Qf s;clear s;have z:=Qb j.out 1 _ Z;have G:=Qb j.out 2 _ Z;have B:=Qb j.out 3 _ Z;by_cases d:x.regs=0
 ·have u:(x.regs==0)=true:=by simpa using d
  by_cases e:x.params.length=0
  ·have v:((x.params.length:Int)==0)=true:=by simpa using e
   have k:Hid (ZU x.begins=!(decide (0<=q))):=by
    by_cases l:0<=q
    ·exact(QA (fun h=>(b.out.1 h).2.2 l)).trans (by simp[l])
    ·exact(QC (b.out.2 ⟨d,e,l⟩)).trans (by simp[l])
   clear d e b;go_wp2_with fail
   refine C.out.mono ?_;rintro F E ⟨rfl,r⟩;have t:=Qf (f.out.trans (r.mono f.out.size));clear r C;go_wp2
   go_ret;exact⟨by rw[k.out];rfl,t.out⟩
  ·have v:((x.params.length:Int)==0)=false:=by simpa using e
   have k:=Qf (QA (A:=x.begins) (fun h=>e (b.out.1 h).2.1));clear d e b;go_wp2
   go_ret;exact⟨by rw[k.out];rfl,f.out⟩
 ·have u:(x.regs==0)=false:=by simpa using d
  have k:=Qf (QA (A:=x.begins) (fun h=>d (b.out.1 h).1));clear d b;go_wp2
  go_ret;exact⟨by rw[k.out];rfl,f.out⟩
theorem Qfk {m:List (MFunc n)}{x:MFunc n}{a:FP}(k:FIn w All x a) (i:x.small) :
 Rd prog 116 #[.agg #[.slice p m.length c,Iv x.regs,.slice a.pP x.params.length a.cP,.slice a.pR x.results.length a.cR,.slice a.pB x.blocks.length a.cB,Iv (fi:Int)]] w (Iv (x.code fi)):=by
 have r:=Qf (Zd w (.cells #[.slice p m.length c,Iv x.regs,.slice a.pP x.params.length a.cP,.slice a.pR x.results.length a.cR,.slice a.pB x.blocks.length a.cB,Iv (fi:Int)] 139));have d:=Qf (Blk.new w #[.slice p m.length c,Iv x.regs,.slice a.pP x.params.length a.cP,.slice a.pR x.results.length a.cR,.slice a.pB x.blocks.length a.cB,Iv (fi:Int)] 139);have A:Hid (∀ g,Below w.heap.size w g->Calls prog 178 #[.slice a.pP x.params.length a.cP,Iv x.regs] g fun e y=>e=.returned (Iv (listC x.regs x.params))/\Below g.heap.size g y):=fun g B=>QaJ (regs:=x.regs) (Ya k.params B) i.2.1;have o:Hid (∀ g,Below w.heap.size w g->Calls prog 178 #[.slice a.pR x.results.length a.cR,Iv x.regs] g fun e y=>e=.returned (Iv (listC x.regs x.results))/\Below g.heap.size g y):=fun g B=>QaJ (regs:=x.regs) (Ya k.results B) i.2.2.1;have f:Hid (∀ g,Below w.heap.size w g->Calls prog 179 #[.agg #[.slice p m.length c,Iv x.regs,.slice a.pP x.params.length a.cP,.slice a.pR x.results.length a.cR,.slice a.pB x.blocks.length a.cB,Iv (fi:Int)]] g fun e y=>e=.returned (.bool (ZU x.begins))/\Below g.heap.size g y):=fun g B=>QeK (k.below B) i;have aa:=i.1;have b:Hid (x.code fi=if x.regs<0\/6<x.regs then 1 else if listC x.regs x.params≠0 then listC x.regs x.params else if listC x.regs x.results≠0 then listC x.regs x.results else if x.blocks.length<1\/12<x.blocks.length then 2 else if fi=0/\¬ (x.regs=0/\x.params.length=0/\x.results.all (fun t=>t.kind==1)=true) then 18 else 0):=rfl;generalize x.code fi=V at b |-;generalize listC x.regs x.params=R at b A;generalize listC x.regs x.results=Q at b o;clear k i;go_enter func116,ntmps116
 go_upto_region 1 with fail
 generalize w.alloc (.cells #[.slice p m.length c,Iv x.regs,.slice a.pP x.params.length a.cP,.slice a.pR x.results.length a.cR,.slice a.pB x.blocks.length a.cB,Iv (fi:Int)] 139)=w1 at r d |-;generalize W:w.heap.size=X at d |-;have HX:=Qf W;clear W;have G:=Qb d.out 1 _ Z;have L:=Qb d.out 2 _ Z;have H:=Qb d.out 3 _ Z;have J:=Qb d.out 4 _ Z;have K:=Qb d.out 5 _ Z;by_cases C:x.regs<0\/6<x.regs
 ·have E:=Qf (b.out.trans (Xs C));by_cases l:x.regs<0
  ·have D:decide (x.regs<0)=true:=Xt l;clear l C b A o f;go_wp2
   go_ret;exact⟨by rw[E.out];rfl,r.out⟩
  ·have D:decide (x.regs<0)=false:=Xu l;have U:decide (x.regs>6)=true:=Xt (by omega);clear l C b A o f;go_wp2
   go_ret;exact⟨by rw[E.out];rfl,r.out⟩
 replace b:=Qf (b.out.trans (Xr C));have D:decide (x.regs<0)=false:=Xu (by omega);have U:decide (x.regs>6)=false:=Xu (by omega);clear C;go_wp2_with fail
 refine(A.out w1 r.out).mono ?_
 rintro O w2 ⟨rfl,P⟩;have F:=Qf (r.out.trans (P.mono r.out.size));have d:=Qf (d.out.below P);clear P A G L H J K;have G:=Qb d.out 1 _ Z;have L:=Qb d.out 2 _ Z;have H:=Qb d.out 3 _ Z;have J:=Qb d.out 4 _ Z;have K:=Qb d.out 5 _ Z;by_cases v:R=0
 rotate_left
 ·have E:=Qf (b.out.trans (Xs v));have S:(R != 0)=true:=bne_iff_ne.2 v;clear v b o f;go_wp2
  go_ret;exact⟨by rw[E.out];rfl,F.out⟩
 replace b:=Qf (b.out.trans (Xr (fun h=>h v)));subst v;go_wp2_with fail
 refine(o.out w2 F.out).mono ?_
 rintro O T ⟨rfl,M⟩;have j:=Qf (F.out.trans (M.mono F.out.size));have d:=Qf (d.out.below M);clear M o G L H J K;have x0:=Qb d.out 0 _ Z;have G:=Qb d.out 1 _ Z;have L:=Qb d.out 2 _ Z;have H:=Qb d.out 3 _ Z;have J:=Qb d.out 4 _ Z;have K:=Qb d.out 5 _ Z;by_cases u:Q=0
 rotate_left
 ·have E:=Qf (b.out.trans (Xs u));have S:(Q != 0)=true:=bne_iff_ne.2 u;clear u b f;go_wp2
  go_ret;exact⟨by rw[E.out];rfl,j.out⟩
 replace b:=Qf (b.out.trans (Xr (fun h=>h u)));subst u;by_cases s:x.blocks.length<1\/12<x.blocks.length
 ·have E:=Qf (b.out.trans (Xs s));by_cases l:x.blocks.length<1
  ·have D:decide ((x.blocks.length:Int)<1)=true:=Xt (by omega);clear l s b f;go_wp2
   go_ret;exact⟨by rw[E.out];rfl,j.out⟩
  ·have D:decide ((x.blocks.length:Int)<1)=false:=Xu (by omega);have U:decide ((x.blocks.length:Int)>12)=true:=Xt (by omega);clear l s b f;go_wp2
   go_ret;exact⟨by rw[E.out];rfl,j.out⟩
 replace b:=Qf (b.out.trans (Xr s));have S:decide ((x.blocks.length:Int)<1)=false:=Xu (by omega);have d4:decide ((x.blocks.length:Int)>12)=false:=Xu (by omega);clear s;by_cases I:fi=0
 rotate_left
 ·have E:=Qf (b.out.trans (Xr (fun h=>I h.1)));have d5:((fi:Int)==0)=false:=by simpa using I
  clear I b f;go_wp2
  go_ret;exact⟨by rw[E.out];rfl,j.out⟩
 subst I;by_cases q:x.begins
 ·have E:=Qf (b.out.trans (Xr (fun h=>h.2 q)));have f:=Qf (f.out T j.out);rw[QC q] at f
  clear q b;go_wp2_with fail
  refine f.out.mono ?_;rintro O w4 ⟨rfl,z⟩;have N:=Qf (j.out.trans (z.mono j.out.size));clear z f;go_wp2
  go_ret;exact⟨by rw[E.out];rfl,N.out⟩
 ·have E:=Qf (b.out.trans (Xs ⟨Z,q⟩));have f:=Qf (f.out T j.out);rw[QA q] at f
  clear q b;go_wp2_with fail
  refine f.out.mono ?_;rintro O w4 ⟨rfl,z⟩;have N:=Qf (j.out.trans (z.mono j.out.size));clear z f;go_wp2
  go_ret;exact⟨by rw[E.out];rfl,N.out⟩
theorem ZN {rest:List Oper}{op:Oper}{a:Act}{Q:Exit->Act->World->Prop}(l:Region.wanted op (yielded ops a.tmps)=true) (c:TypeId) (x:Operand) (k:op.op=.load c x)
 (b o:Nat) (f:a.eval x=Pv b o) (cs:List Value) (d:TypeDesc) (i:w.rangeAt b o cs) (e:P.underlying c=some d) (j:d.isRow=true) (hi:(P.info? c).map (·.size)=some cs.length)
 (h:wpList P ops Q rest (a.put op.dst (.agg cs.toArray)) w):wpList P ops Q (op::rest) a w :=
 wpList_step fun K g=>by
  rw[Xs l]
  exact wp_load_mid c x k b o f cs d i e j hi (g _ _ h)
theorem bkSize:(prog.info? 194).map (·.size)=some 19:=by kernel_rfl
theorem Qim {m:List (MFunc n)}{x:MFunc n}{d:FP}{y:MBlock n}{b:BP}(k:FIn w All x d) (r:x.small) (l:BIn w All y b) (f:y.small) :
 Rd prog 226 #[.agg (bkA m p c x d fi y b bi)] w (.bool (ZU (y.takes x))):=by
 have o:=Qf (Zd w (.cells (bkA m p c x d fi y b bi) 194));have g:=Qf (Blk.new w (bkA m p c x d fi y b bi) 194);have C:Hid (∀ i,Below w.heap.size w i->Calls prog 260 #[.slice b.pP y.params.length b.cP,.slice d.pP x.params.length d.cP,FV] i fun e G=>ZM e (y.params=x.params)/\Below i.heap.size i G):=fun i u=>QhH n (same_any n) _ _ _ _ _ _ i (QX (Ya l.params u)).1 (QX (Ya k.params u)).1 (by have:=f.2.1.1;omega) f.2.1.2;clear k r l f;unfold Rd;go_enter func226,ntmps226
 go_upto_region 1 with fail
 generalize w.alloc (.cells #[.slice p m.length c,Iv x.regs,.slice d.pP x.params.length d.cP,.slice d.pR x.results.length d.cR,.slice d.pB x.blocks.length d.cB,Iv (fi:Int),Iv y.regs,.slice b.pP y.params.length b.cP,.slice b.pC y.code.length b.cC,Iv y.fin.op,Iv y.fin.a,Iv y.fin.yes.block,.slice b.e.pYR y.fin.yes.regs.length b.e.cYR,.slice b.e.pYA y.fin.yes.args.length b.e.cYA,Iv y.fin.no.block,.slice b.e.pNR y.fin.no.regs.length b.e.cNR,.slice b.e.pNA y.fin.no.args.length b.e.cNA,.slice b.e.pA y.fin.args.length b.e.cA,Iv (bi:Int)] 194)=F at o g |-;generalize v:w.heap.size=X at g |-;have I:=Qf v;clear v;have H:=Qb g.out 1 _ Z;have N:=Qb g.out 2 _ Z;have M:=Qb g.out 6 _ Z;have L:=Qb g.out 7 _ Z;by_cases j:y.regs=x.regs
 ·have D:(y.regs==x.regs)=true:=by simpa using j
  have B:=Qf j;clear j;go_wp2_with fail
  refine(C.out F o.out).mono ?_
  rintro K J ⟨⟨q,rfl,s⟩,t⟩;have z:=Qf (o.out.trans (t.mono o.out.size));have E:Hid (ZU (y.takes x)=q):=(Qf2 (s.trans ⟨fun h=>⟨B.out,h⟩,fun h=>h.2⟩)).symm;clear t C s;go_wp2
  go_ret;exact⟨by rw[E.out];rfl,z.out⟩
 ·have D:(y.regs==x.regs)=false:=by simpa using j
  have E:=Qf (QA (A:=y.takes x) (fun h=>j h.1));clear j C;go_wp2
  go_ret;exact⟨by rw[E.out];rfl,o.out⟩
theorem Qei {m:List (MFunc n)}{x:MFunc n}{f:FP}{y:MBlock n}{b:BP}(A:FIn w All x f) (z:x.small) (s:BIn w All y b) (q:y.small) :
 Rd prog 180 #[.agg (bkA m p c x f fi y b bi)] w (Iv (y.code' x bi)):=by
 have u:=Qf (Zd w (.cells (bkA m p c x f fi y b bi) 194));have i:=Qf (Blk.new w (bkA m p c x f fi y b bi) 194);have F:Hid (∀ k,Below w.heap.size w k->Calls prog 178 #[.slice b.pP y.params.length b.cP,Iv y.regs] k fun e O=>e=.returned (Iv (listC y.regs y.params))/\Below k.heap.size k O):=fun k I=>QaJ (Ya s.params I) q.2.1;have g:Hid (∀ k,Below w.heap.size w k->Calls prog 226 #[.agg #[.slice p m.length c,Iv x.regs,.slice f.pP x.params.length f.cP,.slice f.pR x.results.length f.cR,.slice f.pB x.blocks.length f.cB,Iv (fi:Int),Iv y.regs,.slice b.pP y.params.length b.cP,.slice b.pC y.code.length b.cC,Iv y.fin.op,Iv y.fin.a,Iv y.fin.yes.block,.slice b.e.pYR y.fin.yes.regs.length b.e.cYR,.slice b.e.pYA y.fin.yes.args.length b.e.cYA,Iv y.fin.no.block,.slice b.e.pNR y.fin.no.regs.length b.e.cNR,.slice b.e.pNA y.fin.no.args.length b.e.cNA,.slice b.e.pA y.fin.args.length b.e.cA,Iv (bi:Int)]] k fun e O=>e=.returned (.bool (ZU (y.takes x)))/\Below k.heap.size k O):=fun k I=>Qim (A.below I) z (s.below I) q;have aa:=q.1;have d:Hid (y.code' x bi=if y.regs<x.regs\/16<y.regs then 1 else if listC y.regs y.params≠0 then listC y.regs y.params else if bi=0/\(y.regs≠x.regs\/QcH y.params x.params=false) then 9 else if 40<y.code.length then 2 else 0):=rfl;generalize y.code' x bi=V at d |-;generalize listC y.regs y.params=P at d F;clear A z s q;unfold Rd;go_enter func180,ntmps180
 go_upto_region 1 with fail
 generalize w.alloc (.cells #[.slice p m.length c,Iv x.regs,.slice f.pP x.params.length f.cP,.slice f.pR x.results.length f.cR,.slice f.pB x.blocks.length f.cB,Iv (fi:Int),Iv y.regs,.slice b.pP y.params.length b.cP,.slice b.pC y.code.length b.cC,Iv y.fin.op,Iv y.fin.a,Iv y.fin.yes.block,.slice b.e.pYR y.fin.yes.regs.length b.e.cYR,.slice b.e.pYA y.fin.yes.args.length b.e.cYA,Iv y.fin.no.block,.slice b.e.pNR y.fin.no.regs.length b.e.cNR,.slice b.e.pNA y.fin.no.args.length b.e.cNA,.slice b.e.pA y.fin.args.length b.e.cA,Iv (bi:Int)] 194)=U at u i |-;generalize T:w.heap.size=X at i |-;have HX:=Qf T;clear T;have W:=Qb i.out 1 _ Z;have x6:=Qb i.out 6 _ Z;have x7:=Qb i.out 7 _ Z;have t:=Qb i.out 8 _ Z;have v:=Qb i.out 18 _ Z;by_cases G:y.regs<x.regs\/16<y.regs
 ·have E:=Qf (d.out.trans (Xs G));by_cases J:y.regs<x.regs
  ·have Q:decide (y.regs<x.regs)=true:=Xt J;clear J G d F g;go_wp2
   go_ret;exact⟨by rw[E.out];rfl,u.out⟩
  ·have Q:decide (y.regs<x.regs)=false:=Xu J;have d2:decide (y.regs>16)=true:=Xt (by omega);clear J G d F g;go_wp2
   go_ret;exact⟨by rw[E.out];rfl,u.out⟩
 replace d:=Qf (d.out.trans (Xr G));have Q:decide (y.regs<x.regs)=false:=Xu (by omega);have d2:decide (y.regs>16)=false:=Xu (by omega);clear G;go_wp2_with fail
 refine(F.out U u.out).mono ?_
 rintro L S ⟨rfl,M⟩;have j:=Qf (u.out.trans (M.mono u.out.size));replace i:=Qf (i.out.below M);have K:=Qf (Blk.range (c:=(bkA m p c x f fi y b bi).toList) i.out);clear M F W x6 x7 t v;have t:=Qb i.out 8 _ Z;have v:=Qb i.out 18 _ Z;by_cases C:P=0
 rotate_left
 ·have E:=Qf (d.out.trans (Xs C));have d3:(P != 0)=true:=bne_iff_ne.2 C;clear C d g;go_wp2
  go_ret;exact⟨by rw[E.out];rfl,j.out⟩
 replace d:=Qf (d.out.trans (Xr (fun h=>h C)));subst C;by_cases r:bi=0/\¬ y.takes x
 ·have E:=Qf (d.out.trans (Xs ⟨r.1,Qk0 r.2⟩));have g:=Qf (g.out S j.out);rw[QA r.2] at g
  have D:=r.1;subst D;clear r d;go_wp2_with (refine ZN Z 194 (.tmp 1) Z X 0 Z (bkA m p c x f fi y b 0).toList _ K.out underlying194 Z bkSize ?_)
  refine g.out.mono ?_;rintro L R ⟨rfl,l⟩;have B:=Qf (j.out.trans (l.mono j.out.size));clear l g;go_wp2
  go_ret;exact⟨by rw[E.out];rfl,B.out⟩
 replace d:=Qf (d.out.trans (Xr (fun h=>r ⟨h.1,fun H=>QjD H h.2⟩)));by_cases D:bi=0
 ·subst D;have H:y.takes x:=Classical.byContradiction (fun h=>r ⟨Z,h⟩);have g:=Qf (g.out S j.out);rw[QC H] at g
  clear r H;by_cases o:40<y.code.length
  ·have N:decide ((y.code.length:Int)>40)=true:=Xt (by omega);have E:=Qf (d.out.trans (Xs o));clear o d;go_wp2_with (refine ZN Z 194 (.tmp 1) Z X 0 Z (bkA m p c x f fi y b 0).toList _ K.out underlying194 Z bkSize ?_)
   refine g.out.mono ?_;rintro L R ⟨rfl,l⟩;have B:=Qf (j.out.trans (l.mono j.out.size));have t:=Qk t l;clear l g;go_wp2
   go_ret;exact⟨by rw[E.out];rfl,B.out⟩
  ·have N:decide ((y.code.length:Int)>40)=false:=Xu (by omega);have E:=Qf (d.out.trans (Xr o));clear o d;go_wp2_with (refine ZN Z 194 (.tmp 1) Z X 0 Z (bkA m p c x f fi y b 0).toList _ K.out underlying194 Z bkSize ?_)
   refine g.out.mono ?_;rintro L R ⟨rfl,l⟩;have B:=Qf (j.out.trans (l.mono j.out.size));have t:=Qk t l;clear l g;go_wp2
   go_ret;exact⟨by rw[E.out];rfl,B.out⟩
 ·have d5:((bi:Int)==0)=false:=by simpa using D
  clear r D g;by_cases o:40<y.code.length
  ·have N:decide ((y.code.length:Int)>40)=true:=Xt (by omega);have E:=Qf (d.out.trans (Xs o));clear o d;go_wp2
   go_ret;exact⟨by rw[E.out];rfl,j.out⟩
  ·have N:decide ((y.code.length:Int)>40)=false:=Xu (by omega);have E:=Qf (d.out.trans (Xr o));clear o d;go_wp2
   go_ret;exact⟨by rw[E.out];rfl,j.out⟩
theorem FbS.start0 (w:World):FbS w (w.alloc (.cells #[Iv 0,Iv 0] 32)) w.heap.size []:=⟨Zd w _,Ze,Blk.new _ _ _,fun i b a=>by simp at a⟩
theorem Qjy {l:List Qt}{Bc:Nat}(G:Nat->Qt->Int × Int) (H:insL.list.In w All l [.slice p l.length c]) (aa:l.length<=100000)
 (y:∀ (i:Nat) x (z:IP) wx,l[i]?=some x->IIn wx All x z->Below w.heap.size w wx->Rd prog 183 #[Iv (i:Int),.agg #[Iv x.op,Iv x.a,Iv x.b,Iv x.c,Iv x.k,Iv x.n,.slice z.pR x.regs.length z.cR,.slice z.pA x.args.length z.cA],Pv Bc 0] wx (QG (G i x))) :
 Rd prog 182 #[.slice p l.length c,.func (.func 183) #[] #[Pv Bc 0]] w (QG (firstF G 0 l)):=by
 have HL:=Qf H;have HC:=Qf y;have S:=Qf (FbS.start0 w);have hE:∀ (args:Array Value) (w:World),(callFunc 183 args).run prog w=.ok (.enter 183 args) w:=fun _ _=>by kernel_rfl
 clear H y;unfold Rd;go_enter func182,ntmps182
 go_upto_region 1 with fail
 generalize w.alloc (.cells #[Iv 0,Iv 0] 32)=w1 at S |-;generalize w.heap.size=R at S |-;go_wp2_with fail
 go_loopw [10] (fun i wr=>∃ q:Nat,q<=l.length/\i=Iv q/\FbS w wr R []/\∀ (j:Nat) x,j<q->l[j]?=some x->(G j x).1=0) (fun i _=>l.length - (intOf i).toNat)
 case atStart=>exact⟨0,Xb _,Yz,S.out,fun j z C=>absurd C (XG _)⟩
 case round =>
  obtain⟨q,hq,rfl,hs,A⟩:=hrel
  have e:=Qf hs;have F:=Qf A;clear hs A S;obtain⟨K,T⟩:∃ K,K=wr:=⟨_,Yz⟩
  subst T;by_cases U:q<l.length
  rotate_left
  ·have I:¬ (q:Int)<l.length:=by omega
   have E:firstF G 0 l=(0,0):=QY fun j x C=>by rw[XK];exact F.out j x (by have:=(Zi C).1;omega) C
   obtain⟨r0,r1,z0,z1⟩:=e.out.cells
   have D:=Qf (e.out.fin 0 0);go_wp2_with fail
   generalize World.setCell _ _ _=V at D |-;exact Xy (v:=.agg #[Iv 0,Iv 0]) (by simp[results,results182,go_sem,Qb D.out.1 0 _ Yz,Qb D.out.1 1 _ Yz]) Yz ⟨by first | rfl | rw[E],D.out.2⟩
  have I:(q:Int)<l.length:=by omega
  have L:l[q]?=some l[q]:=Zg U;generalize l[q]=x at L;have Q:=Qf L;obtain⟨g,o,z,rfl,h,I3⟩:=QhI HL.out L
  have HI:=Qf I3;have v0:=Qk (show w.cell? ⟨g,o+q*8,none⟩=_ from h 0 _ Yz) e.out.bel;have v1:=Qk (show w.cell? ⟨g,o+q*8+1,none⟩=_ from h 1 _ Yz) e.out.bel;have v2:=Qk (show w.cell? ⟨g,o+q*8+2,none⟩=_ from h 2 _ Yz) e.out.bel;have v3:=Qk (show w.cell? ⟨g,o+q*8+3,none⟩=_ from h 3 _ Yz) e.out.bel;have v4:=Qk (show w.cell? ⟨g,o+q*8+4,none⟩=_ from h 4 _ Yz) e.out.bel;have v5:=Qk (show w.cell? ⟨g,o+q*8+5,none⟩=_ from h 5 _ Yz) e.out.bel;have v6:=Qk (show w.cell? ⟨g,o+q*8+6,none⟩=_ from h 6 _ Yz) e.out.bel;have v7:=Qk (show w.cell? ⟨g,o+q*8+7,none⟩=_ from h 7 _ Yz) e.out.bel;have d:=Qf (e.out.new #[Iv x.op,Iv x.a,Iv x.b,Iv x.c,Iv x.k,Iv x.n,.slice z.pR x.regs.length z.cR,.slice z.pA x.args.length z.cA] 78);clear L h I3;go_upto_region 4 with fail
  generalize K.alloc (.cells #[Iv x.op,Iv x.a,Iv x.b,Iv x.c,Iv x.k,Iv x.n,.slice z.pR x.regs.length z.cR,.slice z.pA x.args.length z.cA] 78)=w3 at d |-;generalize K.heap.size=Z at d |-;clear e v0 v1 v2 v3 v4 v5 v6 v7;have t0:=Qb (d.out.box 0 _ Yz) 0 _ Yz;have t1:=Qb (d.out.box 0 _ Yz) 1 _ Yz;have t2:=Qb (d.out.box 0 _ Yz) 2 _ Yz;have t3:=Qb (d.out.box 0 _ Yz) 3 _ Yz;have t4:=Qb (d.out.box 0 _ Yz) 4 _ Yz;have t5:=Qb (d.out.box 0 _ Yz) 5 _ Yz;have t6:=Qb (d.out.box 0 _ Yz) 6 _ Yz;have t7:=Qb (d.out.box 0 _ Yz) 7 _ Yz;have W:=Qf (HC.out q x z w3 Q.out (HI.out.below d.out.bel) d.out.bel);unfold Rd at W;obtain⟨s,B,P⟩:∃ s B,G q x=(s,B):=⟨_,_,Yz⟩
  rw[P] at W
  have M:=Qf P;clear P;go_wp2_with fail
  refine W.out.mono ?_;rintro _ w8 ⟨rfl,X⟩;have t:=Qf ((d.out.below X).new #[Iv s,Iv B] 32);clear X d;simp only[QG]
  go_upto_region 5 with fail
  generalize w8.alloc (.cells #[Iv s,Iv B] 32)=w9 at t |-;generalize w8.heap.size=F8 at t |-;have f0:=Qb (t.out.box 0 _ Yz) 0 _ Yz;have f1:=Qb (t.out.box 0 _ Yz) 1 _ Yz;have N:Hid (FbS w w9 R []):=⟨t.out.bel,t.out.ge,t.out.r,fun i b hb=>by simp at hb⟩;clear t;by_cases m:s=0
  ·subst m;go_wp2
   go_roundw
   case rel =>
    refine⟨q+1,by omega,by go_num,N.out,fun j u C J=>?_⟩
    by_cases O:j<q
    ·exact F.out j u O J
    ·have:j=q:=by omega
     subst this;rw[Q.out] at J
     cases J
     rw[M.out]
   case measure=>simp[intOf];omega
  ·have d9:(s != 0)=true:=by simpa using m
   have E:firstF G 0 l=(s,B):=by
    have hF:=Qaw (f:=G) (j:=0) Q.out (fun j u C J=>by rw[XK];exact F.out j u C J) (by rw[XK,M.out];exact m);rw[XK,M.out] at hF
    exact hF
   clear m;obtain⟨r0,r1,z0,z1⟩:=N.out.cells
   have D:=Qf (N.out.fin s B);go_wp2_with fail
   generalize World.setCell _ _ _=V at D |-;exact Xy (v:=.agg #[Iv s,Iv B]) (by simp[results,results182,go_sem,Qb D.out.1 0 _ Yz,Qb D.out.1 1 _ Yz]) Yz ⟨by first | rfl | rw[E],D.out.2⟩
theorem QfL {l:List (MBlock n)}{Bc:Nat}(G:Nat->(MBlock n)->Int × Int) (L:(Zp n).list.In w All l [.slice p l.length c]) (ad:l.length<=100000)
 (A:∀ (i:Nat) x (z:BP) wx,l[i]?=some x->BIn wx All x z->Below w.heap.size w wx->Rd prog 120 #[Iv (i:Int),.agg #[Iv x.regs,.slice z.pP x.params.length z.cP,.slice z.pC x.code.length z.cC,Iv x.fin.op,Iv x.fin.a,Iv x.fin.yes.block,.slice z.e.pYR x.fin.yes.regs.length z.e.cYR,.slice z.e.pYA x.fin.yes.args.length z.e.cYA,Iv x.fin.no.block,.slice z.e.pNR x.fin.no.regs.length z.e.cNR,.slice z.e.pNA x.fin.no.args.length z.e.cNA,.slice z.e.pA x.fin.args.length z.e.cA],Pv Bc 0] wx (QG (G i x))) :
 Rd prog 119 #[.slice p l.length c,.func (.func 120) #[] #[Pv Bc 0]] w (QG (firstF G 0 l)):=by
 have HL:=Qf L;have HC:=Qf A;have S:=Qf (FbS.start0 w);have hE:∀ (args:Array Value) (w:World),(callFunc 120 args).run prog w=.ok (.enter 120 args) w:=fun _ _=>by kernel_rfl
 clear L A;unfold Rd;go_enter func119,ntmps119
 go_upto_region 1 with fail
 generalize w.alloc (.cells #[Iv 0,Iv 0] 32)=w1 at S |-;generalize w.heap.size=R at S |-;go_wp2_with fail
 go_loopw [10] (fun i wr=>∃ q:Nat,q<=l.length/\i=Iv q/\FbS w wr R []/\∀ (j:Nat) x,j<q->l[j]?=some x->(G j x).1=0) (fun i _=>l.length - (intOf i).toNat)
 case atStart=>exact⟨0,Xb _,Yz,S.out,fun j z k=>absurd k (XG _)⟩
 case round =>
  obtain⟨q,hq,rfl,hs,B⟩:=hrel
  have K:=Qf hs;have H:=Qf B;clear hs B S;obtain⟨t,aa⟩:∃ t,t=wr:=⟨_,Yz⟩
  subst aa;by_cases ab:q<l.length
  rotate_left
  ·have M:¬ (q:Int)<l.length:=by omega
   have E:firstF G 0 l=(0,0):=QY fun j x k=>by rw[XK];exact H.out j x (by have:=(Zi k).1;omega) k
   obtain⟨r0,r1,z0,z1⟩:=K.out.cells
   have D:=Qf (K.out.fin 0 0);go_wp2_with fail
   generalize World.setCell _ _ _=ac at D |-;exact Xy (v:=.agg #[Iv 0,Iv 0]) (by simp[results,results119,go_sem,Qb D.out.1 0 _ Yz,Qb D.out.1 1 _ Yz]) Yz ⟨by first | rfl | rw[E],D.out.2⟩
  have M:(q:Int)<l.length:=by omega
  have Q:l[q]?=some l[q]:=Zg ab;generalize l[q]=x at Q;have HX:=Qf Q;obtain⟨g,o,z,rfl,U,I3⟩:=Qeu HL.out Q
  have HI:=Qf I3;generalize h:([Iv x.regs,.slice z.pP x.params.length z.cP,.slice z.pC x.code.length z.cC,Iv x.fin.op,Iv x.fin.a,Iv x.fin.yes.block,.slice z.e.pYR x.fin.yes.regs.length z.e.cYR,.slice z.e.pYA x.fin.yes.args.length z.e.cYA,Iv x.fin.no.block,.slice z.e.pNR x.fin.no.regs.length z.e.cNR,.slice z.e.pNA x.fin.no.args.length z.e.cNA,.slice z.e.pA x.fin.args.length z.e.cA]:List Value)=d at U;have hl:d.length=12:=by rw[<-h];rfl
  have I:=Qf (Qm3.of t hl);have TO:Hid (d.toArray.all (·.oneCell')=true):=by show _=_;rw[<-h];exact all_oneCell_toArray (Xe.1 Yz)
  have RG:Hid (t.rangeAt g (o+q*12) d):=fun j v k=>Qk (U j v k) K.out.bel;clear Q U I3 hl;go_upto_region 4 with (first | (refine wpList_load_mid Yz 86 (.tmp 13) Yz g (o+q*12) Yz d _ RG.out underlying86 Yz I.out.size ?_) | (refine wpList_store_mid Yz 86 (.tmp 6) (.tmp 14) Yz t.heap.size 0 d.toArray Yz Yz I.out.there I.out.size2 TO.out ?_))
  have F:=Qf ((K.out.below I.out.bel).add I.out.blk);have TS:=Qf I.out.size;clear K RG TO I;generalize (t.alloc (.cells #[Iv 0,Nv,Nv,Iv 0,Iv 0,Iv 0,Nv,Nv,Iv 0,Nv,Nv,Nv] 86)).setCells t.heap.size 0 d=O at F |-;generalize t.heap.size=Z at F |-;have RZ:Hid (O.rangeAt Z 0 d):=Blk.range (F.out.box 0 _ Yz);have CC:=Qf (HC.out q x z O HX.out (HI.out.below F.out.bel) F.out.bel);unfold Rd at CC;have P:Hid (([Iv x.regs,.slice z.pP x.params.length z.cP,.slice z.pC x.code.length z.cC,Iv x.fin.op,Iv x.fin.a,Iv x.fin.yes.block,.slice z.e.pYR x.fin.yes.regs.length z.e.cYR,.slice z.e.pYA x.fin.yes.args.length z.e.cYA,Iv x.fin.no.block,.slice z.e.pNR x.fin.no.regs.length z.e.cNR,.slice z.e.pNA x.fin.no.args.length z.e.cNA,.slice z.e.pA x.fin.args.length z.e.cA]:List Value)=d):=h;have J:Hid (Calls prog 120 #[Iv (q:Int),.agg d.toArray,Pv Bc 0] O fun e w'=>e=.returned (QG (G q x))/\Below O.heap.size O w'):=by rw[<-P.out];exact CC.out
  clear CC P h;obtain⟨s,C,X⟩:∃ s C,G q x=(s,C):=⟨_,_,Yz⟩
  rw[X] at J
  have T:=Qf X;clear X;go_wp2_with (refine wpList_load_mid Yz 86 (.tmp 6) Yz Z 0 Yz d _ RZ.out underlying86 Yz TS.out ?_)
  refine J.out.mono ?_;rintro _ w8 ⟨rfl,b8⟩;have y:=Qf ((F.out.below b8).new #[Iv s,Iv C] 32);clear b8 F;simp only[QG]
  go_upto_region 5 with fail
  generalize w8.alloc (.cells #[Iv s,Iv C] 32)=w9 at y |-;generalize w8.heap.size=F8 at y |-;have f0:=Qb (y.out.box 0 _ Yz) 0 _ Yz;have f1:=Qb (y.out.box 0 _ Yz) 1 _ Yz;have V:Hid (FbS w w9 R []):=⟨y.out.bel,y.out.ge,y.out.r,fun i b hb=>by simp at hb⟩;clear y;by_cases m:s=0
  ·subst m;go_wp2
   go_roundw
   case rel =>
    refine⟨q+1,by omega,by go_num,V.out,fun j u k N=>?_⟩
    by_cases W:j<q
    ·exact H.out j u W N
    ·have:j=q:=by omega
     subst this;rw[HX.out] at N
     cases N
     rw[T.out]
   case measure=>simp[intOf];omega
  ·have d9:(s != 0)=true:=by simpa using m
   have E:firstF G 0 l=(s,C):=by
    have hF:=Qaw (f:=G) (j:=0) HX.out (fun j u k N=>by rw[XK];exact H.out j u k N) (by rw[XK,T.out];exact m);rw[XK,T.out] at hF
    exact hF
   clear m;obtain⟨r0,r1,z0,z1⟩:=V.out.cells
   have D:=Qf (V.out.fin s C);go_wp2_with fail
   generalize World.setCell _ _ _=ac at D |-;exact Xy (v:=.agg #[Iv s,Iv C]) (by simp[results,results119,go_sem,Qb D.out.1 0 _ Yz,Qb D.out.1 1 _ Yz]) Yz ⟨by first | rfl | rw[E],D.out.2⟩
theorem QgR {l:List (MFunc n)}{Bc:Nat}(G:Nat->(MFunc n)->Int × Int) (B:(QaN n).In w All l [.slice p l.length c]) (aa:l.length<=100000)
 (m:∀ (i:Nat) x (z:FP) wx,l[i]?=some x->FIn wx All x z->Below w.heap.size w wx->Rd prog 74 #[Iv (i:Int),.agg #[Iv x.regs,.slice z.pP x.params.length z.cP,.slice z.pR x.results.length z.cR,.slice z.pB x.blocks.length z.cB],Pv Bc 0] wx (QG (G i x))) :
 Rd prog 73 #[.slice p l.length c,.func (.func 74) #[] #[Pv Bc 0]] w (QG (firstF G 0 l)):=by
 have HL:=Qf B;have HC:=Qf m;have S:=Qf (FbS.start0 w);have hE:∀ (args:Array Value) (w:World),(callFunc 74 args).run prog w=.ok (.enter 74 args) w:=fun _ _=>by kernel_rfl
 clear B m;unfold Rd;go_enter func73,ntmps73
 go_upto_region 1 with fail
 generalize w.alloc (.cells #[Iv 0,Iv 0] 32)=w1 at S |-;generalize w.heap.size=R at S |-;go_wp2_with fail
 go_loopw [10] (fun i wr=>∃ q:Nat,q<=l.length/\i=Iv q/\FbS w wr R []/\∀ (j:Nat) x,j<q->l[j]?=some x->(G j x).1=0) (fun i _=>l.length - (intOf i).toNat)
 case atStart=>exact⟨0,Xb _,Yz,S.out,fun j z y=>absurd y (XG _)⟩
 case round =>
  obtain⟨q,hq,rfl,hs,s⟩:=hrel
  have h:=Qf hs;have A:=Qf s;clear hs s S;obtain⟨I,P⟩:∃ I,I=wr:=⟨_,Yz⟩
  subst P;by_cases Q:q<l.length
  rotate_left
  ·have F:¬ (q:Int)<l.length:=by omega
   have E:firstF G 0 l=(0,0):=QY fun j x y=>by rw[XK];exact A.out j x (by have:=(Zi y).1;omega) y
   obtain⟨r0,r1,z0,z1⟩:=h.out.cells
   have D:=Qf (h.out.fin 0 0);go_wp2_with fail
   generalize World.setCell _ _ _=T at D |-;exact Xy (v:=.agg #[Iv 0,Iv 0]) (by simp[results,results73,go_sem,Qb D.out.1 0 _ Yz,Qb D.out.1 1 _ Yz]) Yz ⟨by first | rfl | rw[E],D.out.2⟩
  have F:(q:Int)<l.length:=by omega
  have J:l[q]?=some l[q]:=Zg Q;generalize l[q]=x at J;have O:=Qf J;obtain⟨g,o,z,rfl,C,I3⟩:=Qfz HL.out J
  have HI:=Qf I3;have v0:=Qk (show w.cell? ⟨g,o+q*4,none⟩=_ from C 0 _ Yz) h.out.bel;have v1:=Qk (show w.cell? ⟨g,o+q*4+1,none⟩=_ from C 1 _ Yz) h.out.bel;have v2:=Qk (show w.cell? ⟨g,o+q*4+2,none⟩=_ from C 2 _ Yz) h.out.bel;have v3:=Qk (show w.cell? ⟨g,o+q*4+3,none⟩=_ from C 3 _ Yz) h.out.bel;have a:=Qf (h.out.new #[Iv x.regs,.slice z.pP x.params.length z.cP,.slice z.pR x.results.length z.cR,.slice z.pB x.blocks.length z.cB] 89);clear J C I3;go_upto_region 4 with fail
  generalize I.alloc (.cells #[Iv x.regs,.slice z.pP x.params.length z.cP,.slice z.pR x.results.length z.cR,.slice z.pB x.blocks.length z.cB] 89)=w3 at a |-;generalize I.heap.size=Z at a |-;clear h v0 v1 v2 v3;have t0:=Qb (a.out.box 0 _ Yz) 0 _ Yz;have t1:=Qb (a.out.box 0 _ Yz) 1 _ Yz;have t2:=Qb (a.out.box 0 _ Yz) 2 _ Yz;have t3:=Qb (a.out.box 0 _ Yz) 3 _ Yz;have U:=Qf (HC.out q x z w3 O.out (HI.out.below a.out.bel) a.out.bel);unfold Rd at U;obtain⟨e,t,N⟩:∃ e t,G q x=(e,t):=⟨_,_,Yz⟩
  rw[N] at U
  have K:=Qf N;clear N;go_wp2_with fail
  refine U.out.mono ?_;rintro _ X ⟨rfl,V⟩;have k:=Qf ((a.out.below V).new #[Iv e,Iv t] 32);clear V a;simp only[QG]
  go_upto_region 5 with fail
  generalize X.alloc (.cells #[Iv e,Iv t] 32)=w9 at k |-;generalize X.heap.size=F8 at k |-;have f0:=Qb (k.out.box 0 _ Yz) 0 _ Yz;have f1:=Qb (k.out.box 0 _ Yz) 1 _ Yz;have L:Hid (FbS w w9 R []):=⟨k.out.bel,k.out.ge,k.out.r,fun i b hb=>by simp at hb⟩;clear k;by_cases d:e=0
  ·subst d;go_wp2
   go_roundw
   case rel =>
    refine⟨q+1,by omega,by go_num,L.out,fun j u y H=>?_⟩
    by_cases M:j<q
    ·exact A.out j u M H
    ·have:j=q:=by omega
     subst this;rw[O.out] at H
     cases H
     rw[K.out]
   case measure=>simp[intOf];omega
  ·have d9:(e != 0)=true:=by simpa using d
   have E:firstF G 0 l=(e,t):=by
    have W:=Qaw (f:=G) (j:=0) O.out (fun j u y H=>by rw[XK];exact A.out j u y H) (by rw[XK,K.out];exact d);rw[XK,K.out] at W
    exact W
   clear d;obtain⟨r0,r1,z0,z1⟩:=L.out.cells
   have D:=Qf (L.out.fin e t);go_wp2_with fail
   generalize World.setCell _ _ _=T at D |-;exact Xy (v:=.agg #[Iv e,Iv t]) (by simp[results,results73,go_sem,Qb D.out.1 0 _ Yz,Qb D.out.1 1 _ Yz]) Yz ⟨by first | rfl | rw[E],D.out.2⟩
abbrev iA (z:Qt) (zi:IP):Array Value:=#[Iv z.op,Iv z.a,Iv z.b,Iv z.c,Iv z.k,Iv z.n,.slice zi.pR z.regs.length zi.cR,.slice zi.pA z.args.length zi.cA]
abbrev fA {n:Nat}(x:MFunc n) (fp:FP):Array Value:=#[Iv x.regs,.slice fp.pP x.params.length fp.cP,.slice fp.pR x.results.length fp.cR,.slice fp.pB x.blocks.length fp.cB]
abbrev eA {n:Nat}(y:MBlock n) (bp:BP):Array Value:=#[Iv y.fin.op,Iv y.fin.a,Iv y.fin.yes.block,.slice bp.e.pYR y.fin.yes.regs.length bp.e.cYR,.slice bp.e.pYA y.fin.yes.args.length bp.e.cYA,Iv y.fin.no.block,.slice bp.e.pNR y.fin.no.regs.length bp.e.cNR,.slice bp.e.pNA y.fin.no.args.length bp.e.cNA,.slice bp.e.pA y.fin.args.length bp.e.cA]
abbrev bA {n:Nat}(y:MBlock n) (bp:BP):Array Value:=#[Iv y.regs,.slice bp.pP y.params.length bp.cP,.slice bp.pC y.code.length bp.cC,Iv y.fin.op,Iv y.fin.a,Iv y.fin.yes.block,.slice bp.e.pYR y.fin.yes.regs.length bp.e.cYR,.slice bp.e.pYA y.fin.yes.args.length bp.e.cYA,Iv y.fin.no.block,.slice bp.e.pNR y.fin.no.regs.length bp.e.cNR,.slice bp.e.pNA y.fin.no.args.length bp.e.cNA,.slice bp.e.pA y.fin.args.length bp.e.cA]
abbrev lA {n:Nat}(m:List (MFunc n)) (p:Option Addr) (c:Nat) (x:MFunc n) (fp:FP) (fi:Nat):Array Value:=#[.slice p m.length c,Iv x.regs,.slice fp.pP x.params.length fp.cP,.slice fp.pR x.results.length fp.cR,.slice fp.pB x.blocks.length fp.cB,Iv (fi:Int)]
theorem bkSizeE:(prog.info? 84).map (·.size)=some 9:=by kernel_rfl
def Qn0 (w6:World) (Bc X q N c fi bi:Nat) (p:Option Addr) (z:Qt) (zi:IP) (vf vp v0 v1:Int) (t:Tmp) (v:Value) (w:World):Prop :=
 v=(([(2,Pv Bc 0),(4,Pv X 0),(0,Iv (q:Int)),(6,Pv Bc 0),(7,Pv Bc 0),(8,.agg #[.slice p N c]),(9,.agg (iA z zi)),(10,Iv vf),(11,Pv Bc 0),(12,Pv Bc 5),(13,Iv (fi:Int)),(14,Pv Bc 18),(15,Iv (bi:Int)),(16,Iv (q:Int)),(17,Iv vp),(18,.agg #[Iv v0,Iv v1])]:List (Tmp × Value)).lookup t).getD undef
theorem kd1 {Bc:Nat}{z:Qt}{l:IP}{s u o y:Int}(F:w6.cell? ⟨Bc,0,none⟩=some (.slice p N c)) (J:w6.cell? ⟨Bc,5,none⟩=some (Iv (fi:Int))) (x:w6.cell? ⟨Bc,18,none⟩=some (Iv (bi:Int))) (f:Hid (Blk w6 X (iA z l) 78)) (O:Hid (∀ w,Below w6.heap.size w6 w->Calls prog 184 #[.agg #[.slice p N c],.agg (iA z l)] w fun e w'=>e=.returned (Iv s)/\Below w.heap.size w w')) (E:Hid (∀ w,Below w6.heap.size w6 w->Calls prog 130 #[Iv (fi:Int),Iv (bi:Int),Iv (q:Int)] w fun e w'=>e=.returned (Iv u)/\Below w.heap.size w w')) (H:Hid (∀ w,Below w6.heap.size w6 w->Calls prog 117 #[Iv s,Iv u] w fun e w'=>e=.returned (.agg #[Iv o,Iv y])/\Below w.heap.size w w')){Q:Exit->Act->World->Prop}
 (a:Act) (m:Nat) (L:a.tmps.size=m) (r:19<=m) (G:a.tmps.getD 2 undef=Pv Bc 0) (C:a.tmps.getD 4 undef=Pv X 0) (M:a.tmps.getD 0 undef=Iv (q:Int))
 (hend:∀ ops vs w',vs 18=.agg #[Iv o,Iv y]->Below w6.heap.size w6 w'->wpList prog ops Q (Qam 13 ((Tryz.f183.body.bind (Qi 1)).getD .skip)) (QM a vs [6,7,8,9,10,11,12,13,14,15,16,17,18]) w') :
 Code.wp prog ((Tryz.f183.body.bind (Qi 1)).getD .skip) Q a w6:=by
 conv=>arg 2;whnf
 refine Qg 13 (Qn0 w6 Bc X q N c fi bi p z l s u o y) (fun w=>Below w6.heap.size w6 w) (fun w w'=>Below w.heap.size w w') (outs:=[2,4,0]) (gs:=[]) (bs:=[true,true,true,true,true,true,true,true,true,true,true,true,true]) (by kernel_rfl) (n:=19) L r (by kernel_rfl) (by kernel_rfl) ?hR ?hG (QI Zr 1) ⟨G,C,M,Y⟩ ?hA ?hend
 case hR=>exact fun t v w w' _ h=>h
 case hG=>exact Y
 case hend=>exact fun ops vs w' b i=>hend ops vs w' (i 18 (by kernel_rfl)) b
 case hA =>
  repeat
   refine⟨fun a w b i K k=>?_,?_⟩
   focus first
    | obtain⟨g,-⟩:=i
      conv at g=>whnf;rhs;whnf
      have R:=Qk F b;have c1:=Qk (Qb f.out 0 _ Z) b;have V:=Qk (Qb f.out 1 _ Z) b;have U:=Qk (Qb f.out 2 _ Z) b;have P:=Qk (Qb f.out 3 _ Z) b;have S:=Qk (Qb f.out 4 _ Z) b;have c6:=Qk (Qb f.out 5 _ Z) b;have c7:=Qk (Qb f.out 6 _ Z) b;have T:=Qk (Qb f.out 7 _ Z) b;have W:=Qk J b;have I:=Qk x b;go_simp;exact k _ _ Zr b Z
    | obtain⟨g,j,-⟩:=i
      conv at g=>whnf;rhs;whnf
      conv at j=>whnf;rhs;whnf
      go_simp;refine Xm (O.out w b) ?_;rintro B A ⟨rfl,d⟩;go_simp;exact k _ _ d (b.trans (d.mono b.size)) Z
    | obtain⟨g,j,-⟩:=i
      conv at g=>whnf;rhs;whnf
      conv at j=>whnf;rhs;whnf
      go_simp;refine Xm (H.out w b) ?_;rintro B A ⟨rfl,d⟩;go_simp;exact k _ _ d (b.trans (d.mono b.size)) Z
    | obtain⟨g,j,D,-⟩:=i
      conv at g=>whnf;rhs;whnf
      conv at j=>whnf;rhs;whnf
      conv at D=>whnf;rhs;whnf
      go_simp;refine Xm (E.out w b) ?_;rintro B A ⟨rfl,d⟩;go_simp;exact k _ _ d (b.trans (d.mono b.size)) Z
  trivial
def QnT {n:Nat}(w6:World) (X fi bi:Nat) (x:MFunc n) (fp:FP) (y:MBlock n) (bp:BP) (vf vp v0 v1:Int) (t:Tmp) (v:Value) (w:World):Prop :=
 v=(([(1,Pv X 0),(26,Pv X 0),(27,Pv X 1),(28,.agg (fA x fp)),(29,Pv X 6),(30,Pv X 9),(31,.agg (eA y bp)),(32,Iv vf),(33,Pv X 0),(34,Pv X 5),(35,Iv (fi:Int)),(36,Pv X 18),(37,Iv (bi:Int)),(38,Iv vp),(39,.agg #[Iv v0,Iv v1])]:List (Tmp × Value)).lookup t).getD undef
theorem kd7 {m:List (MFunc n)}{x:MFunc n}{q:FP}{y:MBlock n}{k:BP}{u z r B:Int}(i:Hid (Blk w6 X (bkA m p c x q fi y k bi) 194)) (A:Hid (w6.rangeAt X 9 (eA y k).toList)) (J:Hid (∀ w,Below w6.heap.size w6 w->Calls prog 185 #[.agg (fA x q),.agg (eA y k)] w fun e w'=>e=.returned (Iv u)/\Below w.heap.size w w')) (E:Hid (∀ w,Below w6.heap.size w6 w->Calls prog 131 #[Iv (fi:Int),Iv (bi:Int)] w fun e w'=>e=.returned (Iv z)/\Below w.heap.size w w')) (G:Hid (∀ w,Below w6.heap.size w6 w->Calls prog 117 #[Iv u,Iv z] w fun e w'=>e=.returned (.agg #[Iv r,Iv B])/\Below w.heap.size w w')){Q:Exit->Act->World->Prop}
 (a:Act) (m:Nat) (H:a.tmps.size=m) (s:40<=m) (I:a.tmps.getD 1 undef=Pv X 0)
 (hend:∀ ops vs w',vs 39=.agg #[Iv r,Iv B]->Below w6.heap.size w6 w'->wpList prog ops Q (Qam 14 ((Tryz.f121.body.bind (Qi 7)).getD .skip)) (QM a vs [26,27,28,29,30,31,32,33,34,35,36,37,38,39]) w') :
 Code.wp prog ((Tryz.f121.body.bind (Qi 7)).getD .skip) Q a w6:=by
 conv=>arg 2;whnf
 refine Qg 14 (QnT w6 X fi bi x q y k u z r B) (fun w=>Below w6.heap.size w6 w) (fun w w'=>Below w.heap.size w w') (outs:=[1]) (gs:=[]) (bs:=[true,true,true,true,true,true,true,true,true,true,true,true,true,true]) (by kernel_rfl) (n:=40) H s (by kernel_rfl) (by kernel_rfl) ?hR ?hG (QI Zr 1) ⟨I,Y⟩ ?hA ?hend
 case hR=>exact fun t v w w' _ h=>h
 case hG=>exact Y
 case hend=>exact fun ops vs w' b g=>hend ops vs w' (g 39 (by kernel_rfl)) b
 case hA =>
  repeat
   refine⟨fun a w b g K o=>?_,?_⟩
   focus first
    | obtain⟨d,-⟩:=g
      conv at d=>whnf;rhs;whnf
      have M:=Qk (Qb i.out 1 _ Z) b;have R:=Qk (Qb i.out 2 _ Z) b;have P:=Qk (Qb i.out 3 _ Z) b;have O:=Qk (Qb i.out 4 _ Z) b;have L:=Qk (Qb i.out 5 _ Z) b;have N:=Qk (Qb i.out 18 _ Z) b;go_simp;exact o _ _ Zr b Z
    | obtain⟨d,-⟩:=g
      conv at d=>whnf;rhs;whnf
      exact wp_load_mid 84 (.tmp 30) Z X 9 d (eA y k).toList _ (fun j v F=>Qk (A.out j v F) b) underlying84 Z bkSizeE (o _ _ Zr b Z)
    | obtain⟨d,l,-⟩:=g
      conv at d=>whnf;rhs;whnf
      conv at l=>whnf;rhs;whnf
      go_simp;refine Xm (J.out w b) ?_;rintro D C ⟨rfl,f⟩;go_simp;exact o _ _ f (b.trans (f.mono b.size)) Z
    | obtain⟨d,l,-⟩:=g
      conv at d=>whnf;rhs;whnf
      conv at l=>whnf;rhs;whnf
      go_simp;refine Xm (E.out w b) ?_;rintro D C ⟨rfl,f⟩;go_simp;exact o _ _ f (b.trans (f.mono b.size)) Z
    | obtain⟨d,l,-⟩:=g
      conv at d=>whnf;rhs;whnf
      conv at l=>whnf;rhs;whnf
      go_simp;refine Xm (G.out w b) ?_;rintro D C ⟨rfl,f⟩;go_simp;exact o _ _ f (b.trans (f.mono b.size)) Z
  trivial
theorem QjF {m:List (MFunc n)}{x:MFunc n}{A:FP}{y:MBlock n}{E:BP}{Bc:Nat}{z:Qt}{h:IP}(F:q<1000000) (J:m.length<=100000) (r:fi<1000000) (s:bi<1000000) (d:Blk w Bc (bkA m p c x A fi y E bi) 194) :
 Rd prog 183 #[Iv (q:Int),.agg (iA z h),Pv Bc 0] w (QG (atF (z.form m.length) (10000*(fi:Int)+100*(bi:Int)+(q:Int)))):=by
 have f:=((Bxs.start w).new (iA z h) 78).new #[Iv 0,Iv 0] 32;rw[World.size_alloc] at f
 have f:=Qf f;have G:=Qf d;have I:Hid (∀ b:World,Calls prog 184 #[.agg #[.slice p m.length c],.agg (iA z h)] b fun e k=>e=.returned (Iv (z.form m.length))/\Below b.heap.size b k):=fun b=>QgC m.length z h p c b (by omega);have B:Hid (∀ b:World,Calls prog 130 #[Iv (fi:Int),Iv (bi:Int),Iv (q:Int)] b fun e k=>e=.returned (Iv (10000*(fi:Int)+100*(bi:Int)+(q:Int)))/\Below b.heap.size b k):=fun b=>QdS ⟨r,s,F⟩;have u:Hid (∀ b:World,Calls prog 117 #[Iv (z.form m.length),Iv (10000*(fi:Int)+100*(bi:Int)+(q:Int))] b fun e k=>e=.returned (.agg #[Iv (atF (z.form m.length) (10000*(fi:Int)+100*(bi:Int)+(q:Int))).1,Iv (atF (z.form m.length) (10000*(fi:Int)+100*(bi:Int)+(q:Int))).2])/\Below b.heap.size b k):=fun b=>Qbq;generalize D:atF (z.form m.length) (10000*(fi:Int)+100*(bi:Int)+(q:Int))=v at u |-;clear d D;unfold Rd;go_enter func183,ntmps183
 go_upto_region 1 with fail
 generalize (w.alloc (.cells (iA z h) 78)).alloc (.cells #[Iv 0,Iv 0] 32)=L at f |-;generalize w.heap.size+1=R at f |-;generalize w.heap.size=X at f |-;have g:=Qf (G.out.below f.out.bel);refine kd1 (Qb g.out 0 _ Z) (Qb g.out 5 _ Z) (Qb g.out 18 _ Z) (f.out.at (a:=[_])) (fun b _=>I.out b) (fun b _=>B.out b) (fun b _=>u.out b) _ _ Z (Xg (by kernel_rfl)) Z Z Z ?_;rintro l C H j t;have i:=Qf (f.out.below t);clear t f g;show wpList _ l _ [_] (QM _ C [6,7,8,9,10,11,12,13,14,15,16,17,18]) H;simp only[QM,Act.put,List.setIfInBounds_toArray,List.set_cons_zero,List.set_cons_succ,j]
 have M:=i.out.cell (a:=[]) 0 _ Z;have O:=i.out.cell (a:=[]) 1 _ Z;have K:=i.out.free (a:=[]) 0;have N:=i.out.free (a:=[]) 1;have o:=Qf ((i.out.set (a:=[]) 0 (Iv (v.1))).set (a:=[]) 1 (Iv (v.2)));go_wp2
 exact Xy (v:=QG v) (by simp[results,results183,go_sem,o.out.cell (a:=[]) 0 _ Z,o.out.cell (a:=[]) 1 _ Z]) Z ⟨Z,o.out.bel⟩
theorem QcW {m:List (MFunc n)}{x:MFunc n}{s:FP}{y:MBlock n}{k:BP}(G:FIn w All x s) (t:x.small) (H:BIn w All y k) (o:y.small) (hm:m.length<=100000) (A:fi<1000000) (C:bi<1000000) :
 Rd prog 121 #[.agg (bkA m p c x s fi y k bi)] w (QG (MBlock.fault m.length fi x bi y)):=by
 have r:=((Bxs.start w).new (bkA m p c x s fi y k bi) 194).new #[Iv 0,Iv 0] 32;rw[World.size_alloc] at r
 have r:=Qf r;have HB:=Qf (Xh hm (Xh A C));have I:=Qf (Xh G (Xh t (Xh H o)));have g:=Qf (MBlock.fault_eq m.length fi x bi y);have EI:=QeJ (f:=fun i z=>(Qt.form m.length z,(10000*(fi:Int)+100*(bi:Int)+(i:Int)))) (l:=y.code) (j:=0);dsimp only at EI
 have CC:Hid (∀ b,Below w.heap.size w b->Calls prog 180 #[.agg (bkA m p c x s fi y k bi)] b fun e B=>e=.returned (Iv (y.code' x bi))/\Below b.heap.size b B):=fun b bx=>Qei (G.below bx) t (H.below bx) o;have CF:Hid (∀ (S T:Int) (b:World),Calls prog 117 #[Iv S,Iv T] b fun e B=>e=.returned (.agg #[Iv (atF S T).1,Iv (atF S T).2])/\Below b.heap.size b B):=fun S T b=>Qbq;have CB:Hid (∀ b:World,Calls prog 181 #[Iv (fi:Int),Iv (bi:Int)] b fun e B=>e=.returned (Iv (10000*(fi:Int)+100*(bi:Int)+90))/\Below b.heap.size b B):=fun b=>Qe6 ⟨A,C⟩;have CA:Hid (∀ b:World,Calls prog 131 #[Iv (fi:Int),Iv (bi:Int)] b fun e B=>e=.returned (Iv (10000*(fi:Int)+100*(bi:Int)+91))/\Below b.heap.size b B):=fun b=>QdH ⟨A,C⟩;have CE:Hid (∀ b:World,Calls prog 185 #[.agg (fA x s),.agg (eA y k)] b fun e B=>e=.returned (Iv (y.fin.form x.blocks.length))/\Below b.heap.size b B):=fun b=>QgN (by obtain⟨a1,a2⟩:=o.2.2.1.1;obtain⟨a3,a4⟩:=o.2.2.1.2.1;exact⟨by omega,by omega,by omega,by omega⟩) (by have:=t.1;omega);rw[<-EI] at g
 have g:=Qf g.out;generalize MBlock.fault m.length fi x bi y=V at g |-;generalize y.code' x bi=v at g CC;clear G t H o hm A C EI;unfold Rd;go_enter func121,ntmps121
 go_upto_region 1 with fail
 generalize (w.alloc (.cells (bkA m p c x s fi y k bi) 194)).alloc (.cells #[Iv 0,Iv 0] 32)=w1 at r |-;generalize w.heap.size+1=R at r |-;generalize w.heap.size=X at r |-;have RG:=Qf (Blk.range (c:=(bkA m p c x s fi y k bi).toList) (r.out.at (a:=[_])));go_wp2_with (refine ZN Z 194 (.tmp 1) Z X 0 Z (bkA m p c x s fi y k bi).toList _ RG.out underlying194 Z bkSize ?_)
 refine(CC.out w1 r.out.bel).mono ?_
 rintro e' P ⟨rfl,b2⟩;have u:=Qf (r.out.below b2);clear b2 RG r CC;have x5:P.cell? ⟨X,5,none⟩=some (Iv (fi:Int)):=u.out.cell (a:=[_]) 5 _ Z;have x8:P.cell? ⟨X,8,none⟩=some (.slice k.pC y.code.length k.cC):=u.out.cell (a:=[_]) 8 _ Z;have L:P.cell? ⟨X,18,none⟩=some (Iv (bi:Int)):=u.out.cell (a:=[_]) 18 _ Z;by_cases K:v=0
 rotate_left
 ·have E:=Qf (g.out.trans (Xr K));have dv:(v != 0)=true:=bne_iff_ne.2 K;have HV:=Qf K;clear K g CE CA;go_wp2_with fail
  refine(CB.out P).mono ?_
  rintro e' Q ⟨rfl,M⟩;have d:=Qf (u.out.below M);clear M u x5 x8 L;go_wp2_with fail
  refine(CF.out v (10000*(fi:Int)+100*(bi:Int)+90) Q).mono ?_
  rintro e' W ⟨rfl,b4⟩;have N:=Qf (d.out.below b4);clear b4 d;have EA:Hid (atF v (10000*(fi:Int)+100*(bi:Int)+90)=V):=(Xr HV.out).trans E.out.symm;rw[EA.out]
  have r0:=N.out.cell (a:=[]) 0 _ Z;have r1:=N.out.cell (a:=[]) 1 _ Z;have z0:=N.out.free (a:=[]) 0;have z1:=N.out.free (a:=[]) 1;have q:=Qf ((N.out.set (a:=[]) 0 (Iv (V.1))).set (a:=[]) 1 (Iv (V.2)));go_wp2
  exact Xy (v:=QG V) (by simp[results,results121,go_sem,q.out.cell (a:=[]) 0 _ Z,q.out.cell (a:=[]) 1 _ Z]) Z ⟨Z,q.out.bel⟩
 replace g:=Qf (g.out.trans (Xs K));subst K;have U:=Qf (Qjy (w:=P) (Bc:=X) (fun i z=>atF (Qt.form m.length z) (10000*(fi:Int)+100*(bi:Int)+(i:Int))) (Ya I.out.2.2.1.code u.out.bel) (by have:=I.out.2.2.2.1;omega) (fun i z zi b hz hi hb=>QjF (y:=y) (by have h8:=I.out.2.2.2.1;have h9:=(Zi hz).1;omega) HB.out.1 HB.out.2.1 HB.out.2.2 ((u.out.at (a:=[_])).below hb)));unfold Rd at U;generalize firstF (fun i z=>atF (Qt.form m.length z) (10000*(fi:Int)+100*(bi:Int)+(i:Int))) 0 y.code=h at g U;go_wp2_with fail
 refine U.out.mono ?_;rintro e' Q ⟨rfl,M⟩;have d:=Qf ((u.out.below M).new #[Iv h.1,Iv h.2] 32);clear M u x5 x8 L U;go_upto_region 5 with fail
 generalize Q.alloc (.cells #[Iv h.1,Iv h.2] 32)=W at d |-;generalize Q.heap.size=F at d |-;have y0:W.cell? ⟨F,0,none⟩=some (Iv h.1):=d.out.cell (a:=[]) 0 _ Z;have y1:W.cell? ⟨F,1,none⟩=some (Iv h.2):=d.out.cell (a:=[]) 1 _ Z;by_cases J:h.1=0
 rotate_left
 ·have E:=Qf (g.out.trans (Xr J));have df:(h.1 != 0)=true:=bne_iff_ne.2 J;clear J g;have r0:=d.out.cell (a:=[_]) 0 _ Z;have r1:=d.out.cell (a:=[_]) 1 _ Z;have z0:=d.out.free (a:=[_]) 0;have z1:=d.out.free (a:=[_]) 1;have q:=Qf ((d.out.set (a:=[_]) 0 (Iv (h.1))).set (a:=[_]) 1 (Iv (h.2)));go_wp2
  exact Xy (v:=QG h) (by simp[results,results121,go_sem,q.out.cell (a:=[_]) 0 _ Z,q.out.cell (a:=[_]) 1 _ Z]) Z ⟨by rw[E.out],q.out.bel⟩
 have E:=Qf (g.out.trans (Xs J));have df:(h.1 != 0)=false:=by simpa using J
 clear J g;go_upto_region 7 with fail
 clear y0 y1;have HX:=Qf (d.out.at (a:=[_,_]));refine kd7 HX (fun j v hj=>by have h8:=(Blk.range (c:=(bkA m p c x s fi y k bi).toList) HX.out) (9+j) v (by rcases j with _ | _ | _ | _ | _ | _ | _ | _ | _ | j<;>first | exact hj | simp at hj);rwa [XK] at h8) (fun b _=>CE.out b) (fun b _=>CA.out b) (fun b _=>CF.out _ _ b) _ _ Z (Xg (by kernel_rfl)) Z ?_;rintro aa vs w5 D b5;have O:=Qf (d.out.below b5);clear b5 d HX;rw[<-E.out] at D
 show wpList _ aa _ [_] (QM _ vs [26,27,28,29,30,31,32,33,34,35,36,37,38,39]) w5;simp only[QM,Act.put,List.setIfInBounds_toArray,List.set_cons_zero,List.set_cons_succ,D]
 have r0:=O.out.cell (a:=[_]) 0 _ Z;have r1:=O.out.cell (a:=[_]) 1 _ Z;have z0:=O.out.free (a:=[_]) 0;have z1:=O.out.free (a:=[_]) 1;have q:=Qf ((O.out.set (a:=[_]) 0 (Iv (V.1))).set (a:=[_]) 1 (Iv (V.2)));go_wp2
 exact Xy (v:=QG V) (by simp[results,results121,go_sem,q.out.cell (a:=[_]) 0 _ Z,q.out.cell (a:=[_]) 1 _ Z]) Z ⟨Z,q.out.bel⟩
theorem Qju {m:List (MFunc n)}{x:MFunc n}{g:FP}{y:MBlock n}{f:BP}(i:FIn w All x g) (h:x.small) (j:BIn w All y f) (r:y.small){Bc:Nat}(u:m.length<=100000) (o:fi<1000000) (q:bi<1000000) (d:Blk w Bc (lA m p c x g fi) 139) :
 Rd prog 120 #[Iv (bi:Int),.agg (bA y f),Pv Bc 0] w (QG (MBlock.fault m.length fi x bi y)):=by
 have b:=((Bxs.start w).new (bA y f) 86).new #[Iv 0,Iv 0] 32;rw[World.size_alloc] at b
 have b:=Qf b;have E:=Qf d;have t:Hid (∀ l,Below w.heap.size w l->Calls prog 121 #[.agg (bkA m p c x g fi y f bi)] l fun e F=>e=.returned (QG (MBlock.fault m.length fi x bi y))/\Below l.heap.size l F):=fun l C=>QcW (i.below C) h (j.below C) r u o q;generalize MBlock.fault m.length fi x bi y=V at t |-;clear i h j r u o q d;unfold Rd;go_enter func120,ntmps120
 go_upto_region 1 with fail
 generalize (w.alloc (.cells (bA y f) 86)).alloc (.cells #[Iv 0,Iv 0] 32)=D at b |-;generalize w.heap.size+1=R at b |-;generalize w.heap.size=X at b |-;have z:=Qf (Blk.range (c:=(bA y f).toList) (b.out.at (a:=[_])));have A:=Qf (Blk.range (c:=(lA m p c x g fi).toList) (E.out.below b.out.bel));go_wp2_with (first | refine ZN Z 139 (.tmp 2) Z Bc 0 Z (lA m p c x g fi).toList _ A.out underlying139 Z (by kernel_rfl) ?_ | refine ZN Z 86 (.tmp 4) Z X 0 Z (bA y f).toList _ z.out underlying86 Z pSizeB ?_)
 refine(t.out D b.out.bel).mono ?_
 rintro J H ⟨rfl,B⟩;have k:=Qf (b.out.below B);clear B z A b t;have I:=k.out.cell (a:=[]) 0 _ Z;have L:=k.out.cell (a:=[]) 1 _ Z;have G:=k.out.free (a:=[]) 0;have K:=k.out.free (a:=[]) 1;have s:=Qf ((k.out.set (a:=[]) 0 (Iv (V.1))).set (a:=[]) 1 (Iv (V.2)));go_wp2
 exact Xy (v:=QG V) (by simp[results,results120,go_sem,s.out.cell (a:=[]) 0 _ Z,s.out.cell (a:=[]) 1 _ Z]) Z ⟨Z,s.out.bel⟩
theorem Qdu {m:List (MFunc n)}{x:MFunc n}{j:FP}(o:FIn w All x j) (l:x.small) (I:m.length<=100000) (s:fi<1000000) :
 Rd prog 75 #[.agg (lA m p c x j fi)] w (QG (MFunc.fault m.length fi x)):=by
 have h:=((Bxs.start w).new (lA m p c x j fi) 139).new #[Iv 0,Iv 0] 32;rw[World.size_alloc] at h
 have h:=Qf h;have J:=Qf (Xh I s);have f:=Qf (Xh o l);have q:=Qf (MFunc.fault_eq m.length fi x);have H:Hid (∀ d,Below w.heap.size w d->Calls prog 116 #[.agg (lA m p c x j fi)] d fun e A=>e=.returned (Iv (x.code fi))/\Below d.heap.size d A):=fun d bx=>Qfk (o.below bx) l;have CF:Hid (∀ (C D:Int) (d:World),Calls prog 117 #[Iv C,Iv D] d fun e A=>e=.returned (.agg #[Iv (atF C D).1,Iv (atF C D).2])/\Below d.heap.size d A):=fun C D d=>Qbq;have T:Hid (∀ d:World,Calls prog 118 #[Iv (fi:Int)] d fun e A=>e=.returned (Iv (10000*(fi:Int)+9999))/\Below d.heap.size d A):=fun d=>Qfs s;generalize MFunc.fault m.length fi x=V at q |-;generalize x.code fi=v at q H;clear o l I s;unfold Rd;go_enter func75,ntmps75
 go_upto_region 1 with fail
 generalize (w.alloc (.cells (lA m p c x j fi) 139)).alloc (.cells #[Iv 0,Iv 0] 32)=W at h |-;generalize w.heap.size+1=R at h |-;generalize w.heap.size=X at h |-;have L:=Qf (Blk.range (c:=(lA m p c x j fi).toList) (h.out.at (a:=[_])));go_wp2_with (refine ZN Z 139 (.tmp 1) Z X 0 Z (lA m p c x j fi).toList _ L.out underlying139 Z (by kernel_rfl) ?_)
 refine(H.out W h.out.bel).mono ?_
 rintro G B ⟨rfl,Q⟩;have g:=Qf (h.out.below Q);clear Q L h H;have O:B.cell? ⟨X,4,none⟩=some (.slice j.pB x.blocks.length j.cB):=g.out.cell (a:=[_]) 4 _ Z;have P:B.cell? ⟨X,5,none⟩=some (Iv (fi:Int)):=g.out.cell (a:=[_]) 5 _ Z;by_cases t:v=0
 rotate_left
 ·have E:=Qf (q.out.trans (Xr t));have dv:(v != 0)=true:=bne_iff_ne.2 t;have HV:=Qf t;clear t q;go_wp2_with fail
  refine(T.out B).mono ?_
  rintro G N ⟨rfl,u⟩;have k:=Qf (g.out.below u);clear u g O P;go_wp2_with fail
  refine(CF.out v (10000*(fi:Int)+9999) N).mono ?_
  rintro G w4 ⟨rfl,S⟩;have z:=Qf (k.out.below S);clear S k;have EA:Hid (atF v (10000*(fi:Int)+9999)=V):=(Xr HV.out).trans E.out.symm;rw[EA.out]
  have r0:=z.out.cell (a:=[]) 0 _ Z;have r1:=z.out.cell (a:=[]) 1 _ Z;have U:=z.out.free (a:=[]) 0;have z1:=z.out.free (a:=[]) 1;have r:=Qf ((z.out.set (a:=[]) 0 (Iv (V.1))).set (a:=[]) 1 (Iv (V.2)));go_wp2
  exact Xy (v:=QG V) (by simp[results,results75,go_sem,r.out.cell (a:=[]) 0 _ Z,r.out.cell (a:=[]) 1 _ Z]) Z ⟨Z,r.out.bel⟩
 replace q:=Qf (q.out.trans (Xs t));subst t;have F:=Qf (QfL (w:=B) (Bc:=X) (fun b y=>MBlock.fault m.length fi x b y) (Ya f.out.1.blocks g.out.bel) (by have:=f.out.2.1;omega) (fun i y bp d M hi K=>Qju (f.out.1.below (g.out.bel.trans (K.mono g.out.bel.size))) f.out.2 hi (f.out.2.2.2.2 y (Zm M)) J.out.1 J.out.2 (by have h8:=f.out.2.1;have h9:=(Zi M).1;omega) ((g.out.at (a:=[_])).below K)));unfold Rd at F;rw[<-q.out] at F
 go_wp2_with fail
 refine F.out.mono ?_;rintro G N ⟨rfl,u⟩;have k:=Qf (g.out.below u);clear u g O P F;have r0:=k.out.cell (a:=[]) 0 _ Z;have r1:=k.out.cell (a:=[]) 1 _ Z;have U:=k.out.free (a:=[]) 0;have z1:=k.out.free (a:=[]) 1;have r:=Qf ((k.out.set (a:=[]) 0 (Iv (V.1))).set (a:=[]) 1 (Iv (V.2)));go_wp2
 exact Xy (v:=QG V) (by simp[results,results75,go_sem,r.out.cell (a:=[]) 0 _ Z,r.out.cell (a:=[]) 1 _ Z]) Z ⟨Z,r.out.bel⟩
theorem Qii {m:List (MFunc n)}{x:MFunc n}{f:FP}(h:FIn w All x f) (g:x.small){Bc:Nat}(q:m.length<=100000) (k:fi<1000000) (d:Blk w Bc #[.slice p m.length c] 24) :
 Rd prog 74 #[Iv (fi:Int),.agg (fA x f),Pv Bc 0] w (QG (MFunc.fault m.length fi x)):=by
 have b:=((Bxs.start w).new (fA x f) 89).new #[Iv 0,Iv 0] 32;rw[World.size_alloc] at b
 have b:=Qf b;have u:=Qf d;have o:Hid (∀ j,Below w.heap.size w j->Calls prog 75 #[.agg (lA m p c x f fi)] j fun e y=>e=.returned (QG (MFunc.fault m.length fi x))/\Below j.heap.size j y):=fun j z=>Qdu (h.below z) g q k;generalize MFunc.fault m.length fi x=V at o |-;clear h g q k d;unfold Rd;go_enter func74,ntmps74
 go_upto_region 1 with fail
 generalize (w.alloc (.cells (fA x f) 89)).alloc (.cells #[Iv 0,Iv 0] 32)=t at b |-;generalize w.heap.size+1=R at b |-;generalize w.heap.size=X at b |-;have A:=Qb (u.out.below b.out.bel) 0 _ Z;have r:=Qf (Blk.range (c:=(fA x f).toList) (b.out.at (a:=[_])));go_wp2_with (refine ZN Z 89 (.tmp 4) Z X 0 Z (fA x f).toList _ r.out underlying89 Z (by kernel_rfl) ?_)
 refine(o.out t b.out.bel).mono ?_
 rintro E C ⟨rfl,s⟩;have i:=Qf (b.out.below s);clear s r b o A;have D:=i.out.cell (a:=[]) 0 _ Z;have G:=i.out.cell (a:=[]) 1 _ Z;have B:=i.out.free (a:=[]) 0;have F:=i.out.free (a:=[]) 1;have l:=Qf ((i.out.set (a:=[]) 0 (Iv (V.1))).set (a:=[]) 1 (Iv (V.2)));go_wp2
 exact Xy (v:=QG V) (by simp[results,results74,go_sem,l.out.cell (a:=[]) 0 _ Z,l.out.cell (a:=[]) 1 _ Z]) Z ⟨Z,l.out.bel⟩
theorem Qb9 {m:List (MFunc n)}(j:(QaN n).In w All m [.slice p m.length c]) (e:Qbf m) :
 Rd prog 44 #[.agg #[.slice p m.length c]] w (QG (modFault m)):=by
 have b:=((Bxs.start w).new #[.slice p m.length c] 24).new #[Iv 0,Iv 0] 32;rw[World.size_alloc] at b
 have b:=Qf b;have y:=Qf j;have o:=Qf e;have g:Hid (modFault m=if m.length<1\/8<m.length then (2,-1) else firstF (fun f x=>MFunc.fault m.length f x) 0 m):=rfl;have z:=e.1;generalize modFault m=V at g |-;clear j e;unfold Rd;go_enter func44,ntmps44
 go_upto_region 1 with fail
 generalize (w.alloc (.cells #[.slice p m.length c] 24)).alloc (.cells #[Iv 0,Iv 0] 32)=s at b |-;generalize w.heap.size+1=R at b |-;generalize w.heap.size=X at b |-;have A:s.cell? ⟨X,0,none⟩=some (.slice p m.length c):=b.out.cell (a:=[_]) 0 _ Z;by_cases k:m.length<1\/8<m.length
 ·have E:=Qf (g.out.trans (Xs k));clear g;have D:=b.out.cell (a:=[]) 0 _ Z;have I:=b.out.cell (a:=[]) 1 _ Z;have B:=b.out.free (a:=[]) 0;have G:=b.out.free (a:=[]) 1;by_cases u:m.length<1
  ·have r:decide ((m.length:Int)<1)=true:=Xt (by omega);clear u k;have d:=Qf ((b.out.set (a:=[]) 0 (Iv (2))).set (a:=[]) 1 (Iv (-1)));go_wp2
   exact Xy (v:=QG V) (by simp[results,results44,go_sem,d.out.cell (a:=[]) 0 _ Z,d.out.cell (a:=[]) 1 _ Z,E.out]) Z ⟨Z,d.out.bel⟩
  ·have r:decide ((m.length:Int)<1)=false:=Xu (by omega);have F:decide ((m.length:Int)>8)=true:=Xt (by omega);clear u k;have d:=Qf ((b.out.set (a:=[]) 0 (Iv (2))).set (a:=[]) 1 (Iv (-1)));go_wp2
   exact Xy (v:=QG V) (by simp[results,results44,go_sem,d.out.cell (a:=[]) 0 _ Z,d.out.cell (a:=[]) 1 _ Z,E.out]) Z ⟨Z,d.out.bel⟩
 replace g:=Qf (g.out.trans (Xr k));have r:decide ((m.length:Int)<1)=false:=Xu (by omega);have F:decide ((m.length:Int)>8)=false:=Xu (by omega);clear k;have l:=Qf (QgR (w:=s) (Bc:=X) (fun f x=>MFunc.fault m.length f x) (Ya y.out b.out.bel) (by omega) (fun i x J O t H C=>Qii H (o.out.2 x (Zm t)) o.out.1 (by have M:=o.out.1;have K:=(Zi t).1;omega) ((b.out.at (a:=[_])).below C)));unfold Rd at l;rw[<-g.out] at l
 go_wp2_with fail
 refine l.out.mono ?_;rintro N L ⟨rfl,q⟩;have h:=Qf (b.out.below q);clear q b A l;have D:=h.out.cell (a:=[]) 0 _ Z;have I:=h.out.cell (a:=[]) 1 _ Z;have B:=h.out.free (a:=[]) 0;have G:=h.out.free (a:=[]) 1;have d:=Qf ((h.out.set (a:=[]) 0 (Iv (V.1))).set (a:=[]) 1 (Iv (V.2)));go_wp2
 exact Xy (v:=QG V) (by simp[results,results44,go_sem,d.out.cell (a:=[]) 0 _ Z,d.out.cell (a:=[]) 1 _ Z]) Z ⟨Z,d.out.bel⟩
def Qcx (w:World) (a:Option Addr) (l:List Int):Prop:=∀ i x,l[i]?=some x->∃ g o,a=some ⟨g,o,none⟩/\w.cell? ⟨g,o+i,none⟩=some (Iv x)
theorem Qcx.below (h:Qcx w a l) (b:Below w.heap.size w w'):Qcx w' a l:=fun i x c=>by
 obtain⟨g,o,e,d⟩:=h i x c
 exact⟨g,o,e,Qk d b⟩
theorem Qh6.lg {lo:Nat}(h:Qh6 lo l (.slice a n c) w):n=l.length/\Qcx w a l:=by
 obtain⟨u,m,e,t,j,r⟩:=h
 simp only[Value.slice.injEq] at e
 obtain⟨rfl,rfl,rfl⟩:=e
 refine⟨Z,fun i x b=>?_⟩
 have p:=(Zi b).1;rcases j.2 with ⟨e,q⟩|⟨g,s,f,e,-,k,-,-,-,o⟩
 ·omega
 ·simp only[Value.slice.injEq] at e
  have d:(l.map (Value.int .i64))[i]?=some (Iv x):=by simp[b]
  rw[<-o,XR,Xs (by omega)] at d
  exact⟨g,0,e.1,Qb k _ _ (by rw[XK];simpa using d)⟩
theorem Qcx.nil (w:World) (a:Option Addr):Qcx w a []:=fun i x b=>by simp at b
theorem QfG {b:Option Addr}(j:l.length=N) (t:N<=100000) (n:Qcx w a l) (p:Qcx w b l) :
 Calls prog 28 #[.slice a N c,.slice b N d] w fun e w'=>e=.returned (.bool true)/\∃ m,w'=w.drewN m:=by
 have v:=Qc n;have s:=Qc p;have q:Hid (l.length=N):=j;clear n p j;go_enter func28,ntmps28
 go_wp2
 go_loopw [5] (fun i wr=>∃ k m:Nat,k<=N/\i=Iv k/\wr=w.drewN m) (fun i _=>N - (intOf i).toNat)
 case atStart=>exact⟨0,0,Xb _,Z,Z⟩
 case round =>
  obtain⟨k,m,C,rfl,rfl⟩:=hrel
  by_cases h:k<N
  ·have f:l[k]?=some (l[k]'(by rw[q.out];exact h)):=Zg _;generalize l[k]'(by rw[q.out];exact h)=y at f;obtain⟨g,o,rfl,A⟩:=v.out k y f
   obtain⟨B,z,rfl,x⟩:=s.out k y f
   have r:(k:Int)<N:=by omega
   have u:(0:Int)<=k:=by omega
   clear f;go_wp2_with fail
   go_quiet (fail)
   go_wp2
   go_roundw
   case rel=>exact⟨k+1,_,by omega,by go_num,Z⟩
   case measure=>simp[intOf];omega
  ·go_wp2
   go_ret;exact⟨Z,_,Z⟩
theorem Qch {b:Option Addr}(g:l.length=N) (f:N<=100000) (h:Qcx w a l) (j:Qcx w b l) :
 Calls prog 28 #[.slice a N c,.slice b N d] w fun e w'=>e=.returned (.bool true)/\Below w.heap.size w w' :=
 (QfG g f h j).mono fun e w' ⟨k,m,i⟩=>⟨k,by rw[i];exact QI Zr _⟩
theorem Qb6 {fin fuel:Int}{r:List Int}{a' b g:Option Addr}{c' j:Nat}(H:l.length<=100000) (J:r.length<=100000) (B:Qcx w a l) (z:Qcx w a' l) (x:Qcx w b r) (v:Qcx w g r) :
 Calls prog 26 #[.agg #[Iv fin,.slice a l.length c,.slice b r.length d,Iv fuel],.agg #[Iv fin,.slice a' l.length c',.slice g r.length j,Iv fuel]] w fun e w'=>e=.returned (.bool true)/\Below w.heap.size w w':=by
 have y:Hid (∀ f,Below w.heap.size w f->Calls prog 28 #[.slice a l.length c,.slice a' l.length c'] f fun e w'=>e=.returned (.bool true)/\Below f.heap.size f w'):=fun f n=>Qch Z H (B.below n) (z.below n);have A:Hid (∀ f,Below w.heap.size w f->Calls prog 28 #[.slice b r.length d,.slice g r.length j] f fun e w'=>e=.returned (.bool true)/\Below f.heap.size f w'):=fun f n=>Qch Z J (x.below n) (v.below n);have m:=Qc (QjV w (.cells #[Iv fin,.slice a l.length c,.slice b r.length d,Iv fuel] 44) (.cells #[Iv fin,.slice a' l.length c',.slice g r.length j,Iv fuel] 44));clear B z x v;go_enter func26,ntmps26
 go_upto_region 1 with fail
 have h:=Qnz w #[Iv fin,.slice a l.length c,.slice b r.length d,Iv fuel] 44 (.cells #[Iv fin,.slice a' l.length c',.slice g r.length j,Iv fuel] 44);have i:=QmI w (.cells #[Iv fin,.slice a l.length c,.slice b r.length d,Iv fuel] 44) #[Iv fin,.slice a' l.length c',.slice g r.length j,Iv fuel] 44;generalize (w.alloc (.cells #[Iv fin,.slice a l.length c,.slice b r.length d,Iv fuel] 44)).alloc (.cells #[Iv fin,.slice a' l.length c',.slice g r.length j,Iv fuel] 44)=F at m h i |-;generalize w.heap.size+1=Y at i |-;generalize w.heap.size=X at h |-;have C:=Qb h 0 _ Z;have G:=Qb h 1 _ Z;have u:=Qb h 2 _ Z;have s:=Qb h 3 _ Z;have K:=Qb i 0 _ Z;have D:=Qb i 1 _ Z;have t:=Qb i 2 _ Z;have q:=Qb i 3 _ Z;clear h i;go_wp2_with fail
 refine(y.out F m.out).mono ?_
 rintro L I ⟨rfl,k⟩;have p:=Qc (m.out.trans (k.mono m.out.size));have u:=Qk u k;have t:=Qk t k;have s:=Qk s k;have q:=Qk q k;clear y C G K D k m;go_wp2_with fail
 refine(A.out I p.out).mono ?_
 rintro M N ⟨rfl,o⟩;have E:=Qc (p.out.trans (o.mono p.out.size));have s:=Qk s o;have q:=Qk q o;clear A u t o p;go_wp2
 go_ret;exact⟨Z,E.out⟩
abbrev Qi7 (c a:Int):Value:=.tuple #[.agg #[Iv 0,Nv,Nv,Iv 0],Qbw c a]
def Qd4 (c0 a0:Int) (n:Nat) (fu pg:Int) (c a:Int):Prop:=(c0≠0/\c=c0/\a=a0)\/(c0=0/\(200<n\/fu<0\/20000<fu\/pg<0\/64<pg)/\c=1/\a=-1)
theorem Qd4.ne {c0 a0:Int}{fu pg c a:Int}(h:Qd4 c0 a0 n fu pg c a):c≠0:=by
 rcases h with ⟨h,rfl,-⟩|⟨-,-,rfl,-⟩
 ·exact h
 ·decide
theorem QjC {ml:Nat}{fu pg c a c0 a0:Int}(H:∀ wx,Below w.heap.size w wx->Calls prog 66 #[.agg #[.slice pm ml cm]] wx fun e w'=>e=.returned (Qbw c0 a0)/\Below wx.heap.size wx w') (o:n<1152921504606846976) (M:Qd4 c0 a0 n fu pg c a) :
 Calls prog 32 #[.agg #[.slice pm ml cm],.slice pi n ci,Iv fu,Iv pg] w fun e w'=>e=.returned (.tuple #[.pointer none,Qbw c a])/\Below w.heap.size w w':=by
 have p:=Qc H;have t:=Qc M;have i:=Qc ((((Bxs.start w).new #[.slice pm ml cm] 24)).new #[Iv 0,Iv 0] 32);clear H M o;go_enter func32,ntmps32
 go_upto_region 1 with fail
 rw[World.size_alloc] at i
 have A:=Qc (p.out _ i.out.bel);generalize (w.alloc (.cells #[.slice pm ml cm] 24)).alloc (.cells #[Iv 0,Iv 0] 32)=W at i A |-;generalize w.heap.size+1=Y at i |-;generalize w.heap.size=X at i |-;have S:W.cell? ⟨X,0,none⟩=some (.slice pm ml cm):=i.out.cell (a:=[_]) 0 _ Z;go_upto_region 2 with (go_at_call 66;refine A.out.mono ?_;rintro e' O ⟨rfl,I⟩)
 have d:=Qc ((i.out.below I).new #[Iv c0,Iv a0] 32);clear A I i S p;generalize O.alloc (.cells #[Iv c0,Iv a0] 32)=j at d |-;generalize O.heap.size=F at d |-;have u:j.cell? ⟨F,0,none⟩=some (Iv c0):=d.out.cell (a:=[]) 0 _ Z;have z:j.cell? ⟨F,1,none⟩=some (Iv a0):=d.out.cell (a:=[]) 1 _ Z;have Q:=d.out.cell (a:=[_]) 0 _ Z;have J:=d.out.cell (a:=[_]) 1 _ Z;have K:=d.out.free (a:=[_]) 0;have P:=d.out.free (a:=[_]) 1
 have l:Hid (∀ c a:Int,(((j.setCell ⟨Y,0,none⟩ (Iv c)).setCell ⟨Y,1,none⟩ (Iv a)).cell? ⟨Y,0,none⟩=some (Iv c)/\((j.setCell ⟨Y,0,none⟩ (Iv c)).setCell ⟨Y,1,none⟩ (Iv a)).cell? ⟨Y,1,none⟩=some (Iv a))/\Below w.heap.size w ((j.setCell ⟨Y,0,none⟩ (Iv c)).setCell ⟨Y,1,none⟩ (Iv a))):=fun c a=>by
  have k:=(d.out.set (a:=[_]) 0 (Iv c)).set (a:=[_]) 1 (Iv a);exact⟨⟨k.cell (a:=[_]) 0 _ Z,k.cell (a:=[_]) 1 _ Z⟩,k.bel⟩
 by_cases g:c0=0
 ·subst g
  have E:Hid ((200<n\/fu<0\/20000<fu\/pg<0\/64<pg)/\c=1/\a=-1):=by
   rcases t.out with ⟨b,-⟩|⟨-,b⟩
   ·exact absurd Z b
   ·exact b
  have D:=Qc (l.out 1 (-1));clear t;by_cases o:200<n
  ·have T:decide ((n:Int)>200)=true:=Xt (by omega);clear l o;go_upto_region 5 with fail
   go_wp2
   exact Xy (v:=.tuple #[.pointer none,Qbw c a]) (by rw[E.out.2.1,E.out.2.2];simp[results,results32,go_sem,D.out.1.1,D.out.1.2,Qbw]) Z ⟨Z,D.out.2⟩
  have T:decide ((n:Int)>200)=false:=Xu (by omega);by_cases r:fu<0
  ·have d2:decide (fu<0)=true:=Xt r;clear l o r;go_upto_region 5 with fail
   go_wp2
   exact Xy (v:=.tuple #[.pointer none,Qbw c a]) (by rw[E.out.2.1,E.out.2.2];simp[results,results32,go_sem,D.out.1.1,D.out.1.2,Qbw]) Z ⟨Z,D.out.2⟩
  have d2:decide (fu<0)=false:=Xu r;by_cases b:20000<fu
  ·have d3:decide (fu>20000)=true:=Xt b;clear l o r b;go_upto_region 5 with fail
   go_wp2
   exact Xy (v:=.tuple #[.pointer none,Qbw c a]) (by rw[E.out.2.1,E.out.2.2];simp[results,results32,go_sem,D.out.1.1,D.out.1.2,Qbw]) Z ⟨Z,D.out.2⟩
  have d3:decide (fu>20000)=false:=Xu b;have N:=Qc (Qma j pg (by have:=E.out.1;omega));clear o r b D;go_upto_region 7 with (go_at_call 67;refine N.out.mono ?_;rintro e' R ⟨rfl,L⟩)
  have h:=Qc ((d.out.below L).new #[Iv 1,Iv (-1)] 32);clear L u z Q J K P l N d;generalize R.alloc (.cells #[Iv 1,Iv (-1)] 32)=m at h |-;generalize R.heap.size=G at h |-;have k0:m.cell? ⟨G,0,none⟩=some (Iv 1):=h.out.cell (a:=[]) 0 _ Z;have k1:m.cell? ⟨G,1,none⟩=some (Iv (-1)):=h.out.cell (a:=[]) 1 _ Z;have Q:=h.out.cell (a:=[_,_]) 0 _ Z;have J:=h.out.cell (a:=[_,_]) 1 _ Z;have K:=h.out.free (a:=[_,_]) 0;have P:=h.out.free (a:=[_,_]) 1
  have U:Hid ((((m.setCell ⟨Y,0,none⟩ (Iv 1)).setCell ⟨Y,1,none⟩ (Iv (-1))).cell? ⟨Y,0,none⟩=some (Iv 1)/\((m.setCell ⟨Y,0,none⟩ (Iv 1)).setCell ⟨Y,1,none⟩ (Iv (-1))).cell? ⟨Y,1,none⟩=some (Iv (-1)))/\Below w.heap.size w ((m.setCell ⟨Y,0,none⟩ (Iv 1)).setCell ⟨Y,1,none⟩ (Iv (-1)))) :=
   have k:=(h.out.set (a:=[_,_]) 0 (Iv 1)).set (a:=[_,_]) 1 (Iv (-1));show _ from ⟨⟨k.cell (a:=[_,_]) 0 _ Z,k.cell (a:=[_,_]) 1 _ Z⟩,k.bel⟩
  go_upto_region 8 with fail
  go_region
  all_goals
   go_wp2_with fail
   have s:=U.out;generalize (m.setCell ⟨Y,0,none⟩ (Iv 1)).setCell ⟨Y,1,none⟩ (Iv (-1))=q at s |-;obtain⟨⟨x,y⟩,f⟩:=s
   have C:q.drew.cell? ⟨Y,0,none⟩=some (Iv 1):=x;have B:q.drew.cell? ⟨Y,1,none⟩=some (Iv (-1)):=y;exact Xy (v:=.tuple #[.pointer none,Qbw c a]) (by rw[E.out.2.1,E.out.2.2];simp[results,results32,go_sem,C,B,Qbw]) Z ⟨Z,⟨f.os,f.tape,f.output,f.size,f.block⟩⟩
 ·have d0:(c0 != 0)=true:=bne_iff_ne.2 g
  have E:Hid (c=c0/\a=a0):=by
   rcases t.out with ⟨-,b,V⟩|⟨b,-⟩
   ·exact⟨b,V⟩
   ·exact absurd b g
  have D:=Qc (l.out c0 a0);clear g l t;go_upto_region 3 with fail
  go_region
  all_goals
   go_wp2_with fail
   have s:=D.out;generalize (j.setCell ⟨Y,0,none⟩ (Iv c0)).setCell ⟨Y,1,none⟩ (Iv a0)=q at s |-;obtain⟨⟨x,y⟩,f⟩:=s
   have C:q.drew.cell? ⟨Y,0,none⟩=some (Iv c0):=x;have B:q.drew.cell? ⟨Y,1,none⟩=some (Iv a0):=y;exact Xy (v:=.tuple #[.pointer none,Qbw c a]) (by rw[E.out.1,E.out.2];simp[results,results32,go_sem,C,B,Qbw]) Z ⟨Z,⟨f.os,f.tape,f.output,f.size,f.block⟩⟩
theorem QfO {ml:Nat}{fu pg c a c0 a0:Int}(p:∀ wx,Below w.heap.size w wx->Calls prog 66 #[.agg #[.slice pm ml cm]] wx fun e w'=>e=.returned (Qbw c0 a0)/\Below wx.heap.size wx w') (u:n<1152921504606846976) (j:Qd4 c0 a0 n fu pg c a) :
 Calls prog 30 #[.agg #[.slice pm ml cm],.slice pi n ci,Iv fu,Iv pg] w fun e w'=>e=.returned (Qi7 c a)/\Below w.heap.size w w':=by
 have d:=((((Bxs.start w).new #[.slice pm ml cm] 24)).new #[Iv 0,Nv,Nv,Iv 0] 44).new #[Iv 0,Iv 0] 32;rw[World.size_alloc,World.size_alloc] at d
 have d:=Qc d;have k:Hid (∀ wx,Below w.heap.size w wx->Calls prog 32 #[.agg #[.slice pm ml cm],.slice pi n ci,Iv fu,Iv pg] wx fun e w'=>e=.returned (.tuple #[.pointer none,Qbw c a])/\Below wx.heap.size wx w'):=fun wx y=>QjC (fun A m=>p A (y.trans (m.mono y.size))) u j;have V:(c != 0)=true:=bne_iff_ne.2 j.ne;have L:decide (c=0)=false:=Xu j.ne;clear p u j;go_enter func30,ntmps30
 go_upto_region 1 with fail
 generalize ((w.alloc (.cells #[.slice pm ml cm] 24)).alloc (.cells #[Iv 0,Nv,Nv,Iv 0] 44)).alloc (.cells #[Iv 0,Iv 0] 32)=s at d |-;generalize w.heap.size+1+1=g at d |-;generalize w.heap.size+1=f at d |-;generalize w.heap.size=X at d |-;have k:=Qc (k.out s d.out.bel);have z:s.cell? ⟨X,0,none⟩=some (.slice pm ml cm):=d.out.cell (a:=[_,_]) 0 _ Z;go_upto_region 2 with (go_at_call 32;refine k.out.mono ?_;rintro T q ⟨rfl,x⟩)
 have b:=Qc ((d.out.below x).new #[Iv c,Iv a] 32);clear d k z x;generalize q.alloc (.cells #[Iv c,Iv a] 32)=o at b |-;generalize q.heap.size=F at b |-;have c0:o.cell? ⟨F,0,none⟩=some (Iv c):=b.out.cell (a:=[]) 0 _ Z;have U:o.cell? ⟨F,1,none⟩=some (Iv a):=b.out.cell (a:=[]) 1 _ Z;have S:=b.out.cell (a:=[_,_]) 0 _ Z;have r1:=b.out.cell (a:=[_,_]) 1 _ Z;have M:=b.out.cell (a:=[_,_]) 2 _ Z;have P:=b.out.cell (a:=[_,_]) 3 _ Z;have O:=b.out.free (a:=[_,_]) 0;have W:=b.out.free (a:=[_,_]) 1;have R:=b.out.free (a:=[_,_]) 2;have Q:=b.out.free (a:=[_,_]) 3;have s0:=b.out.cell (a:=[_]) 0 _ Z;have K:=b.out.cell (a:=[_]) 1 _ Z;have y0:=b.out.free (a:=[_]) 0;have N:=b.out.free (a:=[_]) 1;have l:¬ f=g:=fun e=>by have:=b.out.nd;simp[e] at this
 have t:¬ g=f:=fun e=>l e.symm;have B:¬ F=f:=fun e=>by have:=b.out.nd;simp[e] at this
 have D:¬ F=g:=fun e=>by have:=b.out.nd;simp[e] at this
 go_upto_region 3 with fail
 go_region
 all_goals
  go_wp2_with fail
  have r:=(((((b.out.set (a:=[_,_]) 0 (Iv 0)).set (a:=[_,_]) 1 (Nv)).set (a:=[_,_]) 2 (Nv)).set (a:=[_,_]) 3 (Iv 0)).set (a:=[_]) 0 (Iv c)).set (a:=[_]) 1 (Iv a);generalize ((((((o.setCell ⟨f,0,none⟩ (Iv 0)).setCell ⟨f,1,none⟩ (Nv)).setCell ⟨f,2,none⟩ (Nv)).setCell ⟨f,3,none⟩ (Iv 0)).setCell ⟨g,0,none⟩ (Iv c)).setCell ⟨g,1,none⟩ (Iv a))=i at r |-;have h:=r.drew;have J:i.drew.cell? ⟨f,0,none⟩=some (Iv 0):=h.cell (a:=[_,_]) 0 _ Z;have G:i.drew.cell? ⟨f,1,none⟩=some (Nv):=h.cell (a:=[_,_]) 1 _ Z;have E:i.drew.cell? ⟨f,2,none⟩=some (Nv):=h.cell (a:=[_,_]) 2 _ Z;have I:i.drew.cell? ⟨f,3,none⟩=some (Iv 0):=h.cell (a:=[_,_]) 3 _ Z;have C:i.drew.cell? ⟨g,0,none⟩=some (Iv c):=h.cell (a:=[_]) 0 _ Z;have H:i.drew.cell? ⟨g,1,none⟩=some (Iv a):=h.cell (a:=[_]) 1 _ Z;exact Xy (v:=Qi7 c a) (by simp[results,results30,go_sem,J,G,E,I,C,H,Qbw]) Z ⟨Z,h.bel⟩
theorem Lay.flat {α:Type}{A:Lay α}{o:Nat}{l:List α}(h:A.list.In w O l [.slice (some ⟨g,o,none⟩) n c]) (d:∀ (x:α) (ds:List Value),A.In w O x ds->∀ u∈ds,u.oneCell'=true) :
 ∃ ds:List Value,ds.length=l.length*A.size/\(∀ (j:Nat) (u:Value),ds[j]?=some u->w.cell? ((⟨g,o,none⟩:Addr).add j)=some u)/\(∀ u∈ds,u.oneCell'=true)/\∀ (i:Nat) (x:α),l[i]?=some x->A.In w O x ((ds.drop (i*A.size)).take A.size):=by
 have z:∀ k,k<=l.length->∃ ds:List Value,ds.length=k*A.size/\(∀ (j:Nat) (u:Value),ds[j]?=some u->w.cell? ⟨g,o+j,none⟩=some u)/\(∀ u∈ds,u.oneCell'=true)/\∀ (i:Nat) (x:α),i<k->l[i]?=some x->A.In w O x ((ds.drop (i*A.size)).take A.size):=by
  intro k
  induction k with
  | zero=>exact fun _=>⟨[],by simp,fun j u a=>by simp at a,fun u b=>by simp at b,fun i x I=>by omega⟩
  | succ k ih =>
    intro L;obtain⟨ds,p,v,r,q⟩:=ih (by omega)
    obtain⟨x,m⟩:∃ x,l[k]?=some x:=⟨_,Zg (by omega)⟩
    obtain⟨K,J,B,f,_,_,G,s⟩:=Yf h m
    injection f with f
    injection f with f e2
    subst f;subst e2;have C:=A.len s;refine⟨ds++B,by rw[List.length_append,p,C,Nat.add_mul];omega,fun j u a=>?_,fun u b=>?_,fun i y I e=>?_⟩
    ·rw[List.getElem?_append] at a
     split at a
     ·exact v j u a
     ·rename_i E
      have F:j - ds.length<B.length:=(Zi a).1;have D:=G (j - ds.length) (by omega);rw[a] at D
      rw[<-D]
      congr 2
      omega
    ·rcases List.mem_append.1 b with b | b
     ·exact r u b
     ·exact d x B s u b
    ·by_cases t:i=k
     ·subst t;rw[m] at e
      injection e with e
      subst e;rw[List.drop_append,List.drop_of_length_le (by omega),p,Nat.sub_self,List.drop_zero,List.nil_append,XO (by omega)]
      exact s
     ·have H:(i+1)*A.size<=k*A.size:=Xp _ (by omega);rw[Nat.add_mul] at H
      rw[List.drop_append_of_le_length (by omega),List.take_append_of_le_length (by simp;omega)]
      exact q i y (by omega) e
 obtain⟨ds,p,v,r,q⟩:=z l.length Ze
 exact⟨ds,p,fun j u a=>by rw[Go.WideShapes.add_plain];exact v j u a,r,fun i x m=>q i x (Zi m).1 m⟩
theorem QcE {α:Type}{P:α->List Value->Prop}{l l2:List α}{xs:List Value}(b:xs.length=l.length*s)
 (f:∀ (i:Nat) (x:α),l[i]?=some x->P x ((xs.drop (i*s)).take s)) (e:∀ (i:Nat) (x:α),l2[i]?=some x->P x ((ds.drop (i*s)).take s)) :
 ∀ (i:Nat) (x:α),(l++l2)[i]?=some x->P x (((xs++ds).drop (i*s)).take s):=by
 intro i y a;rw[List.getElem?_append] at a
 split at a
 ·rename_i c
  have d:(i+1)*s<=l.length*s:=Xp _ c;rw[Nat.add_mul] at d
  rw[List.drop_append_of_le_length (by omega),List.take_append_of_le_length (by simp;omega)]
  exact f i y a
 ·rename_i c
  have d:l.length*s<=i*s:=Xp _ (by omega)
  have:=e (i - l.length) y a
  rw[Nat.sub_mul] at this
  rw[List.drop_append,List.drop_of_length_le (by omega),List.nil_append,b]
  exact this
theorem Qfd {xs:List Value}(h:w.ownsRow 0 e s (.slice (some ⟨g,0,none⟩) N cap) N xs) (f:w'.heap[g]?=w.heap[g]?):w'.ownsRow 0 e s (.slice (some ⟨g,0,none⟩) N cap) N xs:=by
 obtain⟨k,i⟩:=h
 refine⟨k,?_⟩
 rcases i with d | ⟨m,c,a,j,b,l,r⟩
 ·exact .inl d
 ·injection j with e1 _ e2
  injection e1 with e1
  injection e1 with e1 _
  subst e1;subst e2;exact .inr ⟨g,cap,a,Z,b,f.trans l,r⟩
def TRq (w:World) (O Q:Nat->Prop) (v:Value) (L:List (TT 6)):Prop :=
 ∃ xs,w.ownsRow 0 105 3 v L.length xs/\(∀ g,v.ownBlock=some g->O g)/\∀ i x,L[i]?=some x->(Lay.tt 6).In w Q x ((xs.drop (i*3)).take 3)
section
variable {w w':World}{O O' Q Q':Nat->Prop}{v:Value}{L:List (TT 6)}
theorem TRq.keep (h:TRq w O Q v L) (c:∀ k,k<w.heap.size->v.ownBlock=some k\/Q k->w'.heap[k]?=w.heap[k]?) (f:∀ k,v.ownBlock=some k->O' k) (q:∀ k,Q k->k<w.heap.size->Q' k):TRq w' O' Q' v L:=by
 obtain⟨m,⟨s,o⟩,u,e⟩:=h
 refine⟨m,⟨s,?_⟩,f,fun i x j=>(Lay.tt 6).keep (fun k t l=>c k l (.inr t)) q (e i x j)⟩
 rcases o with p | ⟨g,b,a,rfl,n,d,r⟩
 ·exact Or.inl p
 ·exact Or.inr ⟨g,b,a,Z,n,(c g (XC d) (.inl Z)).trans d,r⟩
theorem TRq.own (h:TRq w O Q v L)(a:v.ownBlock=some g):O g:=by
 obtain⟨c,e,b,d⟩:=h
 exact b g a
theorem TRq.block (h:TRq w O Q v L)(b:v.ownBlock=some g):∃ c,w.heap[g]?=some (.cells c 105 (0,0)):=by
 obtain⟨j,⟨l,d⟩,k,i⟩:=h
 rcases d with ⟨rfl,_⟩|⟨m,f,a,rfl,_,e,r⟩
 ·simp[Value.ownBlock] at b
 ·simp[Value.ownBlock] at b;subst b;exact⟨a,e⟩
theorem TRq.lt (h:TRq w O Q v L)(a:v.ownBlock=some g):g<w.heap.size:=by
 obtain⟨c,b⟩:=h.block a
 exact XC b
theorem TRq.form (h:TRq w O Q v L):∃ a cap,v=.slice a L.length cap/\L.length<=cap/\TRd w Q a L/\∃ xs,w.ownsRow 0 105 3 (.slice a L.length cap) L.length xs:=by
 obtain⟨xs,d,C,k⟩:=h
 obtain⟨E,n⟩:=id d
 rcases n with ⟨rfl,p⟩|⟨g,cap,r,rfl,_,x,y,B,D,o⟩
 ·have:L=[]:=Xf.1 p
  subst this;exact⟨none,0,Z,Ze,fun i t c=>by simp at c,xs,d⟩
 ·refine⟨some ⟨g,0,none⟩,cap,Z,y,fun i t c=>?_,xs,d⟩
  obtain⟨m,A,e,s,l⟩:=k i t c
  have z:i<L.length:=(Zi c).1
  have b:∀ j u,j<3->((xs.drop (i*3)).take 3)[j]?=some u->w.cell? ⟨g,i*3+j,none⟩=some u:=fun j u q f=>by
   rw[XR,Xs q,List.getElem?_drop,<-o,XR,Xs (by omega),Array.getElem?_toList] at f
   exact Qb x _ u f
  rw[e] at b
  exact⟨g,m,A,Z,b 0 _ (by omega) Z,b 1 _ (by omega) Z,b 2 _ (by omega) Z,s,l⟩
end
abbrev Qe1 (c:Int):List PanicEntry:=[{ v:=.iface 304 (Iv c),recovered:=false }]
def SAt (w:World) (b:Nat) (O A:Nat->Prop) (s:JSt):Prop :=
 ∃ pm cm h a1 c1 a2 c2 a3 c3 vL,w.heap[b]?=some (.cells #[.slice pm s.m.length cm,Pv h 0,Iv s.f.regs,.slice a1 s.f.params.length c1,.slice a2 s.f.results.length c2,.slice a3 s.f.blocks.length c3,vL] 279 (0,0)) /\
  (QaN 6).In w (fun g=>¬ A g) s.m [.slice pm s.m.length cm]/\(ZR 6).In w (fun g=>¬ A g) s.f [Iv s.f.regs,.slice a1 s.f.params.length c1,.slice a2 s.f.results.length c2,.slice a3 s.f.blocks.length c3] /\
  (Qo w h s.H/\O h)/\TRq w O (fun g=>¬ A g) vL s.L/\O b/\∀ k,O k->A k
structure SRd (w:World) (b:Nat) (A:Nat->Prop) (s:JSt) (pm:Option Addr) (cm h:Nat) (a1:Option Addr) (c1:Nat) (a2:Option Addr) (c2:Nat) (a3:Option Addr) (c3:Nat) (aL:Option Addr) (cL:Nat):Prop where
 blk:w.heap[b]?=some (.cells #[.slice pm s.m.length cm,Pv h 0,Iv s.f.regs,.slice a1 s.f.params.length c1,.slice a2 s.f.results.length c2,.slice a3 s.f.blocks.length c3,.slice aL s.L.length cL] 279 (0,0))
 mod:(QaN 6).In w (fun g=>¬ A g) s.m [.slice pm s.m.length cm]
 fn:(ZR 6).In w (fun g=>¬ A g) s.f [Iv s.f.regs,.slice a1 s.f.params.length c1,.slice a2 s.f.results.length c2,.slice a3 s.f.blocks.length c3]
 held:Qo w h s.H
 row:TRd w (fun g=>¬ A g) aL s.L
 le:s.L.length<=cL
section
variable {w w':World}{b:Nat}{O O' A A':Nat->Prop}{s:JSt}
theorem SAt.keep (h:SAt w b O A s) (d:∀ k,k<w.heap.size->O k\/¬ A k->w'.heap[k]?=w.heap[k]?) (m:∀ k,O k->k<w.heap.size->O' k) (i:∀ k,¬ A k->k<w.heap.size->¬ A' k) (C:∀ k,O' k->A' k):SAt w' b O' A' s:=by
 obtain⟨r,u,l,v,z,p,y,B,x,D,j,q,t,⟨g,o⟩,f,n,E⟩:=h
 refine⟨r,u,l,v,z,p,y,B,x,D,(d b (XC j) (.inl n)).trans j,(QaN 6).keep (fun k a c=>d k c (.inr a)) i q,(ZR 6).keep (fun k a c=>d k c (.inr a)) i t,
  ⟨g.keep (d l g.lt (.inl o)),m l o g.lt⟩,f.keep (fun k c a=>d k c (a.imp (fun e=>f.own e) id)) (fun k a=>m k (f.own a) (f.lt a)) i,m b n (XC j),C⟩
theorem SAt.below (h:SAt w b O A s) (k:Below w.heap.size w w'):SAt w' b O A s:=by
 have d:∀ k,O k->A k:=by obtain⟨j,n,u,p,x,f,v,y,r,z,t,i,l,⟨e,o⟩,q,m,a⟩:=h;exact a
 exact h.keep (fun g c _=>k.block g c) (fun _ h _=>h) (fun _ h _=>h) d
theorem SAt.sub (h:SAt w b O A s):∀ k,O k->A k:=by obtain⟨g,n,r,q,v,e,t,j,l,u,p,f,m,⟨d,o⟩,c,i,a⟩:=h;exact a
theorem SAt.read (h:SAt w b O A s):∃ pm cm h a1 c1 a2 c2 a3 c3 aL cL,SRd w b A s pm cm h a1 c1 a2 c2 a3 c3 aL cL:=by
 obtain⟨pm,cm,j,a1,c1,a2,c2,a3,c3,n,i,e,f,⟨d,l⟩,c,k,m⟩:=h
 obtain⟨aL,cL,rfl,a,g,_⟩:=c.form
 exact⟨pm,cm,j,a1,c1,a2,c2,a3,c3,aL,cL,i,e,f,d,g,a⟩
variable {pm:Option Addr}{cm h:Nat}{a1:Option Addr}{c1:Nat}{a2:Option Addr}{c2:Nat}{a3:Option Addr}{c3:Nat}{aL:Option Addr}{cL:Nat}
theorem SRd.below (k:SRd w b A s pm cm h a1 c1 a2 c2 a3 c3 aL cL) (e:Below w.heap.size w w'):SRd w' b A s pm cm h a1 c1 a2 c2 a3 c3 aL cL :=
 ⟨(e.block b (XC k.blk)).trans k.blk,Ya k.mod e,Ya k.fn e,k.held.below e,k.row.below e,k.le⟩
theorem SRd.cells (k:SRd w b A s pm cm h a1 c1 a2 c2 a3 c3 aL cL) :
 w.cell? ⟨b,0,none⟩=some (.slice pm s.m.length cm)/\w.cell? ⟨b,1,none⟩=some (Pv h 0)/\w.cell? ⟨b,2,none⟩=some (Iv s.f.regs)/\w.cell? ⟨b,3,none⟩=some (.slice a1 s.f.params.length c1)/\w.cell? ⟨b,4,none⟩=some (.slice a2 s.f.results.length c2)/\w.cell? ⟨b,5,none⟩=some (.slice a3 s.f.blocks.length c3)/\w.cell? ⟨b,6,none⟩=some (.slice aL s.L.length cL) :=
 ⟨Qb k.blk 0 _ Z,Qb k.blk 1 _ Z,Qb k.blk 2 _ Z,Qb k.blk 3 _ Z,Qb k.blk 4 _ Z,Qb k.blk 5 _ Z,Qb k.blk 6 _ Z⟩
end
def STo (wA w:World) (b:Nat) (O A:Nat->Prop) (s:JSt):Prop :=
 ∃ N:Nat->Prop,(∀ k,N k->wA.heap.size<=k/\k<w.heap.size)/\SAt w b (fun k=>O k\/N k) (fun k=>A k\/N k) s/\Qz O (fun k=>O k\/N k) wA w
section
variable {w wA wB:World}{b:Nat}{O A:Nat->Prop}{s s':JSt}
theorem STo.same (h:SAt w b O A s):STo w w b O A s :=
 ⟨fun _=>False,fun _ h=>h.elim,h.keep (fun _ _ _=>rfl) (fun _ h _=>.inl h) (fun _ h _=>by simpa using h) (fun k a=>a.imp (h.sub k) id),⟨Z,Z,Z,Ze,fun _ _ _=>rfl,fun k a=>.inl (by simpa using a)⟩⟩
theorem STo.after (h:STo wA w b O A s) (a:Below wB.heap.size wB wA):STo wB w b O A s:=by
 obtain⟨N,f,i,c⟩:=h
 have:=a.size
 exact⟨N,fun k d=>⟨Zt a.size (f k d).1,(f k d).2⟩,i,⟨c.os.trans a.os,c.tape.trans a.tape,c.output.trans a.output,Zt a.size c.size,fun k d g=>(c.block k (by omega) g).trans (a.block k d),fun k d=>(c.own k d).imp id fun e=>Zt a.size e⟩⟩
theorem STo.join {N:Nat->Prop}(f:∀ k,N k->wA.heap.size<=k/\k<w.heap.size) (d:Qz O (fun k=>O k\/N k) wA w) (g:STo w wB b (fun k=>O k\/N k) (fun k=>A k\/N k) s'):STo wA wB b O A s':=by
 obtain⟨M,l,h,c⟩:=g
 have i:=d.size;have m:=c.size;refine⟨fun k=>N k\/M k,fun k a=>?_,?_,?_⟩
 ·rcases a with a | a
  ·have:=f k a;omega
  ·have:=l k a;omega
 ·exact h.keep (fun _ _ _=>rfl) (fun k a _=>by simpa[or_assoc] using a) (fun k a _=>by simpa[or_assoc,not_or,and_assoc] using a) (fun k a=>by have:=h.sub k (by simpa[or_assoc] using a);simpa[or_assoc] using this)
 ·refine⟨c.os.trans d.os,c.tape.trans d.tape,c.output.trans d.output,Zt i m,fun k a j=>(c.block k (by omega) (fun e=>?_)).trans (d.block k a j),fun k a=>?_⟩
  ·rcases e with e | e
   ·exact j e
   ·have:=f k e;omega
  ·rcases a with a | a | a
   ·exact .inl a
   ·exact .inr (f k a).1
   ·exact .inr (Zt i (l k a).1)
theorem SAt.setH (K:∀ k,A k->k<w.heap.size) (h:SAt w b O A s):∃ hh,w.cell? ⟨b,1,none⟩=some (Pv hh 0)/\Qo w hh s.H/\∀ w' H',Qo w' hh H'->Qz (fun k=>k=hh) (fun k=>k=hh) w w'->STo w w' b O A { s with H:=H' }:=by
 obtain⟨u,z,hh,C,F,r,E,G,D,J,i,t,v,⟨o,j⟩,m,y,p⟩:=h
 refine⟨hh,Qb i 1 _ Z,o,fun w' H' B d=>?_⟩
 obtain⟨L,g⟩:∃ c,w.heap[hh]?=some (.cells c 303 (0,0)):=by
  obtain⟨-,q⟩:=o
  obtain⟨c,q,-⟩:=q
  exact⟨c,q⟩
 have l:b≠hh:=Zb i g (by decide);have n:∀ k,¬ A k->k≠hh:=fun k a e=>a (by subst e;exact p _ j)
 refine⟨fun _=>False,fun _ h=>h.elim,⟨u,z,hh,C,F,r,E,G,D,J,(d.block b (XC i) l).trans i,(QaN 6).keep (fun k a f=>d.block k f (n k a)) (fun _ h _=>by simpa using h) t,(ZR 6).keep (fun k a f=>d.block k f (n k a)) (fun _ h _=>by simpa using h) v,
  ⟨B,.inl j⟩,m.keep (fun k f a=>d.block k f ?_) (fun k a=>.inl (m.own a)) (fun _ h _=>by simpa using h),.inl y,fun k a=>a.imp (p k) id⟩,⟨d.os,d.tape,d.output,d.size,fun k a I=>d.block k a (fun e=>I (by subst e;exact j)),fun k a=>.inl (by simpa using a)⟩⟩
 rcases a with a | a
 ·obtain⟨c,x⟩:=m.block a
  exact Zb x g (by decide)
 ·exact n k a
theorem SAt.pushL (hA:∀ k,A k->k<wA.heap.size) (h:SAt wA b O A s):∃ aL cL xs,wA.cell? ⟨b,6,none⟩=some (.slice aL s.L.length cL)/\wA.frozen? ⟨b,6,none⟩=false/\s.L.length<=cL/\wA.ownsRow 0 105 3 (.slice aL s.L.length cL) s.L.length xs /\
 ∀ w9 g cap2 (l:List (TT 6)) ds,ds.length=l.length*3->w9.ownsRow 0 105 3 (.slice (some ⟨g,0,none⟩) (s.L.length+l.length) cap2) (s.L.length+l.length) (xs++ds)->wA.grownBy w9 (Value.slice aL s.L.length cL).ownBlock->((Value.slice aL s.L.length cL).ownBlock=some g\/g=wA.heap.size)->g<w9.heap.size ->
  (∀ i x,l[i]?=some x->(Lay.tt 6).In wA (fun g=>¬ A g) x ((ds.drop (i*3)).take 3)) ->
  w9.cell? ⟨b,6,none⟩=some (.slice aL s.L.length cL)/\w9.frozen? ⟨b,6,none⟩=false/\STo wA (w9.setCell ⟨b,6,none⟩ (.slice (some ⟨g,0,none⟩) (s.L.length+l.length) cap2)) b O A { s with L:=s.L++l }:=by
 obtain⟨S,X,v,a1,c1,R,c2,a3,c3,vL,o,T,U,⟨F,k5⟩,r,I,K⟩:=h
 obtain⟨aL,cL,rfl,B,-,-⟩:=r.form
 have t:∀ {j},(Value.slice aL s.L.length cL).ownBlock=some j->O j/\∃ c,wA.heap[j]?=some (.cells c 105 (0,0)):=fun {j} f=>⟨r.own f,r.block f⟩;obtain⟨xs,H,q2,q3⟩:=r
 obtain⟨ch,n⟩:∃ c,wA.heap[v]?=some (.cells c 303 (0,0)):=by
  obtain⟨-,q⟩:=F
  obtain⟨c,q,-⟩:=q
  exact⟨c,q⟩
 have z:=XC o;have w:=XC n
 have p:∀ j,(Value.slice aL s.L.length cL).ownBlock=some j->b≠j:=fun j f=>by
  obtain⟨c,V⟩:=(t f).2
  exact Zb o V (by decide)
 refine⟨aL,cL,xs,Qb o 6 _ Z,Qj o 6,B,H,fun w9 g cap2 l ds aa h1 m G Q h5=>?_⟩
 have W:=m.size;have E:=(m.block b z (fun e=>p b e.symm Z)).trans o
 have D:b≠g:=by
  rcases G with h | h
  ·exact p g h
  ·omega
 have d:∀ k,¬ A k->k<wA.heap.size->¬ (A k\/(wA.heap.size<=k/\k<w9.heap.size)):=fun k a J e=>by rcases e with e | e;exact a e;omega
 have M:Qz O (fun x=>O x\/(wA.heap.size<=x/\x<w9.heap.size)) wA (w9.setCell ⟨b,6,none⟩ (.slice (some ⟨g,0,none⟩) (s.L.length+l.length) cap2)):=by
  refine⟨m.os,m.tape,m.output,by simp;omega,fun k a N=>?_,fun k a=>a.imp id fun h=>h.1⟩
  rw[Xd _ _ _ _ (fun e=>N (by subst e;exact I)),m.block k a (fun e=>N (t e.symm).1)]
 have u:∀ k,¬ A k->k<wA.heap.size->(w9.setCell ⟨b,6,none⟩ (.slice (some ⟨g,0,none⟩) (s.L.length+l.length) cap2)).heap[k]?=wA.heap[k]?:=fun k a J=>M.block k J (fun e=>a (K k e));refine⟨Qb E 6 _ Z,Qj E 6,fun x=>wA.heap.size<=x/\x<w9.heap.size,fun k a=>by rw[World.size_setCell];exact a,⟨S,X,v,a1,c1,R,c2,a3,c3,.slice (some ⟨g,0,none⟩) (s.L.length+l.length) cap2,?_,(QaN 6).keep u d T,(ZR 6).keep u d U,⟨F.keep ?_,.inl k5⟩,?_,.inl I,fun k a=>a.imp (K k) id⟩,M⟩
 ·rw[Qh E];rfl
 ·rw[Xd _ _ _ _ (show v≠b from Zb n o (by decide)),m.block v w (fun e=>by obtain⟨c',y⟩:=(t e.symm).2;exact Zb n y (by decide) Z)]
 ·refine⟨xs++ds,?_,fun k a=>?_,?_⟩
  ·rw[List.length_append]
   exact Qfd h1 (Xd _ _ _ _ (show g≠b from fun e=>D e.symm))
  ·simp[Value.ownBlock] at a
   subst a;rcases G with h | h
   ·exact .inl (t h).1
   ·exact .inr ⟨by omega,Q⟩
  ·refine QcE (s:=3) (P:=fun x cs=>(Lay.tt 6).In _ _ x cs) H.1 (fun i x C=>?_) (fun i x C=>?_)
   ·exact(Lay.tt 6).keep u d (q3 i x C)
   ·exact(Lay.tt 6).keep u d (h5 i x C)
theorem SAt.same6 {v:Value}(h:SAt w b O A s) (d:w.cell? ⟨b,6,none⟩=some v) (k:Nat):(w.setCell ⟨b,6,none⟩ v).heap[k]?=w.heap[k]?:=by
 obtain⟨g,l,n,m,q,f,o,i,j,p,a,-⟩:=h
 have e:=(Qb a 6 _ Z).symm.trans d;simp only[Option.some.injEq] at e
 by_cases c:k=b
 ·subst c;rw[Qh a,a,<-e];rfl
 ·exact Xd _ _ _ _ c
end
end Go.Proofs.YtjhdpajpibdnaafGreat
