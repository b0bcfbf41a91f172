import Derived.Test.YtjhdpajpibdnaafGreatP3
import Derived.Deep.Upon
import Derived.SizedLaws
set_option maxHeartbeats 16000000
set_option maxRecDepth 100000
namespace Go.Proofs.YtjhdpajpibdnaafGreat
open Go.ChangeShapes Go.WideShapes Go.ChangeAt Go.RowKit _root_.Go.Proofs.Tryz
set_option linter.unusedSimpArgs false
set_option linter.unusedVariables false
variable {w w' w6 w1 w2:World}{n b c k m rc ac X j B i cm g N d f fi cap bp q R pages id bi cc funcs s ci rl al ca ri vl most cR cA G:Nat}{O Q O':Nat→Prop}{l xs regs inp:List Int}{p a rg ag pm pi pa pR pA ra aa:Option Addr}{t e:TypeId}{v:Value}{P:Program}{L bs:List Bool}{x ya xc xk fr xa xb xn yb:Int}{ds cs:List Value}{ops:Array Oper}
theorem WIn.cells {w:World}(h:WIn w O l (.slice p n c)):∀ i,i<l.length->∃ g o,p=some ⟨g,o,none⟩/\w.cell? ⟨g,o+i,none⟩=some (Iv (l.getD i 0)):=fun i b=>by
 obtain⟨q,d,e,h⟩:=h
 cases e
 obtain⟨k,o,f,-,-,a⟩:=h i b
 exact⟨k,o,f,a⟩
def QnG (w6:World) (Z cb co:Nat) (pb po:Option Addr) (lb lo:List Int) (t:Tmp) (v:Value) (w:World):Prop :=
 match ([(10,Qi2 w6.heap.size lb),(13,Qi2 w6.heap.size lo)]:List (Tmp × (Value->World->Prop))).lookup t with
 | some p=>p v w
 | none=>v=(([(3,.pointer (some ⟨Z,0,none⟩)),(8,.pointer (some ⟨Z,1,none⟩)),(9,.slice pb lb.length cb),(11,.pointer (some ⟨Z,2,none⟩)),(12,.slice po lo.length co),(14,.pointer (some ⟨Z,1,none⟩))]:List (Tmp × Value)).lookup t).getD undef
theorem wo2 {Z y A:Nat}{q k:Option Addr}{g lo:List Int}(G:w6.cell? ⟨Z,1,none⟩=some (.slice q g.length y)) (E:w6.cell? ⟨Z,2,none⟩=some (.slice k lo.length A)) (I:Hid (∀ wx,Below w6.heap.size w6 wx->Calls prog 48 #[.slice q g.length y] wx fun e w'=>Qcl wx g e w')) (C:Hid (∀ wx,Below w6.heap.size w6 wx->Calls prog 48 #[.slice k lo.length A] wx fun e w'=>Qcl wx lo e w')){Q:Exit->Act->World->Prop}
 (a:Act) (m:Nat) (H:a.tmps.size=m) (u:17<=m) (f:a.tmps.getD 3 undef=Pv Z 0)
 (hend:∀ ops vs w',(Qi2 w6.heap.size g) (vs 10) w'->(Qi2 w6.heap.size lo) (vs 13) w'->vs 14=Pv Z 1->Below w6.heap.size w6 w'->wpList prog ops Q (Qao 7 ((Tryz.f37.body.bind (Qi 2)).getD .skip)) (QN a vs [8,9,10,11,12,13,14]) w') :
 Code.wp prog ((Tryz.f37.body.bind (Qi 2)).getD .skip) Q a w6:=by
 conv=>arg 2;whnf
 refine Qg 7 (QnG w6 Z y A q k g lo) (fun w=>Below w6.heap.size w6 w) (fun w w'=>Below w.heap.size w w') (outs:=[3]) (gs:=[]) (bs:=[true,true,true,true,true,true,true]) (by kernel_rfl) (n:=17) H u (by kernel_rfl) (by kernel_rfl) ?hR ?hG (QI Zr 1) ⟨f,Y⟩ ?hA ?hend
 case hR =>
  intro t v w w' B h;unfold QnG at h |-;split at h
  ·rename_i p d
   simp only[List.lookup_cons,List.lookup_nil] at d
   split at d
   ·cases d;exact h.below B
   ·split at d
    ·cases d;exact h.below B
    ·cases d
  ·exact h
 case hG=>exact Y
 case hend=>exact fun ops vs w' b c=>hend ops vs w' (c 10 (by kernel_rfl)) (c 13 (by kernel_rfl)) (c 14 (by kernel_rfl)) b
 case hA =>
  repeat
   refine⟨fun a w b c K z=>?_,?_⟩
   focus first
    | obtain⟨j,-⟩:=c
      conv at j=>whnf;rhs;whnf
      have L:=Qk G b;have J:=Qk E b;go_simp;exact z _ _ Zr b Yz
    | obtain⟨j,-⟩:=c
      conv at j=>whnf;rhs;whnf
      go_simp;refine Xm (I.out w b) ?_;rintro F D ⟨r,s,rfl,l,o,f,i⟩;go_simp;exact z _ _ i (b.trans (i.mono b.size)) ⟨r,s,Yz,l,o,fun x hx=>Zt b.size (f x hx)⟩
    | obtain⟨j,-⟩:=c
      conv at j=>whnf;rhs;whnf
      go_simp;refine Xm (C.out w b) ?_;rintro F D ⟨r,s,rfl,l,o,f,i⟩;go_simp;exact z _ _ i (b.trans (i.mono b.size)) ⟨r,s,Yz,l,o,fun x hx=>Zt b.size (f x hx)⟩
  trivial
section
variable {w w' w2:World}{b most:Nat}{m:List (MFunc 6)}{M M':RM}{g g1:WG}
def QjH (lo:Nat) (M:RM) (v:Value) (w:World):Prop:=∃ vb vo,v=.agg #[Iv M.fin,vb,vo,Iv M.fuel]/\Qi2 lo M.back vb w/\Qi2 lo M.out vo w
theorem Qcf (S:WAt w b most m M g) (ho:M.out.length<=1000000) (hb:M.back.length<=1000000) :
 Calls prog 37 #[Pv b 0] w fun e w'=>∃ v,e=.returned v/\QjH w.heap.size M v w'/\Below w.heap.size w w':=by
 obtain⟨po,co,eo⟩:=QaS S.out
 obtain⟨pb,cb,eb,-⟩:=S.back
 have L:=Qc (ZO w (.cells #[Iv 0,Nv,Nv,Iv 0] 44));have BR:=Qc (Qe w #[Iv 0,Nv,Nv,Iv 0] 44);have B:=S.below L.out;have q5:=Qb B.box 5 _ Yz;have q6:(w.alloc (.cells #[Iv 0,Nv,Nv,Iv 0] 44)).cell? ⟨b,6,none⟩=some g.vb:=Qb B.box 6 _ Yz;have q7:(w.alloc (.cells #[Iv 0,Nv,Nv,Iv 0] 44)).cell? ⟨b,7,none⟩=some g.vo:=Qb B.box 7 _ Yz;have q8:=Qb B.box 8 _ Yz;rw[eb] at q6
 rw[eo] at q7
 have HB:=Qc B.back;have HO:=Qc B.out;rw[eb] at HB
 rw[eo] at HO
 clear S B eo eb;go_enter func37,ntmps37
 go_upto_region 1 with fail
 generalize w.alloc (.cells #[Iv 0,Nv,Nv,Iv 0] 44)=I at L BR q5 q6 q7 q8 HB HO |-;generalize hR:w.heap.size=R at BR |-;have HR:=Qc hR;clear hR;have J:=Qc (ZO I (.cells #[Iv M.fin,.slice pb M.back.length cb,.slice po M.out.length co,Iv M.fuel] 44));have A:=Qc (Qe I #[Iv M.fin,.slice pb M.back.length cb,.slice po M.out.length co,Iv M.fuel] 44);go_upto_region 2 with fail
 have H:Hid (R≠I.heap.size):=by show _≠_;have:=XC BR.out;omega
 have z:Hid (w.heap.size<=I.heap.size):=L.out.size;generalize I.alloc (.cells #[Iv M.fin,.slice pb M.back.length cb,.slice po M.out.length co,Iv M.fuel] 44)=K at J A |-;generalize I.heap.size=Z at A H z |-;have CB:Hid (∀ q,Below K.heap.size K q->Calls prog 48 #[.slice pb M.back.length cb] q fun e w'=>Qcl q M.back e w'):=fun q bx=>QcF (WIn.cells (WIn.keep (fun k _ f=>bx.block k f) (fun _ h _=>h) (WIn.keep (fun k _ f=>J.out.block k f) (fun _ h _=>h) HB.out))) hb;have CO:Hid (∀ q,Below K.heap.size K q->Calls prog 48 #[.slice po M.out.length co] q fun e w'=>Qcl q M.out e w'):=fun q bx=>QcF (WIn.cells (WIn.keep (fun k _ f=>bx.block k f) (fun _ h _=>h) (WIn.keep (fun k _ f=>J.out.block k f) (fun _ h _=>h) (HO.out.lin (O:=fun _=>True) (fun _ _=>trivial))))) ho;have E:=Qc (L.out.trans (J.out.mono L.out.size));have aa:=Qc (Blk.below BR.out J.out);refine wo2 (Qb A.out 1 _ Yz) (Qb A.out 2 _ Yz) CB CO _ _ Yz (Xg (by kernel_rfl)) Yz ?_;rintro af vs o ⟨j,i,y,Q,V,ad⟩ ⟨l,a,s,ac,P,U⟩ t b5;show wpList _ af _ [_,_,_] (QN _ vs [8,9,10,11,12,13,14]) o;simp only[QN,Act.put,List.setIfInBounds_toArray,List.set_cons_zero,List.set_cons_succ,y,s,t]
 have c:=Blk.below A.out b5;have ae:=Qc (Blk.below aa.out b5);have B5:=Qc (E.out.trans (b5.mono E.out.size));have ag:Hid (Z<K.heap.size):=XC A.out;have C:=Qc (Xh V ad);have D:=Qc (Xh P U);have T:=Qc (Xh Q ac);have k0:=Qb c 0 _ Yz;have k1:=Qb c 1 _ Yz;have k2:=Qb c 2 _ Yz;have k3:=Qb c 3 _ Yz;have y0:=Qj c 0;have y1:=Qj c 1;have y2:=Qj c 2;have y3:=Qj c 3;have G:=Qh (Qh c 1 (.slice j M.back.length i)) 2 (.slice l M.out.length a);have G:Hid (((o.setCell ⟨Z,1,none⟩ (.slice j M.back.length i)).setCell ⟨Z,2,none⟩ (.slice l M.out.length a)).heap[Z]?=some (.cells #[Iv M.fin,.slice j M.back.length i,.slice l M.out.length a,Iv M.fuel] 44 (0,0))):=G.trans (by simp);have F:Hid (∀ k,k≠Z->((o.setCell ⟨Z,1,none⟩ (.slice j M.back.length i)).setCell ⟨Z,2,none⟩ (.slice l M.out.length a)).heap[k]?=o.heap[k]?):=fun k f=>by rw[Xd _ _ _ _ f,Xd _ _ _ _ f]
 have ah:Hid (o.heap.size=((o.setCell ⟨Z,1,none⟩ (.slice j M.back.length i)).setCell ⟨Z,2,none⟩ (.slice l M.out.length a)).heap.size):=by show _=_;simp
 have W:Hid (Below w.heap.size w ((o.setCell ⟨Z,1,none⟩ (.slice j M.back.length i)).setCell ⟨Z,2,none⟩ (.slice l M.out.length a))):=(B5.out.setCell (p:=⟨Z,1,none⟩) z.out _).setCell (p:=⟨Z,2,none⟩) z.out _;clear y s t Q V ad ac P U b5 CB CO c A q5 q6 q7 q8 HB HO L J;go_upto_region 3 with fail
 generalize (o.setCell ⟨Z,1,none⟩ (.slice j M.back.length i)).setCell ⟨Z,2,none⟩ (.slice l M.out.length a)=w6 at G F ah W |-;clear k0 k1 k2 k3 y0 y1 y2 y3;have d:=Qc ((F.out R H.out).trans ae.out);have e0:=Qb G.out 0 _ Yz;have e1:=Qb G.out 1 _ Yz;have e2:=Qb G.out 2 _ Yz;have e3:=Qb G.out 3 _ Yz;have r0:=Qb d.out 0 _ Yz;have r1:=Qb d.out 1 _ Yz;have r2:=Qb d.out 2 _ Yz;have r3:=Qb d.out 3 _ Yz;have z0:=Qj d.out 0;have z1:=Qj d.out 1;have z2:=Qj d.out 2;have z3:=Qj d.out 3;have ai:¬ R=Z:=H.out;go_wp2_with fail
 have X:=QhK d.out (Iv M.fin) (.slice j M.back.length i) (.slice l M.out.length a) (Iv M.fuel);have r:w.heap.size<=R:=by rw[HR.out];exact Ze
 have B9:=(((W.out.setCell (p:=⟨R,0,none⟩) r (Iv M.fin)).setCell (p:=⟨R,1,none⟩) r (.slice j M.back.length i)).setCell (p:=⟨R,2,none⟩) r (.slice l M.out.length a)).setCell (p:=⟨R,3,none⟩) r (Iv M.fuel);have O9:∀ k,k≠R->((((w6.setCell ⟨R,0,none⟩ (Iv M.fin)).setCell ⟨R,1,none⟩ (.slice j M.back.length i)).setCell ⟨R,2,none⟩ (.slice l M.out.length a)).setCell ⟨R,3,none⟩ (Iv M.fuel)).heap[k]?=w6.heap[k]?:=fun k f=>by rw[Xd _ _ _ _ f,Xd _ _ _ _ f,Xd _ _ _ _ f,Xd _ _ _ _ f]
 generalize ((((w6.setCell ⟨R,0,none⟩ (Iv M.fin)).setCell ⟨R,1,none⟩ (.slice j M.back.length i)).setCell ⟨R,2,none⟩ (.slice l M.out.length a)).setCell ⟨R,3,none⟩ (Iv M.fuel))=w9 at X B9 O9 |-
 have n:∀ x,K.heap.size<=x->w9.heap[x]?=o.heap[x]?:=fun x u=>by
  have h1:=ag.out;have h2:=XC aa.out;exact(O9 x (by omega)).trans (F.out x (by omega))
 have f0:=Qb X 0 _ Yz;have f1:=Qb X 1 _ Yz;have f2:=Qb X 2 _ Yz;have f3:=Qb X 3 _ Yz;have N:=E.out.size;exact Xy (v:=.agg #[Iv M.fin,.slice j M.back.length i,.slice l M.out.length a,Iv M.fuel]) (by simp[results,results37,go_sem,f0,f1,f2,f3]) Yz ⟨_,Yz,⟨_,_,Yz,⟨j,i,Yz,T.out.1,Q0 C.out.1 (fun x u=>n x (C.out.2 x u)),fun x u=>Zt N (C.out.2 x u)⟩,⟨l,a,Yz,T.out.2,Q0 D.out.1 (fun x u=>n x (D.out.2 x u)),fun x u=>Zt N (D.out.2 x u)⟩⟩,B9⟩
end
def Qg1 {α:Type}(A:Lay α) (w w':World) (l:List α) (e:Ending):Prop:=∃ a' c',e=.returned (.slice a' l.length c')/\A.list.In w' (Qcv w.heap.size) l [.slice a' l.length c']/\Below w.heap.size w w'
def iv (l:List Int):List Value:=l.map (fun x=>Value.int .i64 x)
theorem QkE {lo:Nat}(h:w.ownsRow lo e 1 v l.length (iv l)) (b:∀ x∈l,I64 x):intsL.In w (Qcv lo) l [v] :=
 Qap.lay (A:=Lay.int) (e:=e) (xs:=iv l) ⟨h,fun i x a=>by
  have f:Lay.int.size=1:=rfl;rw[f,XL]
  have d:((iv l).drop i).take 1=[Iv x]:=by
   obtain⟨c,e⟩:=Zi a
   unfold iv;rw[<-List.map_drop,List.drop_eq_getElem_cons c]
   simp[e]
  rw[d]
  exact⟨Z,b x (Zm a)⟩⟩
theorem Qk4 (h:intsL.In w O l [.slice a m c]):∀ x∈l,I64 x:=by
 intro x b;obtain⟨i,e⟩:=List.mem_iff_getElem?.1 b
 obtain⟨g,o,f,_,_,_,_,d⟩:=Yf h e
 exact d.2
theorem QjW (h:intsL.In w O l [.slice a m c]) (n:0<l.length) :
 ∃ ad,a=some ad/\ad.block<w.heap.size/\∀ j v,(iv l)[j]?=some v->w.cell? (ad.add j)=some v:=by
 obtain⟨g,o,e,_,d,_⟩:=ZH h n
 refine⟨⟨g,o,none⟩,e,d,fun j v i=>?_⟩
 have b:j<l.length:=by have:=(Zi i).1;simpa[iv] using this
 obtain⟨q,p,f,_,_,k⟩:=ZH h b
 rw[e] at f
 cases f
 rw[show (⟨g,o,none⟩:Addr).add j=⟨g,o+j,none⟩ from by unfold Addr.add;split<;>simp_all,k,<-i]
 simp[iv,List.getD,b]
theorem QcZ (l:List Int):(iv l).length=l.length:=by simp[iv]
theorem QmD (l:List Int):∀ v∈iv l,v.oneCell'=true:=by
 intro v a;obtain⟨x,_,rfl⟩:=List.mem_map.1 a
 rfl
theorem underIs:prog.underlying 76=some (.slice 3):=by kernel_rfl
theorem infoI:(prog.info? 3).map (fun i=>(i.zero,i.size,i.bytes))=some (some (Iv 0),1,8):=by kernel_rfl
theorem infoI1:(prog.info? 3).map (·.size)=some 1:=by kernel_rfl
theorem QaX (l:List Int) (p:Option Addr) (c:Nat) (w:World) (i:intsL.In w All l [.slice p l.length c]) (y:l.length<=4294967296) :
 Calls prog 231 #[.slice p l.length c] w fun e w'=>Qg1 Lay.int w w' l e:=by
 have A:Hid _:=i;have z:Hid _:=Qk4 i;clear i;have q:=fun u=>run_make_row' (P:=prog) 76 3 (Iv 0) 8 underIs infoI Z .i64 .i64 l.length (by omega) (by omega) u
 have b:(w.alloc (.cells (madeCells #[Iv 0] l.length) 3)).heap[w.heap.size]?=some (.cells (madeCells #[Iv 0] l.length).toList.toArray 3 (0,0)):=by
  rw[Array.toArray_toList];exact Qe w _ _
 have g:(iv l).length=Nat.min l.length l.length:=by rw[QcZ];exact(Nat.min_self _).symm
 have f:Hid (0<(iv l).length->(some ⟨w.heap.size,0,none⟩:Option Addr)=some ⟨w.heap.size,0,none⟩/\∃ m,p=some m/\∀ j v,(iv l)[j]?=some v->(w.alloc (.cells (madeCells #[Iv 0] l.length) 3)).cell? (m.add j)=some v):=by
  intro r;rw[QcZ] at r
  obtain⟨m,e,n,s⟩:=QjW A.out r
  exact⟨Z,m,e,fun j v t=>(XU (w:=w) (a:=m.add j) (Below.heap_alloc _ _ _ (by unfold Addr.add;split<;>exact n))).trans (s j v t)⟩
 have h:0+(iv l).length<=(madeCells #[Iv 0] l.length).toList.length:=by rw[QcZ,toList_madeCells_one];simp
 have k:Hid (Below w.heap.size w (w.alloc (.cells (madeCells #[Iv 0] l.length) 3))):=(Below.refl _ w).alloc Ze _;go_enter func231,ntmps231
 go_wp2_with (refine wpList_copy_splice Z (.tmp 7) (.tmp 8) 76 76 Z 3 underIs infoI1 _ _ l.length l.length l.length c Z Z w.heap.size 0 (madeCells #[Iv 0] l.length).toList 3 b (iv l) g f.out h (QmD l) w.heap.size w k.out Ze ?_)
 ·intro w' o d;clear f h k b g
  have R:Hid (Qg1 Lay.int w w' l (.returned (.slice (some ⟨w.heap.size,0,none⟩) l.length l.length))):=by
   have x:splice (madeCells #[Iv 0] l.length).toList 0 (iv l)=iv l:=by
    rw[toList_madeCells_one];simp[splice,QcZ]
   rw[x] at o
   refine⟨_,_,Z,QkE ⟨by rw[QcZ,XL],Or.inr ⟨w.heap.size,l.length,(iv l).toArray,Z,Ze,o.out,Ze,by unfold maxLen;omega,by simp[QcZ],?_⟩⟩ z.out,d⟩
   rw[XL,<-QcZ l];simp
  clear o d q;go_wp2
  go_ret;exact R.out
theorem QaK {rest:List Oper}{o:Oper}{a:Act}{Q:Exit->Act->World->Prop}(c:o.guard=none) (s x:Operand) (t:TypeId)
 (g:o.op=.call { callee:=.builtin .append,args:=#[s,x],argTypes:=#[t,t] }) (v d:Value) (i:a.eval s=v) (e:a.eval x=d) (b:(Builtin.append_ #[t,t] o.type #[v,d]).run P w=.ok v w)
 (h:wpList P ops Q rest (a.put o.dst v) w):wpList P ops Q (o::rest) a w:=by
 refine wpList_plain c fun K f=>?_;unfold Oper.wp;simp[execOp,g,resolve,invoke,builtin,i,e,b,Result.andThen]
 exact f _ _ h
abbrev FV:Value:=.func (.func 261) #[] #[]
theorem QiS (n:Nat) (K:Qh1 261 n) (l m:List (TT n)) (a b:Option Addr) (c d:Nat) (w:World) (z:LIn w All l a) (I:LIn w All m b) (aa:l.length<=100000) (u:∀ x∈l,x.count<=100000) :
 Calls prog 260 #[.slice a l.length c,.slice b m.length d,FV] w fun e w'=>ZL e (l=m)/\Below w.heap.size w w':=by
 have IH:Hid (Qh1 261 n):=K;have hl:Hid (LIn w All l a):=z;have hm:Hid (LIn w All m b):=I;have P:Hid (∀ x∈l,x.count<=100000):=u;clear K z I u;by_cases k:l.length=m.length
 ·have H:((l.length:Int) != (m.length:Int))=false:=by simp;omega
  have E:Hid (l.length=m.length):=k;clear k;go_enter func260,ntmps260
  go_wp2_with fail
  go_loopw [17] (fun i wr=>∃ q:Nat,q<=l.length/\i=Iv q/\(∀ j,j<q->l[j]?=m[j]?)/\Below w.heap.size w wr) (fun i _=>l.length - (intOf i).toNat)
  case atStart=>exact⟨0,Xb _,Z,fun j hj=>by omega,Zr⟩
  case round =>
   obtain⟨q,hq,rfl,v,D⟩:=hrel
   have A:Hid (∀ j,j<q->l[j]?=m[j]?):=v;have B:Hid (Below w.heap.size w wr):=D;clear v D;by_cases O:q<l.length
   ·have J:l[q]?=some l[q]:=Zg O;have Q:q<m.length:=by have:=E.out;omega
    have L:m[q]?=some m[q]:=Zg Q;generalize l[q]=x at J;generalize m[q]=y at L;obtain⟨g,o,X,c',rfl,_,T,d1,d2,hk⟩:=LIn.at (hl.out.below B.out) J
    obtain⟨g',o',U,W,rfl,_,V,d4,d5,G⟩:=LIn.at (hm.out.below B.out) L
    have C:Hid (∀ F,Below wr.heap.size wr F->Calls prog 261 #[Tv x X c',Tv y U W] F fun e w'=>ZL e (x=y)/\Below F.heap.size F w') :=
     fun F D=>IH.out x y X U c' W _ (hk.below D) (G.below D) (P.out x (Zm J))
    have t:Hid (l[q]?=some x):=J;have f:Hid (m[q]?=some y):=L;have hg:g<wr.heap.size:=Xi wr ⟨g,o+q*3,none⟩ T;have ab:g'<wr.heap.size:=Xi wr ⟨g',o'+q*3,none⟩ V;clear hk G J L;simp only[Tv] at C
    generalize x.kind=kx at C T;generalize x.r=rx at C d1;generalize x.len=lx at C d2;generalize y.kind=ky at C V;generalize y.r=ry at C d4;generalize y.len=ly at C d5;have ad:(0:Int)<=q:=by omega
    have S:(q:Int)<l.length:=by omega
    have ac:(q:Int)<m.length:=by omega
    go_wp2_with fail
    have N:Below wr.heap.size wr ((wr.alloc (.cells #[Iv kx,Iv rx,.slice X lx c'] 105)).alloc (.cells #[Iv ky,Iv ry,.slice U ly W] 105)):=((Below.refl _ wr).alloc Ze _).alloc (by simp) _;refine(C.out _ N).mono ?_
    rintro r w5 ⟨⟨p,rfl,M⟩,b5⟩;have HB:Hid (Below w.heap.size w w5):=(B.out.trans (N.mono B.out.size)).trans (b5.mono (Zt B.out.size N.size));clear C b5 B T d1 d2 V d4 d5 N
    cases p with
    | true =>
      have s:x=y:=M.1 Z
      have A2:Hid (∀ j,j<q+1->l[j]?=m[j]?):=fun j hj=>by
       by_cases e:j=q
       ·subst e;rw[t.out,f.out,s]
       ·exact A.out j (by omega)
      clear M s t f A;go_wp2
      go_roundw
      case rel=>exact⟨q+1,by omega,by go_num,A2.out,HB.out⟩
      case measure=>simp[intOf];omega
    | false =>
      have s:Hid (¬ l=m):=fun h=>by
       have h1:=t.out;rw[h,f.out] at h1
       have:=M.2 (Xn h1).symm
       cases this
      clear M t f A;go_wp2
      go_ret;exact⟨ZL.no s.out,HB.out⟩
   ·have R:Hid (l=m):=by
     have:=E.out
     refine List.ext_getElem? (fun i=>?_);by_cases hi:i<q
     ·exact A.out i hi
     ·rw[Xk (by omega),Xk (by omega)]
    have S:¬ (q:Int)<l.length:=by omega
    clear A;go_wp2
    go_ret;exact⟨ZL.yes R.out,B.out⟩
 ·have H:((l.length:Int) != (m.length:Int))=true:=by simp;omega
  have E:Hid (l.length≠m.length):=k;clear k;go_enter func260,ntmps260
  go_wp2
  go_ret;exact⟨ZL.no (fun h=>E.out (by rw[h])),Zr⟩
theorem same_any:∀ n,Qh1 261 n:=by
 intro n
 induction n with
 | zero=>intro t;exact Empty.elim t
 | succ n ih =>
   intro t u a b c d w z A I;have i:∀ x∈t.2.2,x.count<=100000:=fun x J=>by have:=t.count_kid J;omega
   have f:t.2.2.length<=100000:=by have:=t.len_lt_count;rw[t.len_eq] at this;omega
   have C:Hid (∀ g,Below w.heap.size w g->Calls prog 260 #[.slice a t.2.2.length c,.slice b u.2.2.length d,FV] g fun e K=>ZL e (t.2.2=u.2.2)/\Below g.heap.size g K) :=
    fun g y=>QiS n ih t.2.2 u.2.2 a b c d g (z.below y) (A.below y) f i
   rw[TT.eq_iff]
   simp only[Tv,TT.len_eq] at C |-
   generalize t.2.2.length=p at C |-;generalize u.2.2.length=q at C |-;generalize (t.2.2=u.2.2)=E at C |-;generalize t.kind=k;generalize t.r=r;generalize u.kind=o;generalize u.r=s;clear i f I z A ih t u;by_cases m:k=o
   ·subst m;by_cases j:r=s
    ·subst j;go_enter func261,ntmps261
     go_wp2_with fail
     have l:Below w.heap.size w ((w.alloc (.cells #[Iv k,Iv r,.slice a p c] 105)).alloc (.cells #[Iv k,Iv r,.slice b q d] 105)):=((Below.refl _ w).alloc Ze _).alloc (by simp) _;refine(C.out _ l).mono ?_
     rintro e G ⟨⟨v,rfl,D⟩,F⟩;have B:Hid (Below w.heap.size w G):=l.trans (F.mono l.size);have V:Hid (v=true↔E):=D;clear F C D l
     cases v
     all_goals
      go_wp2
      go_ret
     ·exact⟨ZL.no (fun h=>by have:=V.out.2 h.2.2;cases this),B.out⟩
     ·exact⟨ZL.yes (by have:=V.out;simpa using this),B.out⟩
    ·have L:(r==s)=false:=by simpa using j
     have R:Hid (¬ r=s):=j;clear j;go_enter func261,ntmps261
     go_wp2_with fail
     go_ret;exact⟨ZL.no (fun h=>R.out h.2.1),((Below.refl _ w).alloc Ze _).alloc (by simp) _⟩
   ·have H:(k==o)=false:=by simpa using m
    have R:Hid (¬ k=o):=m;clear m;go_enter func261,ntmps261
    go_wp2_with fail
    go_ret;exact⟨ZL.no (fun h=>R.out h.1),((Below.refl _ w).alloc Ze _).alloc (by simp) _⟩
section
variable {α:Type}{A:Lay α}{e:TypeId}{w w':World}{lo g n q s:Nat}{l:List α}{xs:List Value}{x:α}{ds:List Value}
theorem Qap.start (p:A.size=s) (h:w.ownsRow lo e s (.slice (some ⟨g,0,none⟩) m m) m xs):Qap A e w lo (.slice (some ⟨g,0,none⟩) 0 m) (l.take 0) []:=by
 subst p;obtain⟨r,n⟩:=h
 rcases n with ⟨a,_⟩|⟨t,j,f,a,k,q,o,d,c,b⟩
 ·simp at a
 ·simp only[Value.slice.injEq,Option.some.injEq,Addr.mk.injEq,and_true,true_and] at a
  obtain⟨rfl,rfl⟩:=a
  exact⟨⟨by simp,.inr ⟨g,m,f,Z,k,q,Xb _,d,c,by simp⟩⟩,fun i x h=>by simp at h⟩
theorem Qap.blk (h:Qap A e w lo (.slice (some ⟨g,0,none⟩) q n) l xs) (o:A.size=s):∃ c,Blk w g c e/\c.size=n*s:=by
 subst o;obtain⟨t,j⟩:=h.own
 rcases j with ⟨a,_⟩|⟨u,i,f,a,r,p,k,m,d,b⟩
 ·simp at a
 ·simp only[Value.slice.injEq,Option.some.injEq,Addr.mk.injEq,and_true,true_and] at a
  obtain⟨rfl,-,rfl⟩:=a
  exact⟨f,p,d⟩
theorem Qap.fillq (h:Qap A e w lo (.slice (some ⟨g,0,none⟩) q n) (l.take q) xs) (f:A.size=s) (i:q<l.length) (j:l.length=n) (b:l[q]?=some x) (c:A.In w (fun k=>lo<=k/\k≠g) x ds) (d:w'=w.setCells g (0+q*s) ds) :
 ∃ xs',Qap A e w' lo (.slice (some ⟨g,0,none⟩) (q+1) n) (l.take (q+1)) xs':=by
 subst f d;have a:(l.take q).length=q:=by simp;omega
 have T:l.take (q+1)=l.take q++[x]:=by rw[XV,b];rfl
 have:=Qap.fill (l:=l.take q) (g:=g) (n:=n) (by rw[a];exact h) c (by omega)
 rw[a] at this
 rw[T,XK]
 exact⟨_,this⟩
theorem Qap.done (h:Qap A e w lo (.slice (some ⟨g,0,none⟩) q n) (l.take q) xs) (a:q=l.length):A.list.In w (Qcv lo) l [.slice (some ⟨g,0,none⟩) l.length n]:=by
 have:=h.lay
 subst a;rw[List.take_length] at this
 exact this
end
theorem QbH {z:Value}{s:Nat}(h:(prog.info? t).map (fun i=>(i.zero,i.size,i.bytes))=some (some z,s,b)):∃ i,prog.info? t=some i/\i.zero=some z/\i.size=s/\i.bytes=b:=by
 obtain⟨i,a,e⟩:=Option.map_eq_some_iff.1 h
 simp only[Prod.mk.injEq] at e
 exact⟨i,a,e⟩
theorem infoIns:(prog.info? 78).map (fun i=>(i.zero,i.size,i.bytes))=some (some (.agg #[Iv 0,Iv 0,Iv 0,Iv 0,Iv 0,Iv 0,Nv,Nv]),8,96):=by kernel_rfl
theorem infoBlock:(prog.info? 86).map (fun i=>(i.zero,i.size,i.bytes))=some (some (.agg #[Iv 0,Nv,Nv,Iv 0,Iv 0,Iv 0,Nv,Nv,Iv 0,Nv,Nv,Nv]),12,208):=by kernel_rfl
theorem infoFunc:(prog.info? 89).map (fun i=>(i.zero,i.size,i.bytes))=some (some (.agg #[Iv 0,Nv,Nv,Nv]),4,80):=by kernel_rfl
section
open Go.Deep
def Wt {H:Type}(P:Program) (t:TypeId) (d:DataW H):Prop:=∀ n∈d.weights P t,n<=reachBytes
def Qy (P:Program) (t:TypeId){α:Type}(A:Lay α) (n:Nat) (Bd:α->Prop):Prop :=
 P.cellsOf t=A.size/\∀ {H:Type} {enc:TypeId × Value->H} {w:World} {base:Nat} {spare:Nat->Bool} {held:Bool} {fuel:Nat} {cs:List Value} {x:DataW H × List MemPlace},
  fuel<=n->DataW.trod enc P w base spare held fuel t cs=some x->Wt P t x.1->∃ d,A.In w (fun _=>True) d cs/\Bd d
theorem Qy.int (n:Nat) (h:P.underlying t=some (.int .i64)) (a:P.cellsOf t=1):Qy P t Lay.int n (fun _=>True) :=
 ⟨a,fun _ b _=>by
  obtain⟨k,e,_,c⟩:=DataW.trod_int h b
  exact⟨k,⟨e,Go.bounds_i64 c⟩,Y⟩⟩
theorem Qbf {H:Type}{P:Program}{e:TypeId}:∀ {l:List (DataW H)}{d:DataW H},d∈l->∀ n∈d.weights P e,n∈DataW.weightsAll P e l
 | d0::l,d,h,n,hn=>by
   simp only[DataW.weightsAll,List.mem_append]
   rcases List.mem_cons.1 h with rfl | h
   ·exact .inl hn
   ·exact .inr (Qbf h n hn)
theorem Qy.list {α:Type}{A:Lay α}{Bd:α->Prop}(h:P.underlying t=some (.slice e)) (hc:P.cellsOf t=1) (W:Qy P e A n Bd) (G:0<A.size) (L:0<P.bytesOf e):Qy P t A.list n (fun l=>l.length<1152921504606846976) :=
 ⟨hc,fun {H ac w C O V aa cs x} hf h' hw=>by
  rcases DataW.trod_slice h h' with ⟨N,_⟩|⟨a,p,K,c,f,q,rfl,N,U,hb,hl,hm,ab,J,_,_⟩
  ·exact⟨[],by rw[N];exact Yg A _ _ _ _,by simp⟩
  ·have ae:(c.length+f.length)*P.bytesOf e<=reachBytes:=hw _ (by rw[U];simp[DataW.weights,h])
   have af:p<1152921504606846976:=by
    have h1:c.length*1<=(c.length+f.length)*P.bytesOf e:=Nat.mul_le_mul (by omega) L;have h2:reachBytes<1152921504606846976:=by decide
    omega
   have B:∀ i,i<p->∃ y,c[i]?=some y/\Wt P e y.1:=fun i v=>by
    refine⟨c[i]'(by omega),Zg (by omega),fun k hk=>hw k ?_⟩
    rw[U]
    simp only[DataW.weights,h,List.mem_cons,List.mem_append]
    exact .inr (.inl (Qbf (List.mem_map_of_mem (List.getElem_mem (by omega))) k hk))
   obtain⟨l,Q,X⟩:=QkG (P:=fun i (d:α)=>∃ g,w.cells? C (a.add (i*A.size)) A.size=some g/\A.In w (fun _=>True) d g) p (fun i v=>by
    have M:=J i v;obtain⟨y,hy,S⟩:=B i v
    rw[hy,W.1] at M
    rw[Option.bind_eq_some_iff] at M
    obtain⟨g,r,T⟩:=M
    obtain⟨d,F,_⟩:=W.2 (by omega) T S
    exact⟨d,g,r,F⟩)
   refine⟨l,⟨some a,K,by rw[N,Q],fun i x hx=>?_⟩,by omega⟩
   obtain⟨g,r,F⟩:=X i x hx
   obtain⟨_,ad,o⟩:=World.cells?_some r
   obtain⟨b,z,D⟩:=a
   have s:D=none:=by
    have v:0<l.length:=Nat.lt_of_le_of_lt (Xb i) (Zi hx).1;obtain⟨R,E,I⟩:=X 0 l[0] (Zg v)
    have m:0<R.length:=by rw[A.len I];exact G
    have:=(World.cells?_some E).2.2 0 G
    rw[Zg m] at this
    simpa[Addr.add] using World.cell?_spot this
   subst s
   have u:∀ j,j<A.size->w.cell? ⟨b,z+i*A.size+j,none⟩=g[j]?:=fun j hj=>by
    have:=o j hj
    rw[Go.WideShapes.add_plain,Go.WideShapes.add_plain] at this
    exact this
   refine⟨b,z,g,Z,Y,?_,u,F⟩
   have m:0<g.length:=by rw[A.len F];exact G
   have:=u 0 G
   rw[Zg m] at this
   exact Xi w _ this⟩
def QH (P:Program) (fs:Array Field):Nat->Nat->{α:Type}->Lay α->Nat->(α->Prop)->Prop:=fun i o α A n Bd =>
 ∀ (H:Type) (enc:TypeId × Value->H) (w:World) (base:Nat) (spare:Nat->Bool) (held:Bool) (fuel:Nat) (cs:List Value) (xs:List (DataW H × List MemPlace)),
  fuel<=n->cs.length=o+A.size->xs.length=fs.size->(∀ (j:Nat) (f:Field),fs[j]?=some f->DataW.trod enc P w base spare held fuel f.type ((cs.drop f.offset).take (P.cellsOf f.type))=xs[j]?) ->
  (∀ (j:Nat) (f:Field) x,fs[j]?=some f->xs[j]?=some x->Wt P f.type x.1)->∃ d,A.In w (fun _=>True) d (cs.drop o)/\Bd d
theorem QH.last {fs:Array Field}{o:Nat}{f:Field}{α:Type}{A:Lay α}{e:α->Prop}(a:fs[i]?=some f) (s:f.offset=o) (k:Qy P f.type A n e):QH P fs i o A n e:=by
 intro H m w c b j l v y p z u h r;have g:=h i f a;have x:i<fs.size:=(Array.getElem?_eq_some_iff.1 a).1;rw[Zg (by omega),s,k.1] at g
 obtain⟨d,t,q⟩:=k.2 p g (r i f _ a (Zg (by omega)))
 refine⟨d,?_,q⟩
 rwa [XO (by simp;omega)] at t
theorem QH.cons {fs:Array Field}{o:Nat}{f:Field}{α β:Type}{A:Lay α}{B:Lay β}{j:α->Prop}{p:β->Prop}(a:fs[i]?=some f) (z:f.offset=o) (l:Qy P f.type A n j) (y:QH P fs (i+1) (o+A.size) B n p):QH P fs i o (A.pair B) n (fun x=>j x.1/\p x.2):=by
 intro H t w m b k r E G s J D h q;have g:=h i f a;have F:i<fs.size:=(Array.getElem?_eq_some_iff.1 a).1;rw[Zg (by omega),z,l.1] at g
 obtain⟨d,C,u⟩:=l.2 s g (q i f _ a (Zg (by omega)))
 have I:(A.pair B).size=A.size+B.size:=rfl;obtain⟨e,v,c⟩:=y _ _ _ _ _ _ _ _ _ s (by omega) D h q
 refine⟨(d,e),⟨_,_,?_,C,v⟩,u,c⟩
 rw[<-List.drop_drop,List.take_append_drop]
theorem Qy.struct {fs:Array Field}{α:Type}{A:Lay α}{g:α->Prop}(h:P.underlying t=some (.struct fs)) (o:P.cellsOf t=A.size) (u:QH P fs 0 0 A n g):Qy P t A n g :=
 ⟨o,fun {H q w l e i p G x} F D B=>by
  obtain⟨I,m,rfl,v,a,b,c⟩:=DataW.trod_struct h D
  obtain⟨d,C,r⟩:=u _ _ _ _ _ _ _ _ _ (by omega) (by rw[a,o];omega) b c (fun j f y s z k E=>B k (by
   rw[v]
   simp only[DataW.weights,h]
   exact DataW.weights_mem_each (j:=j) (t:=f.type) (d:=y.1) (by simp[s]) (by simp[z]) k E))
  exact⟨d,by simpa using C,r⟩⟩
theorem Qy.via {α β:Type}{A:Lay α}{f:β->α}{a:α->Prop}(h:Qy P t A n a) (g:α->β) (b:∀ d,f (g d)=d):Qy P t (A.via f) n (fun x=>a (f x)) :=
 ⟨h.1,fun c j i=>by
  obtain⟨d,k,e⟩:=h.2 c j i
  exact⟨g d,by show A.In _ _ (f (g d)) _;rw[b];exact k,by show a (f (g d));rw[b];exact e⟩⟩
theorem own:ownKnob prog.godebug=none:=by kernel_rfl
theorem laidOut:laidOutB prog=true:=by kernel_rfl
theorem fieldsT:∃ f0 f1 f2:Field,prog.underlying 105=some (.struct #[f0,f1,f2]) /\
 (f0.offset=0/\prog.cellsOf f0.type=1/\prog.underlying f0.type=some (.int .i64))/\(f1.offset=1/\prog.cellsOf f1.type=1/\prog.underlying f1.type=some (.int .i64)) /\
 (f2.offset=2/\prog.cellsOf f2.type=1/\f2.type=80) :=
 ⟨_,_,_,underlying105,⟨Z,by kernel_rfl,by kernel_rfl⟩,⟨Z,by kernel_rfl,by kernel_rfl⟩,⟨Z,by kernel_rfl,Z⟩⟩
theorem Qmy (n:Nat):Qy prog 105 (Lay.tt n) n (fun _=>True) :=
 ⟨by kernel_rfl,fun {H h w f d g b u x} i q y=>by
  obtain⟨r,v,s,e,o,j,k⟩:=fieldsT
  obtain⟨t,a,c,p,l,m⟩:=Qm1 (ti:=0) underlying80 e (by kernel_rfl) o j k n b i q
  exact⟨t,⟨a,c,p,l,m⟩,Y⟩⟩
theorem QaU (n:Nat):Qy prog 3 Lay.int n (fun _=>True):=Qy.int n underlying3 (by kernel_rfl)
theorem Qma (n:Nat):Qy prog 2 Lay.int n (fun _=>True):=Qy.int n underlying2 (by kernel_rfl)
theorem Qfw (n:Nat):Qy prog 80 (Qo n) n (fun l=>l.length<1152921504606846976):=Qy.list underlying80 (by kernel_rfl) (Qmy n) (by show 0<3;decide) (by rw[show prog.bytesOf 105=40 from by kernel_rfl];decide)
end
def Qi4 {α:Type}(A:Lay α) (w w':World) (x:α) (e:Ending):Prop:=∃ ds:List Value,e=.returned (.agg ds.toArray)/\A.In w' (Qcv w.heap.size) x ds/\Below w.heap.size w w'
theorem Qm4 (a:World) (z:Array Value) (t:TypeId)(b:cs.length=z.size):(a.alloc (.cells z t)).there a.heap.size 0 cs.toArray.size/\Blk ((a.alloc (.cells z t)).setCells a.heap.size 0 cs) a.heap.size cs.toArray t/\Below a.heap.size a ((a.alloc (.cells z t)).setCells a.heap.size 0 cs):=by
 have c:=Blk.new a z t;refine⟨Blk.there c (by simp[b]),?_,?_⟩
 ·have d:Blk (a.alloc (.cells z t)) a.heap.size ([]++z.toList).toArray t:=c;exact Blk.sets cs [] z.toList _ (by simpa using b) d
 ·exact QJ Ze cs _ _ 0 (Zd a _)
theorem Blk.setsA {c:Array Value}(h:Blk w R c t) (a:List Value) (b:a.length=c.size):Blk (w.setCells R 0 a) R a.toArray t:=Blk.sets a [] c.toList w (by simpa using b) h
theorem infoType0:(prog.info? 105).map (fun i=>(i.zero,i.size,i.bytes))=some (some (.agg #[Iv 0,Iv 0,Nv]),3,40):=by kernel_rfl
theorem Qbk {z:Value}(h:(prog.info? t).map (fun i=>(i.zero,i.size,i.bytes))=some (some z,s,b)):(prog.info? t).map (·.size)=some s:=by
 obtain⟨i,c,-,a,-⟩:=QbH h
 rw[c];simp[a]
theorem Qb5 {fn:Func}{R:Ending->World->Prop}{a:Act}{t:Tmp}{b j:TypeId}{c:Array Value}{d:TypeDesc}(l:fn.results=#[.cell t b]) (e:a.tmps.getD t undef=Pv B 0) (i:a.defers=[]) (g:Blk w B c j)
 (h:prog.underlying b=some d) (m:d.isRow=true) (hi:(prog.info? b).map (·.size)=some c.size) (k:R (.returned (.agg c)) w):bodyPost prog fn R .ret a w:=by
 refine Xy ?_ i k;have f:=run_loadVar_mid (P:=prog) w B 0 b c.toList d (Blk.range (by simpa using g)) h m (by simpa using hi);simp only[Array.toArray_toList] at f
 rw[Za] at e
 simp[results,l,e,asAddr,f]
theorem Z1 {α:Type}{A:Lay α}{F K:FuncId}{l:List α}
 (hF:F=122/\A.size=3\/F=186/\A.size=8\/F=124/\A.size=12\/F=76/\A.size=4)
 (ab:Qak K) (G:A.list.In w All l [.slice p l.length c]) (hb:l.length<=4294967296) (T:∀ (w:World) (O:Nat->Prop) (x:α) (ds:List Value),A.In w O x ds->∀ v∈ds,v.oneCell'=true)
 (Q:∀ x∈l,∀ ds wx,A.In wx All x ds->Calls prog K #[.agg ds.toArray] wx fun e w'=>Qi4 A wx w' x e) :
 Calls prog F #[.slice p l.length c,.func (.func K) #[] #[]] w fun e w'=>Qg1 A w w' l e:=by
 have hl:=Qf G;have hf:=Qf Q;have h1:=Qf T;have hE:∀ (args:Array Value) (w:World),(callFunc K args).run prog w=.ok (.enter K args) w:=ab;clear G Q T ab;rcases hF with ⟨rfl,s⟩|⟨rfl,s⟩|⟨rfl,s⟩|⟨rfl,s⟩
 have N:=underlying105;have r:=Qbk infoType0;have H:=Qf fun (wx:World) (cs:List Value) (h:cs.length=3)=>Qm4 wx #[Iv 0,Iv 0,Nv] 105 h;obtain⟨z,t,b,d,f⟩:=QbH infoType0
 obtain⟨D,y,a,m⟩:=run_make_full (P:=prog) w w.heap.size 80 105 z _ 3 underlying80 t b d .i64 .i64 l.length (by rw[f];omega) (by unfold maxLen;omega) Ze
 clear t b d f;have J:Hid (Below w.heap.size w D):=(Below.refl _ w).grown m Ze (fun k r=>by cases r);have S:=Qf (Qap.start (l:=l) s a);clear m a;go_enter func122,ntmps122
 rotate_left
 have N:=underlying78;have r:=Qbk infoIns;have H:=Qf fun (wx:World) (cs:List Value) (h:cs.length=8)=>Qm4 wx #[Iv 0,Iv 0,Iv 0,Iv 0,Iv 0,Iv 0,Nv,Nv] 78 h;obtain⟨z,t,b,d,f⟩:=QbH infoIns
 obtain⟨D,y,a,m⟩:=run_make_full (P:=prog) w w.heap.size 79 78 z _ 8 underlying79 t b d .i64 .i64 l.length (by rw[f];omega) (by unfold maxLen;omega) Ze
 clear t b d f;have J:Hid (Below w.heap.size w D):=(Below.refl _ w).grown m Ze (fun k r=>by cases r);have S:=Qf (Qap.start (l:=l) s a);clear m a;go_enter func186,ntmps186
 rotate_left
 have N:=underlying86;have r:=Qbk infoBlock;have H:=Qf fun (wx:World) (cs:List Value) (h:cs.length=12)=>Qm4 wx #[Iv 0,Nv,Nv,Iv 0,Iv 0,Iv 0,Nv,Nv,Iv 0,Nv,Nv,Nv] 86 h;obtain⟨z,t,b,d,f⟩:=QbH infoBlock
 obtain⟨D,y,a,m⟩:=run_make_full (P:=prog) w w.heap.size 87 86 z _ 12 underlying87 t b d .i64 .i64 l.length (by rw[f];omega) (by unfold maxLen;omega) Ze
 clear t b d f;have J:Hid (Below w.heap.size w D):=(Below.refl _ w).grown m Ze (fun k r=>by cases r);have S:=Qf (Qap.start (l:=l) s a);clear m a;go_enter func124,ntmps124
 rotate_left
 have N:=underlying89;have r:=Qbk infoFunc;have H:=Qf fun (wx:World) (cs:List Value) (h:cs.length=4)=>Qm4 wx #[Iv 0,Nv,Nv,Nv] 89 h;obtain⟨z,t,b,d,f⟩:=QbH infoFunc
 obtain⟨D,y,a,m⟩:=run_make_full (P:=prog) w w.heap.size 22 89 z _ 4 underlying22 t b d .i64 .i64 l.length (by rw[f];omega) (by unfold maxLen;omega) Ze
 clear t b d f;have J:Hid (Below w.heap.size w D):=(Below.refl _ w).grown m Ze (fun k r=>by cases r);have S:=Qf (Qap.start (l:=l) s a);clear m a;go_enter func76,ntmps76
 rotate_left
 all_goals
  go_wp2_with fail
  go_loopw [13] (fun i wr=>∃ q:Nat,q<=l.length/\i=Iv q/\(∃ e xs,Qap A e wr w.heap.size (.slice (some ⟨w.heap.size,0,none⟩) q l.length) (l.take q) xs)/\Below w.heap.size w wr) (fun i _=>l.length - (intOf i).toNat)
  case atStart=>exact⟨0,Xb _,Yz,⟨_,_,S.out⟩,J.out⟩
  case round =>
   obtain⟨q,hq,rfl,⟨e,xs,hA⟩,hB⟩:=hrel
   have I:=Qf hA;have E:=Qf hB;clear hA hB J S y;obtain⟨B,ac⟩:∃ B,B=wr:=⟨_,Yz⟩
   subst ac;by_cases L:q<l.length
   rotate_left
   ·have aa:¬ (q:Int)<l.length:=by omega
    have R:Hid (Qg1 A w B l (.returned (.slice (some ⟨w.heap.size,0,none⟩) l.length l.length))):=⟨_,_,Yz,I.out.done (by omega),E.out⟩;clear I E;go_wp2
    go_ret;exact R.out
   have aa:(q:Int)<l.length:=by omega
   have X:l[q]?=some l[q]:=Zg L;generalize l[q]=x at X;obtain⟨g,o,ds,rfl,-,-,E3,I3⟩:=Yf (Ya hl.out E.out) X
   have hn:=A.len I3;rw[s] at hn E3
   have RG:=Qf (show B.rangeAt g (o+q*_) ds from fun j v hj=>(E3 j (by rw[<-hn];exact(Zi hj).1)).trans hj);have TO:=Qf (all_oneCell_toArray (h1.out _ _ _ _ I3));obtain⟨M1,M2,M3⟩:=H.out B ds hn
   have HM:=Qf M1;have W:=Qf (r.trans (congrArg some hn.symm));have CC:=Qf (hf.out x (Zm X) ds _ (Ya I3 M3));have B2:=Qf M2;have V:=Qf M3;have HX:=Qf X;clear M1 M2 M3 E3 I3 X hn;go_upto_region 5 with (first | (refine wpList_load_mid Yz _ (.tmp 16) Yz g _ Yz ds _ RG.out N Yz W.out ?_) | (refine wpList_store_mid Yz _ (.tmp 7) (.tmp 17) Yz B.heap.size 0 ds.toArray Yz Yz HM.out W.out TO.out ?_))
   clear HM RG TO;generalize World.setCells _ _ _ _=w3 at B2 V CC |-;generalize B.heap.size=Z at B2 |-;have RZ:Hid (w3.rangeAt Z 0 ds):=Blk.range B2.out;clear B2;go_wp2_with (refine wpList_load_mid Yz _ (.tmp 7) Yz Z 0 Yz ds _ RZ.out N Yz W.out ?_)
   refine CC.out.mono ?_;rintro _ w8 ⟨d2,rfl,I8,B8⟩;have u:=A.len I8;rw[s] at u
   have b8:=V.out.trans (B8.mono V.out.size);have C:=I.out.below b8;obtain⟨cg,M,U⟩:=C.blk s
   have s1:=(I.out.lo_le (g:=w.heap.size) Yz).2;have s2:=V.out.size;have NX:=Qf (C.fillq s L Yz HX.out (Yc I8 (fun k r _=>⟨by have:_<=k:=r;omega,by have:_<=k:=r;omega⟩)) Yz);have BX:=Qf (QJ Ze d2 _ _ (q*A.size) (E.out.trans (b8.mono E.out.size)));have TO:=Qf (all_oneCell_toArray (h1.out _ _ _ _ I8));have W:=Qf (r.trans (congrArg some u.symm));have HT:=Qf (Blk.there (o:=q*A.size) (n:=d2.length) M (by rw[U,u,s];omega));clear u b8 C M U I8 B8 CC RZ V I E hl hf h1 H s1 s2;rw[XK] at NX
   rw[s] at BX HT
   go_wp2_with (refine wpList_store_mid Yz _ (.tmp 23) (.tmp 22) Yz w.heap.size _ d2.toArray Yz Yz HT.out W.out TO.out ?_)
   go_roundw
   case rel=>exact⟨q+1,by omega,by go_num,(by obtain⟨_,h⟩:=NX.out;exact⟨_,_,h⟩),BX.out⟩
   case measure=>simp[intOf];omega
structure Bxs (w wx:World) (l:List (Nat × Array Value × TypeId)):Prop where
 bel:Below w.heap.size w wx
 ge:∀ b∈l,w.heap.size<=b.1
 box:∀ b∈l,Blk wx b.1 b.2.1 b.2.2
 nd:(l.map (·.1)).Nodup
section
variable {w wx w':World}{l a z:List (Nat × Array Value × TypeId)}{B:Nat}{c:Array Value}{t:TypeId}
theorem Bxs.start (w:World):Bxs w w []:=⟨Zr,fun _ h=>by simp at h,fun _ h=>by simp at h,by simp⟩
theorem Bxs.below (h:Bxs w wx l) (k:Below wx.heap.size wx w'):Bxs w w' l:=⟨h.bel.trans (k.mono h.bel.size),h.ge,fun b a=>(h.box b a).below k,h.nd⟩
theorem Bxs.drewN (h:Bxs w wx l) (n:Nat):Bxs w (wx.drewN n) l:=h.below (QI Zr n)
theorem Bxs.drew (h:Bxs w wx l):Bxs w wx.drew l:=h.drewN 1
theorem Bxs.add (h:Bxs w wx l) (d:Blk wx B c t) (f:w.heap.size<=B) (g:∀ b∈l,b.1≠B):Bxs w wx ((B,c,t)::l) :=
 ⟨h.bel,fun b a=>by rcases List.mem_cons.1 a with rfl | e;exact f;exact h.ge b e,fun b a=>by rcases List.mem_cons.1 a with rfl | e;exact d;exact h.box b e,by
  simp only[List.map_cons,List.nodup_cons]
  refine⟨fun e=>?_,h.nd⟩
  obtain⟨b,a,e⟩:=List.mem_map.1 e
  exact g b a e⟩
theorem Bxs.new (h:Bxs w wx l) (c:Array Value) (t:TypeId):Bxs w (wx.alloc (.cells c t)) ((wx.heap.size,c,t)::l) :=
 (h.below (Zd _ _)).add (Blk.new _ _ _) h.bel.size (fun b a e=>by have:=(h.box b a).lt;omega)
theorem Bxs.made (h:Bxs w wx l) (k:Below wx.heap.size wx w') (d:Blk w' B c t) (f:wx.heap.size<=B):Bxs w w' ((B,c,t)::l) :=
 (h.below k).add d (Zt h.bel.size f) (fun b a e=>by have:=(h.box b a).lt;omega)
theorem Bxs.at (h:Bxs w wx (a++(B,c,t)::z)):Blk wx B c t:=h.box (B,c,t) (by simp)
theorem Bxs.cell (h:Bxs w wx (a++(B,c,t)::z)) (i:Nat) (v:Value) (b:c[i]?=some v):wx.cell? ⟨B,i,none⟩=some v:=Qb h.at i v b
theorem Bxs.free (h:Bxs w wx (a++(B,c,t)::z)) (i:Nat):wx.frozen? ⟨B,i,none⟩=false:=Qj h.at i
theorem Bxs.set (h:Bxs w wx (a++(B,c,t)::z)) (i:Nat) (v:Value):Bxs w (wx.setCell ⟨B,i,none⟩ v) (a++(B,c.setIfInBounds i v,t)::z):=by
 have f:∀ b∈a++z,b.1≠B:=fun b d e=>by
  have g:=h.nd;rw[List.map_append,List.map_cons,List.nodup_append] at g
  obtain⟨-,j,k⟩:=g
  rw[List.nodup_cons] at j
  rcases List.mem_append.1 d with d | d
  ·exact k b.1 (List.mem_map_of_mem d) B (by simp) e
  ·exact j.1 (List.mem_map.2 ⟨b,d,e⟩)
 refine⟨h.bel.setCell (p:=⟨B,i,none⟩) (h.ge (B,c,t) (by simp)) v,fun b d=>?_,fun b d=>?_,?_⟩
 ·simp only[List.mem_append,List.mem_cons] at d
  rcases d with d | rfl | d
  ·exact h.ge b (by simp[d])
  ·exact h.ge (B,c,t) (by simp)
  ·exact h.ge b (by simp[d])
 ·simp only[List.mem_append,List.mem_cons] at d
  rcases d with d | rfl | d
  ·exact(Xd _ _ _ _ (f b (by simp[d]))).trans (h.box b (by simp[d]))
  ·have:=Qh h.at i v
   simpa using this
  ·exact(Xd _ _ _ _ (f b (by simp[d]))).trans (h.box b (by simp[d]))
 ·have:=h.nd
  simpa using this
end
def NuI (lo:Nat) (l:List Int) (v:Value) (w:World):Prop:=∃ p c,v=.slice p l.length c/\intsL.In w (Qcv lo) l [v]
theorem NuI.below {lo:Nat}(b:Below w.heap.size w w') (h:NuI lo l v w):NuI lo l v w':=by
 obtain⟨p,c,rfl,h⟩:=h
 exact⟨p,c,Z,Ya h b⟩
theorem NuI.move {lo a:Nat}(h:NuI lo l v w) (e:∀ k,lo<=k->w'.heap[k]?=w.heap[k]?) (d:a<=lo):NuI a l v w':=by
 obtain⟨p,c,rfl,h⟩:=h
 exact⟨p,c,Z,intsL.keep (fun k b _=>e k b) (fun k b _=>Zt d b) h⟩
theorem Qlk {F:FuncId}(hF:F=232/\(∃ n,cs=[Iv n])\/F=187/\∃ a b c d e f,cs=[Iv a,Iv b,Iv c,Iv d,Iv e,Iv f])
 {l j:List Int}    (E:intsL.In w All l [.slice pR l.length cR]) (C:intsL.In w All j [.slice pA j.length cA]) (b1:l.length<=4294967296) (b2:j.length<=4294967296) :
 Calls prog F #[.agg (cs++[Value.slice pR l.length cR,Value.slice pA j.length cA]).toArray] w fun e w'=>∃ u v,e=.returned (.agg (cs++[u,v]).toArray)/\NuI w.heap.size l u w'/\NuI w.heap.size j v w'/\Below w.heap.size w w':=by
 have D:=Qf E;have hg:=Qf C;clear E C;obtain⟨o,L⟩:∃ o,cs.length=o:=⟨_,Z⟩
 obtain⟨A,r⟩:∃ o,cs.length+1=o:=⟨_,Z⟩
 rcases hF with ⟨rfl,n,rfl⟩|⟨rfl,n1,n2,n3,n4,n5,n6,rfl⟩
 have p:=Qf (((Bxs.start w).new #[Iv n,.slice pR l.length cR,.slice pA j.length cA] 82).new #[Iv 0,Nv,Nv] 82);have U:=underlying82;have q:(prog.info? 82).map (·.size)=some 3:=by kernel_rfl
 go_enter func232,ntmps232
 rotate_left
 have p:=Qf (((Bxs.start w).new #[Iv n1,Iv n2,Iv n3,Iv n4,Iv n5,Iv n6,.slice pR l.length cR,.slice pA j.length cA] 78).new #[Iv 0,Iv 0,Iv 0,Iv 0,Iv 0,Iv 0,Nv,Nv] 78);have U:=underlying78;have q:(prog.info? 78).map (·.size)=some 8:=by kernel_rfl
 go_enter func187,ntmps187
 all_goals
  go_upto_region 1 with fail
  generalize World.alloc (World.alloc w _) _=s at p |-;have X:s.cell? ⟨w.heap.size,o,none⟩=some (.slice pR l.length cR):=p.out.cell (a:=[_]) o _ (by subst L;rfl);have S:s.cell? ⟨w.heap.size,A,none⟩=some (.slice pA j.length cA):=p.out.cell (a:=[_]) A _ (by subst r;rfl);simp only[List.length_cons,List.length_nil,Nat.zero_add,Nat.reduceAdd] at L r
  refine Qg 7 (Qlw [(5,NuI s.heap.size l),(8,NuI s.heap.size j)] [(1,Pv w.heap.size 0),(3,Pv w.heap.size o),(4,.slice pR l.length cR),(6,Pv w.heap.size A),(7,.slice pA j.length cA),(9,Pv w.heap.size o)]) (fun I=>Below s.heap.size s I) (fun w w'=>Below w.heap.size w w') (by kernel_rfl) (outs:=[1]) (gs:=[]) (bs:=[true,true,true,true,true,true,true]) (n:=12) Z Ze (by kernel_rfl) (by kernel_rfl) ?hR ?hG (QI Zr 1) ⟨Z,Y⟩ ?hA ?hend
  case hR=>exact fun t v w w' D h=>h.keep ⟨NuI.below D,NuI.below D,Y⟩
  case hG=>exact Y
  case hA =>
   subst L r
   repeat
    refine⟨fun a I g i K hK=>?_,?_⟩
    focus
     obtain⟨k0,-⟩:=i
     conv at k0=>whnf;rhs;whnf
     have c0:=Qk X g;have c1:=Qk S g;have hw:=p.out.bel.trans (g.mono p.out.bel.size);go_simp
     first
      | with_reducible refine Xm (QaX _ _ _ I (Ya D.out hw) b1) ?_
        rintro e w9 ⟨O,V,rfl,Q,B⟩;exact hK _ _ B (g.trans (B.mono g.size)) ⟨O,V,Z,Yc Q (fun k i _=>Zt g.size i)⟩
      | with_reducible refine Xm (QaX _ _ _ I (Ya hg.out hw) b2) ?_
        rintro e w9 ⟨O,V,rfl,Q,B⟩;exact hK _ _ B (g.trans (B.mono g.size)) ⟨O,V,Z,Yc Q (fun k i _=>Zt g.size i)⟩
      | exact hK _ _ Zr g Z
   trivial
  case hend =>
   rintro P x y g i;have J:NuI _ _ (x 5) y:=i 5 (by kernel_rfl);have G:NuI _ _ (x 8) y:=i 8 (by kernel_rfl);obtain⟨p5,c5,W,-⟩:=id J
   obtain⟨p8,c8,T,-⟩:=id G
   rw[W] at J
   rw[T] at G
   have e9:x 9=Pv w.heap.size o:=i 9 (by kernel_rfl);have M:=p.out.below g;have c0:=Qk X g;have c1:=Qk S g;have z0:=M.free (a:=[_]) o;have z1:=M.free (a:=[_]) A;have H:=(M.set (a:=[_]) o (.slice p5 l.length c5)).set (a:=[_]) A (.slice p8 j.length c8);have R:=Qf (H.at (a:=[_]));have e1:∀ o,(w.alloc o).heap.size=w.heap.size+1:=fun o=>by simp
   have z:=H.at (a:=[]);have m:=(p.out.at (a:=[])).lt;rw[e1] at z m
   replace z:=Qf z;replace m:=Qf m;clear e1;have E6:=Qf H.bel;have K5:=Qf J;have K8:=Qf G
   have hO:Hid (∀ k,s.heap.size<=k->((y.setCell ⟨w.heap.size,o,none⟩ (.slice p5 l.length c5)).setCell ⟨w.heap.size,A,none⟩ (.slice p8 j.length c8)).heap[k]?=y.heap[k]?):=fun k h=>by
    have:=(p.out.at (a:=[_])).lt
    rw[Xd _ _ _ _ (show k≠w.heap.size by omega),Xd _ _ _ _ (show k≠w.heap.size by omega)]
   subst L r;show wpList _ P _ [_,_,_] (QN _ x [3,4,5,6,7,8,9]) y;simp only[QN,Act.put,List.setIfInBounds_toArray,List.set_cons_zero,List.set_cons_succ,W,T,e9]
   clear J G i W T e9 M H p D hg X S g;go_upto_region 2 with fail
   generalize World.setCell (World.setCell y _ _) _ _=w6 at R z E6 hO |-;have N:=R.out;simp only[List.setIfInBounds_toArray,List.set_cons_zero,List.set_cons_succ] at N
   have RZ:=Qf (Blk.range N);clear R N;go_wp2_with (first | (refine wpList_load_mid Z _ (.tmp 1) Z w.heap.size 0 Z _ _ RZ.out U Z q ?_) | (refine wpList_store_mid Z _ (.tmp 2) (.tmp 11) Z (w.heap.size+1) 0 _ Z Z (Blk.there z.out Ze) q (all_oneCell_toArray (Xe.1 Z)) ?_))
   have i:∀ x k,s.heap.size<=k->(w6.setCells (w.heap.size+1) 0 x).heap[k]?=y.heap[k]?:=fun x k h=>(QF (by have:=m.out;omega) x 0 w6).trans (hO.out k h);have h3:w.heap.size<=s.heap.size:=by have:=m.out;omega
   exact Qb5 (t:=2) Z Z Z (Blk.setsA z.out _ Z) U Z q ⟨_,_,Z,K5.out.move (i _) h3,K8.out.move (i _) h3,QJ (by omega) _ _ _ 0 E6.out⟩
def NuT (lo:Nat) (x:MTo) (v:Value) (w:World):Prop:=∃ a b,v=.agg #[Iv x.block,a,b]/\NuI lo x.regs a w/\NuI lo x.args b w
theorem NuT.below {lo:Nat}{x:MTo}(b:Below w.heap.size w w') (h:NuT lo x v w):NuT lo x v w':=by
 obtain⟨p,q,rfl,h,k⟩:=h
 exact⟨p,q,Z,h.below b,k.below b⟩
theorem NuI.in {lo:Nat}(h:NuI lo l v w):intsL.In w (Qcv lo) l [v]:=by obtain⟨p,c,rfl,h⟩:=h;exact h
theorem NuI.lo {lo a:Nat}(h:NuI lo l v w) (b:a<=lo):NuI a l v w:=h.move (fun _ _=>rfl) b
theorem Qlc {x:MTo}(h:QhA w All x pR cR pA cA) (g:x.regs.length<=4294967296) (a:x.args.length<=4294967296):Calls prog 232 #[.agg #[Iv x.block,.slice pR x.regs.length cR,.slice pA x.args.length cA]] w fun e w'=>∃ v,e=.returned v/\NuT w.heap.size x v w'/\Below w.heap.size w w' :=
 (Qlk (cs:=[Iv x.block]) (.inl ⟨Z,_,Z⟩) h.regs h.args g a).mono fun e w' ⟨u,v,d,c,b,f⟩=>⟨_,d,⟨u,v,Z,c,b⟩,f⟩
theorem QlR {x:ZC}{i:EP}(h0:EIn w All x i) (y:x.small) :
 Calls prog 188 #[.agg #[Iv x.op,Iv x.a,Iv x.yes.block,.slice i.pYR x.yes.regs.length i.cYR,.slice i.pYA x.yes.args.length i.cYA,Iv x.no.block,.slice i.pNR x.no.regs.length i.cNR,.slice i.pNA x.no.args.length i.cNA,.slice i.pA x.args.length i.cA]] w fun e w'=>Qi4 endL w w' x e:=by
 have H:=Qf h0;have L:x.yes.regs.length<=4294967296:=by have:=y.1.1;omega
 have G:x.yes.args.length<=4294967296:=by have:=y.1.2;omega
 have U:x.no.regs.length<=4294967296:=by have:=y.2.1.1;omega
 have V:x.no.args.length<=4294967296:=by have:=y.2.1.2;omega
 have Q:x.args.length<=4294967296:=by have:=y.2.2;omega
 clear h0 y;have l:=Qf (((Bxs.start w).new #[Iv x.op,Iv x.a,Iv x.yes.block,.slice i.pYR x.yes.regs.length i.cYR,.slice i.pYA x.yes.args.length i.cYA,Iv x.no.block,.slice i.pNR x.no.regs.length i.cNR,.slice i.pNA x.no.args.length i.cNA,.slice i.pA x.args.length i.cA] 84).new #[Iv 0,Iv 0,Iv 0,Nv,Nv,Iv 0,Nv,Nv,Nv] 84);go_enter func188,ntmps188
 go_upto_region 1 with fail
 generalize World.alloc (World.alloc w _) _=p at l |-;refine Qg 10 (Qlw [(5,NuT p.heap.size x.yes),(8,NuT p.heap.size x.no),(11,NuI p.heap.size x.args)] [(1,Pv w.heap.size 0),(3,Pv w.heap.size 2),(4,.agg #[Iv x.yes.block,.slice i.pYR x.yes.regs.length i.cYR,.slice i.pYA x.yes.args.length i.cYA]),(6,Pv w.heap.size 5),(7,.agg #[Iv x.no.block,.slice i.pNR x.no.regs.length i.cNR,.slice i.pNA x.no.args.length i.cNA]),(9,Pv w.heap.size 8),(10,.slice i.pA x.args.length i.cA),(12,Pv w.heap.size 2)]) (fun R=>Below p.heap.size p R) (fun w w'=>Below w.heap.size w w') (by kernel_rfl) (outs:=[1]) (gs:=[]) (bs:=[true,true,true,true,true,true,true,true,true,true]) (n:=16) Z Ze (by kernel_rfl) (by kernel_rfl) ?hR ?hG (QI Zr 1) ⟨Z,Y⟩ ?hA ?hend
 case hR=>exact fun t v w w' S h=>h.keep ⟨NuT.below S,NuT.below S,NuI.below S,Y⟩
 case hG=>exact Y
 case hA =>
  have u:=fun j=>l.out.cell (a:=[_]) j
  repeat
   refine⟨fun a R b d K E=>?_,?_⟩
   focus
    obtain⟨k0,-⟩:=d
    conv at k0=>whnf;rhs;whnf
    have c2:=Qk (u 2 _ Z) b;have c3:=Qk (u 3 _ Z) b;have c4:=Qk (u 4 _ Z) b;have c5:=Qk (u 5 _ Z) b;have c6:=Qk (u 6 _ Z) b;have c7:=Qk (u 7 _ Z) b;have c8:=Qk (u 8 _ Z) b;have f:=l.out.bel.trans (b.mono l.out.bel.size);go_simp
    first
     | with_reducible refine Xm (Qlc (H.out.yes.below f) L G) ?_
       rintro e w9 ⟨v9,rfl,⟨W,I,rfl,N,A⟩,g⟩;exact E _ _ g (b.trans (g.mono b.size)) ⟨W,I,Z,N.lo b.size,A.lo b.size⟩
     | with_reducible refine Xm (Qlc (H.out.no.below f) U V) ?_
       rintro e w9 ⟨v9,rfl,⟨W,I,rfl,N,A⟩,g⟩;exact E _ _ g (b.trans (g.mono b.size)) ⟨W,I,Z,N.lo b.size,A.lo b.size⟩
     | with_reducible refine Xm (QaX _ _ _ R (Ya H.out.args f) Q) ?_
       rintro e w9 ⟨p9,c9,rfl,A,g⟩;exact E _ _ g (b.trans (g.mono b.size)) ⟨p9,c9,Z,Yc A (fun k d _=>Zt b.size d)⟩
     | exact E _ _ Zr b Z
  trivial
 case hend =>
  rintro J B r b d;obtain⟨y1,y2,e5,M,F⟩:NuT _ _ (B 5) r:=d 5 (by kernel_rfl)
  obtain⟨n1,n2,e8,O,P⟩:NuT _ _ (B 8) r:=d 8 (by kernel_rfl)
  have D:NuI _ _ (B 11) r:=d 11 (by kernel_rfl);have z:B 12=Pv w.heap.size 2:=d 12 (by kernel_rfl);obtain⟨q1,d1,rfl,-⟩:=id M
  obtain⟨q2,d2,rfl,-⟩:=id F
  obtain⟨q3,d3,rfl,-⟩:=id O
  obtain⟨q4,d4,rfl,-⟩:=id P
  obtain⟨q5,d5,q,-⟩:=id D
  rw[q] at D
  have c:=l.out.below b;have z2:=c.free (a:=[_]) 2;have z3:=c.free (a:=[_]) 3;have z4:=c.free (a:=[_]) 4;have z5:=c.free (a:=[_]) 5;have z6:=c.free (a:=[_]) 6;have z7:=c.free (a:=[_]) 7;have z8:=c.free (a:=[_]) 8;have c2:=c.cell (a:=[_]) 2 _ Z;have c3:=c.cell (a:=[_]) 3 _ Z;have c4:=c.cell (a:=[_]) 4 _ Z;have c5:=c.cell (a:=[_]) 5 _ Z;have c6:=c.cell (a:=[_]) 6 _ Z;have c7:=c.cell (a:=[_]) 7 _ Z;have c8:=c.cell (a:=[_]) 8 _ Z;have s:=((((((c.set (a:=[_]) 2 (Iv x.yes.block)).set (a:=[_]) 3 (.slice q1 x.yes.regs.length d1)).set (a:=[_]) 4 (.slice q2 x.yes.args.length d2)).set (a:=[_]) 5 (Iv x.no.block)).set (a:=[_]) 6 (.slice q3 x.no.regs.length d3)).set (a:=[_]) 7 (.slice q4 x.no.args.length d4)).set (a:=[_]) 8 (.slice q5 x.args.length d5);simp only[List.setIfInBounds_toArray,List.set_cons_zero,List.set_cons_succ] at s
  generalize f:World.setCell _ _ _=w6 at s;have e1:∀ o,(w.alloc o).heap.size=w.heap.size+1:=fun o=>by simp
  have C:=s.at (a:=[]);have RZ:=Qf (Blk.range (s.at (a:=[_])));have X:=(l.out.at (a:=[])).lt;have aa:=(l.out.at (a:=[_])).lt;rw[e1] at C X
  replace C:=Qf C;have E6:=Qf s.bel;have T:=Qf (show EIn r (Qcv p.heap.size) x ⟨q1,d1,q2,d2,q3,d3,q4,d4,q5,d5⟩ from ⟨⟨M.in,F.in,H.out.yes.bnd⟩,⟨O.in,P.in,H.out.no.bnd⟩,D.in,H.out.bnd⟩)
  have hO:Hid (∀ k,p.heap.size<=k->w6.heap[k]?=r.heap[k]?):=fun k h=>by
   rw[<-f]
   iterate 7 rw[Xd _ _ _ _ (show k≠w.heap.size by omega)]
  show wpList _ J _ [_,_,_,_,_] (QN _ B [3,4,5,6,7,8,9,10,11,12]) r;simp only[QN,Act.put,List.setIfInBounds_toArray,List.set_cons_zero,List.set_cons_succ,e5,e8,q,z]
  clear e5 e8 q z c s b l H e1 M F O P D d;replace f:=Qf f;go_upto_region 2 with fail
  rw[f.out]
  clear f c2 c3 c4 c5 c6 c7 c8 z2 z3 z4 z5 z6 z7 z8;have hu:=underlying84;have m:(prog.info? 84).map (·.size)=some 9:=by kernel_rfl
  go_wp2_with (first | (refine wpList_load_mid Z _ (.tmp 1) Z w.heap.size 0 Z _ _ RZ.out hu Z m ?_) | (refine wpList_store_mid Z _ (.tmp 2) (.tmp 15) Z (w.heap.size+1) 0 _ Z Z (Blk.there C.out Ze) m (all_oneCell_toArray (Xe.1 Z)) ?_))
  exact Qb5 (t:=2) Z Z Z (Blk.setsA C.out _ Z) hu Z m ⟨_,Z,Qgk (T.out.keep (fun k d _=>(QF (by have:_<=k:=d;omega) _ 0 w6).trans (hO.out k d)) (fun k d _=>by have:_<=k:=d;show _<=k;omega)),QJ (by omega) _ _ _ 0 E6.out⟩
def Qmo (n:Nat):Prop:=∀ (t:TT n) (ds:List Value) (w:World),(Lay.tt n).In w All t ds->t.count<=100000->Calls prog 123 #[.agg ds.toArray] w fun e w'=>Qi4 (Lay.tt n) w w' t e
theorem Qmf (w:World) (O:Nat->Prop) (x:TT n) (b:List Value) (h:(Lay.tt n).In w O x b):∀ v∈b,v.oneCell'=true:=by
 obtain⟨a,c,rfl,-⟩:=h
 exact Xe.1 Z
theorem enters1:Qak 123:=fun _ _=>by kernel_rfl
theorem enters2:Qak 187:=fun _ _=>by kernel_rfl
theorem enters3:Qak 125:=fun _ _=>by kernel_rfl
theorem enters4:Qak 77:=fun _ _=>by kernel_rfl
theorem cOwnType_:∀ n,Qmo n:=by
 intro n
 induction n with
 | zero=>intro t;exact Empty.elim t
 | succ n ih =>
   intro t B w q S;have v:∀ x∈t.2.2,x.count<=100000:=fun x z=>by have:=t.count_kid z;omega
   have L:t.2.2.length<=100000:=by have:=t.len_lt_count;rw[t.len_eq] at this;omega
   obtain⟨p,c,rfl,q,j⟩:=q
   have e:Hid _:=QeU (c:=c) q.list j.2;clear q;simp only[TT.len_eq]
   have f:=Qf (((Bxs.start w).new #[Iv t.kind,Iv t.r,.slice p t.2.2.length c] 105).new #[Iv 0,Iv 0,Nv] 105);have y:∀ o,(w.alloc o).heap.size=w.heap.size+1:=fun o=>by simp
   have b:Hid (w.heap.size+1<((w.alloc (.cells #[Iv t.kind,Iv t.r,.slice p t.2.2.length c] 105)).alloc (.cells #[Iv 0,Iv 0,Nv] 105)).heap.size):=by have:=(f.out.at (a:=[])).lt;rw[y] at this;exact this
   go_enter func123,ntmps123
   go_upto_region 1 with fail
   generalize World.alloc (World.alloc w _) _=P at f b |-;have F:=f.out.cell (a:=[_]) 2 _ Z;have E:=Qf (Z1 (A:=Lay.tt n) (.inl ⟨Z,Z⟩) enters1 (Ya e.out f.out.bel) (by omega) Qmf (fun x z B O h=>ih x B O h (v x z)));go_wp2_with fail
   refine E.out.mono ?_;rintro _ u ⟨l,m,rfl,K,C⟩;have s:=f.out.below C;have F:=s.cell (a:=[_]) 2 _ Z;have N:=s.free (a:=[_]) 2;have i:=s.set (a:=[_]) 2 (.slice l t.2.2.length m);simp only[List.setIfInBounds_toArray,List.set_cons_zero,List.set_cons_succ] at i
   have g:=i.at (a:=[]);rw[y] at g
   replace g:=Qf g;have I:=Qf i.bel;have H:=Qf (Blk.range (i.at (a:=[_])));have J:Hid (∀ k,P.heap.size<=k->(u.setCell ⟨w.heap.size,2,none⟩ (.slice l t.2.2.length m)).heap[k]?=u.heap[k]?):=fun k h=>Xd _ _ _ _ (show k≠w.heap.size by have:=b.out;omega);have M:=Qf K;clear E s i f K C e y;go_upto_region 2 with fail
   generalize World.setCell u _ _=G at g I H J |-;clear F N;have D:=underlying105;have d:=Qbk infoType0;go_wp2_with (first | (refine wpList_load_mid Z _ (.tmp 1) Z w.heap.size 0 Z _ _ H.out D Z d ?_) | (refine wpList_store_mid Z _ (.tmp 2) (.tmp 7) Z (w.heap.size+1) 0 _ Z Z (Blk.there g.out Ze) d (all_oneCell_toArray (Xe.1 Z)) ?_))
   have R:=b.out;have Q:=QV (Lay.keep (Qo n) (w':=G.setCells (w.heap.size+1) 0 [Iv t.kind,Iv t.r,.slice l t.2.2.length m]) (O':=Qcv w.heap.size) (fun k e _=>(QF (by have:_<=k:=e;omega) _ 0 G).trans (J.out k e)) (fun k e _=>by have:_<=k:=e;show _<=k;omega) M.out);exact Qb5 (t:=2) Z Z Z (Blk.setsA g.out _ Z) D Z d ⟨_,Z,⟨l,m,by rw[TT.len_eq],Q.1,j⟩,QJ (by omega) _ _ _ 0 I.out⟩
theorem Qdr {α:Type}{A:Lay α}{lo:Nat}{x:α}(h:A.In w (Qcv lo) x ds){p:Addr}(a:p.block<lo) (v:Value):A.In (w.setCell p v) (Qcv lo) x ds:=Lay.setCell h (fun e=>by have:lo<=p.block:=e;omega) v
theorem QbU {α:Type}{A:Lay α}{lo hi:Nat}{x:α}(h:A.In w (Qcv hi) x ds) (b:lo<=hi):A.In w (Qcv lo) x ds:=Yc h (fun k a _=>Zt b a)
theorem Qnc (w:World) (O:Nat->Prop) (x:Qs) (a:List Value) (h:insL.In w O x a):∀ v∈a,v.oneCell'=true:=by
 obtain⟨i,rfl,-⟩:=Qea h
 exact Xe.1 Z
theorem QmP (w:World) (O:Nat->Prop) (x:ZC) (a:List Value) (h:endL.In w O x a):∀ v∈a,v.oneCell'=true:=by
 obtain⟨i,rfl,-⟩:=QdY h
 exact Xe.1 Z
theorem Qnf (w:World) (O:Nat->Prop) (x:MBlock n) (a:List Value) (h:(Zp n).In w O x a):∀ v∈a,v.oneCell'=true:=by
 obtain⟨i,rfl,-⟩:=QbZ h
 exact Xe.1 Z
theorem Qnp (w:World) (O:Nat->Prop) (x:MFunc n) (a:List Value) (h:(ZS n).In w O x a):∀ v∈a,v.oneCell'=true:=by
 obtain⟨i,rfl,-⟩:=Qc6 h
 exact Xe.1 Z
theorem QcS {l:List (TT n)}(h:(Qo n).In w All l [.slice p l.length c]) (a:Qc0 l):Calls prog 122 #[.slice p l.length c,.func (.func 123) #[] #[]] w fun e w'=>Qg1 (Lay.tt n) w w' l e :=
 Z1 (.inl ⟨Z,Z⟩) enters1 h (by have:=a.1;omega) Qmf (fun x b f d h=>cOwnType_ n x f d h (a.2 x b))
theorem Qlq {l:List Qs}(h:insL.list.In w All l [.slice p l.length c]) (r:l.length<=100000) (j:∀ x∈l,x.small):Calls prog 186 #[.slice p l.length c,.func (.func 187) #[] #[]] w fun e w'=>Qg1 insL w w' l e :=
 Z1 (.inr (.inl ⟨Z,Z⟩)) enters2 h (by omega) Qnc (fun x g t s h=>by
  obtain⟨i,rfl,f⟩:=Qea h
  refine(Qlk (cs:=[Iv x.op,Iv x.a,Iv x.b,Iv x.c,Iv x.k,Iv x.n]) (.inr ⟨Z,_,_,_,_,_,_,Z⟩) f.regs f.args (by have:=(j x g).1;omega) (by have:=(j x g).2;omega)).mono ?_
  rintro e w' ⟨u,v,rfl,⟨a,c,rfl,o⟩,⟨b,d,rfl,m⟩,q⟩;exact⟨_,Z,QmG o m f.bnd,q⟩)
theorem Qik {x:MBlock n}(h:(Zp n).In w All x ds) (hs:x.small):Calls prog 125 #[.agg ds.toArray] w fun e w'=>Qi4 (Zp n) w w' x e:=by
 obtain⟨i,rfl,hb⟩:=QbZ h
 have H:=Qf hb;have K:=Qf hs;clear h hb hs;have A:=Qf (((Bxs.start w).new #[Iv x.regs,.slice i.pP x.params.length i.cP,.slice i.pC x.code.length i.cC,Iv x.fin.op,Iv x.fin.a,Iv x.fin.yes.block,.slice i.e.pYR x.fin.yes.regs.length i.e.cYR,.slice i.e.pYA x.fin.yes.args.length i.e.cYA,Iv x.fin.no.block,.slice i.e.pNR x.fin.no.regs.length i.e.cNR,.slice i.e.pNA x.fin.no.args.length i.e.cNA,.slice i.e.pA x.fin.args.length i.e.cA] 86).new #[Iv 0,Nv,Nv,Iv 0,Iv 0,Iv 0,Nv,Nv,Iv 0,Nv,Nv,Nv] 86);have e1:∀ o,(w.alloc o).heap.size=w.heap.size+1:=fun o=>by simp
 have b:=Qf ((A.out.at (a:=[])).lt);rw[e1] at b
 go_enter func125,ntmps125
 go_upto_region 1 with fail
 generalize World.alloc (World.alloc w _) _=u at A b |-;have c1:=A.out.cell (a:=[_]) 1 _ Z;have C1:=Qf (QcS (Ya H.out.params A.out.bel) K.out.2.1);go_wp2_with fail
 refine C1.out.mono ?_;rintro _ w4 ⟨y,r,rfl,I1,V⟩;have R:=A.out.below V;replace c1:=R.cell (a:=[_]) 1 _ Z;have z1:=R.free (a:=[_]) 1;have J:=Qf (R.set (a:=[_]) 1 (.slice y x.params.length r));have J1:=Qf (Qdr I1 (p:=⟨w.heap.size,1,none⟩) (by have:=b.out;show w.heap.size<_;omega) (.slice y x.params.length r));have b5:=Qf V.size;clear R C1 I1 V A;go_upto_region 2 with fail
 generalize F:World.setCell w4 _ _=w5 at J J1 |-;have z:Hid (u.heap.size<=w5.heap.size):=by show _<=_;rw[<-F];simpa using b5.out
 clear F b5 c1 z1;have c2:=J.out.cell (a:=[_]) 2 _ Z;have C2:=Qf (Qlq (Ya H.out.code J.out.bel) K.out.1 K.out.2.2.2);go_wp2_with fail
 refine C2.out.mono ?_;rintro _ w6 ⟨j,l,rfl,I2,M⟩;have N:=J.out.below M;replace c2:=N.cell (a:=[_]) 2 _ Z;have z2:=N.free (a:=[_]) 2;have g:=N.set (a:=[_]) 2 (.slice j x.code.length l);have hp:w.heap.size<u.heap.size:=by have:=b.out;omega
 have U:=Qf (Qdr (Ya J1.out M) (p:=⟨w.heap.size,2,none⟩) hp (.slice j x.code.length l));have K2:=Qf (Qdr (QbU I2 z.out) (p:=⟨w.heap.size,2,none⟩) hp (.slice j x.code.length l));have b7:=Qf (Zt z.out M.size);simp only[List.setIfInBounds_toArray,List.set_cons_zero,List.set_cons_succ] at g
 replace g:=Qf g;clear N C2 I2 M J J1;go_upto_region 3 with fail
 generalize G:World.setCell w6 _ _=w7 at g U K2 |-;have C:Hid (u.heap.size<=w7.heap.size):=by show _<=_;rw[<-G];simpa using b7.out
 clear G b7 c2 z2 z;have hE:=Qf (QlN (g.out.at (a:=[_])) 3 9 Z);have C3:=Qf (QlR (H.out.fin.below g.out.bel) K.out.2.2.1);have hu:=underlying84;have I:(prog.info? 84).map (·.size)=some 9:=by kernel_rfl
 have hp:w.heap.size<u.heap.size:=by have:=b.out;omega
 go_wp2_with (refine wpList_load_mid Z _ (.tmp 11) Z w.heap.size 3 Z _ _ hE.out hu Z I ?_)
 refine C3.out.mono ?_;rintro _ d ⟨c,rfl,O,P⟩;have L:=endL.len O;have he:=Qf (all_oneCell_toArray (QmP _ _ _ _ O));have Q:=g.out.below P;have HB:=Q.at (a:=[_]);have HT:=Qf (Blk.there (o:=3) (n:=c.toArray.size) HB (by rw[List.size_toArray,L];exact Ze));have HK:=Qf (I.trans (congrArg some L.symm));have HZ:=Blk.sets c [Iv x.regs,.slice y x.params.length r,.slice j x.code.length l] _ d (by rw[L];rfl) HB;have T:=Q.at (a:=[]);rw[e1] at T
 have W:Hid (Blk (d.setCells w.heap.size 3 c) (w.heap.size+1) _ _):=(QF (by omega) c 3 d).trans T;have E6:=Qf (QJ Ze c d w 3 Q.bel);have RZ:=Qf (Blk.range HZ);have hO:Hid (∀ k,u.heap.size<=k->(d.setCells w.heap.size 3 c).heap[k]?=d.heap[k]?):=fun k h=>QF (by omega) c 3 d;have L1:=Qf (Ya U.out P);have L2:=Qf (Ya K2.out P);have L3:=Qf (QbU O C.out);have S:=H.out.bnd;clear Q HB HZ T C3 U K2 O P hE g H K C e1;go_upto_region 4 with (refine wpList_store_mid Z _ (.tmp 14) (.tmp 13) Z w.heap.size 3 c.toArray Z Z HT.out HK.out he.out ?_)
 generalize World.setCells d _ _ _=w9 at W E6 RZ hO |-;have D:=underlying86;have m:([Iv x.regs,.slice y x.params.length r,.slice j x.code.length l]++c:List Value).length=12:=by rw[List.length_append,L];rfl
 have f:=Qf ((Qbk infoBlock).trans (congrArg some m.symm));have s:=Qf m;have B:=Qf (all_oneCell_toArray (cs:=[Iv x.regs,.slice y x.params.length r,.slice j x.code.length l]++c) (fun v hv=>(List.mem_append.1 hv).elim (fun h=>Xe.1 (rfl:([Iv x.regs,.slice y x.params.length r,.slice j x.code.length l]:List Value).all (·.oneCell')=true) v h) (QmP _ _ _ _ L3.out v)));generalize E:([Iv x.regs,.slice y x.params.length r,.slice j x.code.length l]++c:List Value)=q at RZ f s B;replace E:=Qf E;clear m HT HK he L;go_wp2_with (first | (refine wpList_load_mid Z _ (.tmp 1) Z w.heap.size 0 Z q _ RZ.out D Z f.out ?_) | (refine wpList_store_mid Z _ (.tmp 2) (.tmp 15) Z (w.heap.size+1) 0 q.toArray Z Z (Blk.there W.out (by rw[List.size_toArray,s.out];exact Ze)) f.out B.out ?_))
 have hk:∀ k,u.heap.size<=k->(w9.setCells (w.heap.size+1) 0 q).heap[k]?=d.heap[k]?:=fun k h=>(QF (by have:=b.out;omega) _ 0 w9).trans (hO.out k h);have X:w.heap.size<=u.heap.size:=by omega
 replace E:=E.out;subst E;refine Qb5 (t:=2) Z Z Z (Blk.setsA W.out _ s.out) D Z f.out ⟨_,Z,?_,QJ (by omega) _ _ _ 0 E6.out⟩;exact Qgz (Lay.keep _ (fun k h _=>hk k h) (fun k h _=>Zt X h) L1.out) (Lay.keep _ (fun k h _=>hk k h) (fun k h _=>Zt X h) L2.out) (Lay.keep _ (fun k h _=>hk k h) (fun k h _=>Zt X h) L3.out) S
theorem Qkm {x:MFunc n}(h:(ZS n).In w All x ds) (hs:x.small):Calls prog 77 #[.agg ds.toArray] w fun e w'=>Qi4 (ZS n) w w' x e:=by
 obtain⟨i,rfl,W⟩:=Qc6 h
 have H:=Qf W;have u:=Qf hs;clear h W hs;have f:=Qf (((Bxs.start w).new #[Iv x.regs,.slice i.pP x.params.length i.cP,.slice i.pR x.results.length i.cR,.slice i.pB x.blocks.length i.cB] 89).new #[Iv 0,Nv,Nv,Nv] 89);have S:∀ o,(w.alloc o).heap.size=w.heap.size+1:=fun o=>by simp
 have b:=Qf ((f.out.at (a:=[])).lt);rw[S] at b
 go_enter func77,ntmps77
 go_upto_region 1 with fail
 generalize World.alloc (World.alloc w _) _=v at f b |-;have V:=f.out.cell (a:=[_]) 1 _ Z;have X:=Qf (QcS (Ya H.out.params f.out.bel) u.out.2.1);go_wp2_with fail
 refine X.out.mono ?_;rintro _ w4 ⟨p1,d1,rfl,I1,N⟩;have F:=f.out.below N;replace V:=F.cell (a:=[_]) 1 _ Z;have z1:=F.free (a:=[_]) 1;have r:=Qf (F.set (a:=[_]) 1 (.slice p1 x.params.length d1));have Q:=Qf (Qdr I1 (p:=⟨w.heap.size,1,none⟩) (by have:=b.out;show w.heap.size<_;omega) (.slice p1 x.params.length d1));have b5:=Qf N.size;clear F X I1 N f;go_upto_region 2 with fail
 generalize m:World.setCell w4 _ _=w5 at r Q |-;have d:Hid (v.heap.size<=w5.heap.size):=by show _<=_;rw[<-m];simpa using b5.out
 clear m b5 V z1;have c2:=r.out.cell (a:=[_]) 2 _ Z;have C2:=Qf (QcS (Ya H.out.results r.out.bel) u.out.2.2.1);go_wp2_with fail
 refine C2.out.mono ?_;rintro _ w6 ⟨J,L,rfl,I2,z⟩;have B:=r.out.below z;replace c2:=B.cell (a:=[_]) 2 _ Z;have z2:=B.free (a:=[_]) 2;have g:=Qf (B.set (a:=[_]) 2 (.slice J x.results.length L));have s:w.heap.size<v.heap.size:=by have:=b.out;omega
 have M:=Qf (Qdr (Ya Q.out z) (p:=⟨w.heap.size,2,none⟩) s (.slice J x.results.length L));have U:=Qf (Qdr (QbU I2 d.out) (p:=⟨w.heap.size,2,none⟩) s (.slice J x.results.length L));have b7:=Qf (Zt d.out z.size);clear B C2 I2 z r Q;go_upto_region 3 with fail
 generalize q:World.setCell w6 _ _=w7 at g M U |-;have j:Hid (v.heap.size<=w7.heap.size):=by show _<=_;rw[<-q];simpa using b7.out
 clear q b7 c2 z2 d;have c3:=g.out.cell (a:=[_]) 3 _ Z;have C3:=Qf (Z1 (A:=Zp n) (.inr (.inr (.inl ⟨Z,Z⟩))) enters3 (Ya H.out.blocks g.out.bel) (by have:=u.out.1;omega) Qnf (fun y hy ds wx h=>Qik h (u.out.2.2.2 y hy)));go_wp2_with fail
 refine C3.out.mono ?_;rintro _ w8 ⟨G,C,rfl,I3,D⟩;have E:=g.out.below D;replace c3:=E.cell (a:=[_]) 3 _ Z;have z3:=E.free (a:=[_]) 3;have l:=E.set (a:=[_]) 3 (.slice G x.blocks.length C);simp only[List.setIfInBounds_toArray,List.set_cons_zero,List.set_cons_succ] at l
 have K:=l.at (a:=[]);rw[S] at K
 have O:=Qf K;have E6:=Qf l.bel;have RZ:=Qf (Blk.range (l.at (a:=[_])));have L1:=Qf (Qdr (Ya M.out D) (p:=⟨w.heap.size,3,none⟩) s (.slice G x.blocks.length C));have L2:=Qf (Qdr (Ya U.out D) (p:=⟨w.heap.size,3,none⟩) s (.slice G x.blocks.length C));have L3:=Qf (Qdr (QbU I3 j.out) (p:=⟨w.heap.size,3,none⟩) s (.slice G x.blocks.length C));have I:=H.out.bnd;clear E l K C3 M U I3 D g H u j S;go_upto_region 4 with fail
 generalize World.setCell w8 _ _=R at O E6 RZ L1 L2 L3 |-;clear c3 z3;have hu:=underlying89;have c:=Qbk infoFunc;go_wp2_with (first | (refine wpList_load_mid Z _ (.tmp 1) Z w.heap.size 0 Z _ _ RZ.out hu Z c ?_) | (refine wpList_store_mid Z _ (.tmp 2) (.tmp 15) Z (w.heap.size+1) 0 _ Z Z (Blk.there O.out Ze) c (all_oneCell_toArray (Xe.1 Z)) ?_))
 have T:∀ vs k,v.heap.size<=k->(R.setCells (w.heap.size+1) 0 vs).heap[k]?=R.heap[k]?:=fun vs k h=>QF (by have:=b.out;omega) _ 0 R;have P:w.heap.size<=v.heap.size:=by omega
 exact Qb5 (t:=2) Z Z Z (Blk.setsA O.out _ Z) hu Z c ⟨_,Z,QiN (Lay.keep _ (fun k h _=>T _ k h) (fun k h _=>Zt P h) L1.out) (Lay.keep _ (fun k h _=>T _ k h) (fun k h _=>Zt P h) L2.out) (Lay.keep _ (fun k h _=>T _ k h) (fun k h _=>Zt P h) L3.out) I,QJ (by omega) _ _ _ 0 E6.out⟩
theorem Qgf (m:List (MFunc n)) (p:Option Addr) (c:Nat) (w:World) (h:(QaN n).In w All m [.slice p m.length c]) (f:Qbh m) :
 Calls prog 47 #[.agg #[.slice p m.length c]] w fun e w'=>∃ v,e=.returned v/\(∃ a' c',v=.agg #[.slice a' m.length c']/\(QaN n).In w' (Qcv w.heap.size) m [.slice a' m.length c'])/\Below w.heap.size w w':=by
 have H:=Qf h;have l:=Qf f;clear h f;have d:=Qf (((Bxs.start w).new #[.slice p m.length c] 24).new #[Nv] 24);have k:∀ o,(w.alloc o).heap.size=w.heap.size+1:=fun o=>by simp
 have b:=Qf ((d.out.at (a:=[])).lt);rw[k] at b
 go_enter func47,ntmps47
 go_upto_region 1 with fail
 generalize World.alloc (World.alloc w _) _=E at d b |-;have J:=d.out.cell (a:=[_]) 0 _ Z;have r:=Qf (Z1 (A:=ZS n) (.inr (.inr (.inr ⟨Z,Z⟩))) enters4 (Ya H.out d.out.bel) (by have:=l.out.1;omega) Qnp (fun y B I K h=>Qkm h (l.out.2 y B)));go_wp2_with fail
 refine r.out.mono ?_;rintro _ G ⟨j,i,rfl,u,s⟩;have q:=d.out.below s;have g:=q.at (a:=[]);rw[k] at g
 have F:=Qb g 0 _ Z;have L:=Qj g 0;have C:w.heap.size+1<E.heap.size:=b.out;have x:=Qf (Qh g 0 (.slice j m.length i));have z:=Qf (Qdr u (p:=⟨w.heap.size+1,0,none⟩) C (.slice j m.length i));have D:=Qf (q.bel.setCell (p:=⟨w.heap.size+1,0,none⟩) (by show w.heap.size<=w.heap.size+1;omega) (.slice j m.length i));clear q r u s d g k H l b;go_wp2
 exact Qb5 (t:=2) Z Z Z x.out underlying24 Z (by kernel_rfl) ⟨_,Z,⟨j,i,Z,QbU z.out (by omega)⟩,D.out⟩
abbrev Qci (be:Nat) (pm:Option Addr) (ml cm:Nat) (pi:Option Addr) (il ci most k:Nat):Array Value :=
 #[Pv be 0,.slice pm ml cm,.slice pi il ci,Iv most,.slice (some ⟨k,0,none⟩) 1 1,Iv 0,Nv,Nv,Iv 0,.bool false]
theorem WAt.begin {a:World}{e:Nat}{m:List (MFunc 6)}{d b lo:Nat}(C:Qdk a e bp (fun x=>d<=x/\x<b) (Est.new pages)) (I:(QaN 6).In a (fun x=>b<=x) m [.slice pm m.length cm])
 (J:intsL.In a (fun x=>b<=x) inp [.slice pi inp.length ci]) (H:inp.length<=ci) (M:b<=a.heap.size) (N:d<=b) (G:lo<=a.heap.size) :
 ∃ g,WAt (((a.alloc (.cells #[Iv 0,Iv 0,Iv 0,Nv] 132)).alloc (.cells #[Pv a.heap.size 0] 130)).alloc (.cells (Qci e pm m.length cm pi inp.length ci most (a.heap.size+1)) 68)) (a.heap.size+1+1) most m (RM.start inp pages) g/\(∀ x,g.A x->d<=x)/\g.lo=lo/\g.lk=b:=by
 have u:=ZO a (.cells #[Iv 0,Iv 0,Iv 0,Nv] 132);have r:=u.trans ((ZO (a.alloc (.cells #[Iv 0,Iv 0,Iv 0,Nv] 132)) (.cells #[Pv a.heap.size 0] 130)).mono u.size);have n:=Qe a #[Iv 0,Iv 0,Iv 0,Nv] 132;have o:=Qe (a.alloc (.cells #[Iv 0,Iv 0,Iv 0,Nv] 132)) #[Pv a.heap.size 0] 130;have v:(a.alloc (.cells #[Iv 0,Iv 0,Iv 0,Nv] 132)).heap.size=a.heap.size+1:=by simp
 generalize a.alloc (.cells #[Iv 0,Iv 0,Iv 0,Nv] 132)=q at *;rw[v] at o
 have s:(q.alloc (.cells #[Pv a.heap.size 0] 130)).heap.size=a.heap.size+1+1:=by simp[v]
 replace n:(q.alloc (.cells #[Pv a.heap.size 0] 130)).heap[a.heap.size]?=_:=(Below.heap_alloc _ _ _ (by omega)).trans n;generalize q.alloc (.cells #[Pv a.heap.size 0] 130)=l at *;have j:=r.trans ((ZO l (.cells (Qci e pm m.length cm pi inp.length ci most (a.heap.size+1)) 68)).mono r.size);have t:=Qe l (Qci e pm m.length cm pi inp.length ci most (a.heap.size+1)) 68;rw[s] at t
 have B:(l.alloc (.cells (Qci e pm m.length cm pi inp.length ci most (a.heap.size+1)) 68)).heap.size=a.heap.size+1+1+1:=by simp[s]
 replace n:(l.alloc (.cells (Qci e pm m.length cm pi inp.length ci most (a.heap.size+1)) 68)).heap[a.heap.size]?=_:=(Below.heap_alloc _ _ _ (by omega)).trans n;replace o:(l.alloc (.cells (Qci e pm m.length cm pi inp.length ci most (a.heap.size+1)) 68)).heap[a.heap.size+1]?=_:=(Below.heap_alloc _ _ _ (by omega)).trans o;generalize l.alloc (.cells (Qci e pm m.length cm pi inp.length ci most (a.heap.size+1)) 68)=z at *;clear u r v s;obtain⟨F,D⟩:∃ F,a.heap.size=F:=⟨_,Z⟩
 rw[D] at n o t B |-
 let ow:Nat->Nat:=fun x=>if x=F+1+1 then 1 else if d<=x/\x<b then 2 else if x=F+1 then 3 else if x=F then 5 else 0
 have w:∀ x,b<=x->x<F->ow x=0:=fun x K L=>by
  show (if x=F+1+1 then 1 else if d<=x/\x<b then 2 else if x=F+1 then 3 else if x=F then 5 else 0)=0;rw[Xr (by omega),Xr (by omega),Xr (by omega),Xr (by omega)]
 have y:∀ x,ow x≠0->d<=x/\x<F+1+1+1:=fun x h=>by
  have h:(if x=F+1+1 then 1 else if d<=x/\x<b then 2 else if x=F+1 then 3 else if x=F then 5 else 0)≠0:=h;split at h
  ·omega
  ·split at h
   ·omega
   ·split at h
    ·omega
    ·split at h
     ·omega
     ·exact absurd Z h
 refine⟨⟨ow,e,bp,pm,cm,pi,ci,.slice (some ⟨F+1,0,none⟩) 1 1,Nv,Nv,⟨F,Nv⟩,[],lo,b⟩,⟨t,?_,?_,?_,H,?_,⟨none,0,Z,fun i E=>by simp[RM.start] at E⟩,⟨Z,.inl ⟨Z,Z⟩⟩,?_,Xs Z,fun x c=>?_,fun x c=>by simp[Value.ownBlock] at c,fun x c=>?_,?_⟩,fun x c=>(y x c).1,Z,Z⟩
 ·have k:=C.step (P:=fun _=>False) (P':=fun _=>False) (w':=z) ⟨j.os,j.tape,j.output,j.size,fun x c _=>j.block x c,fun _ h=>h.elim⟩ (fun _ _ h=>h);refine⟨k.1.mono (fun x c _=>?_),k.2⟩
  show (if x=F+1+1 then 1 else if d<=x/\x<b then 2 else if x=F+1 then 3 else if x=F then 5 else 0)=2;rw[Xr (by omega),Xs c]
 ·exact(QaN 6).keep (fun k f p=>j.block k p) (fun k f p=>⟨w k f (by omega),f,by show k<F+1+1;omega⟩) I
 ·exact intsL.keep (fun k f p=>j.block k p) (fun k f p=>⟨w k f (by omega),f,by show k<F+1+1;omega⟩) J
 ·exact⟨Z,.inr ⟨F+1,1,#[Pv F 0],Z,Xb _,o,Ze,by unfold maxLen;omega,Z,Z⟩⟩
 ·refine⟨⟨⟨n,⟨Z,.inl ⟨Z,Z⟩⟩⟩,?_,fun k f=>by simp[Value.ownBlock] at f⟩,Y⟩
  show (if F=F+1+1 then 1 else if d<=F/\F<b then 2 else if F=F+1 then 3 else if F=F then 5 else 0)=5;rw[Xr (by omega),Xr (by omega),Xr (by omega),Xs Z]
 ·have:x=F+1:=by simpa[Value.ownBlock] using c.symm
  subst this;show (if F+1=F+1+1 then 1 else if d<=F+1/\F+1<b then 2 else if F+1=F+1 then 3 else if F+1=F then 5 else 0)=3;rw[Xr (by omega),Xr (by omega),Xs Z]
 ·rw[B];exact(y x c).2
 ·show lo<=z.heap.size;omega
def Qiz (w:World) (m:List (MFunc 6)) (inp:List Int) (most pages:Nat) (e:Ending) (w':World):Prop :=
 ∃ b g,e=.returned (.tuple #[Pv b 0,Qbw 0 0])/\WAt w' b most m (RM.start inp pages) g/\(∀ x,g.A x->w.heap.size<=x)/\w.heap.size<=b/\(g.lo=w.heap.size/\w.heap.size<=g.lk)/\Below w.heap.size w w'
theorem Qgn {m:List (MFunc 6)}(hM:(QaN 6).In w All m [.slice pm m.length cm]) (hs:Qbh m) (hI:intsL.In w All inp [.slice pi inp.length ci]) (l:∀ x∈inp,Qni x) (hi:inp.length<=200) (hf:most<=20000) (hp:pages<=64){a0:Int}
 (CV:∀ wx,Below w.heap.size w wx->Calls prog 66 #[.agg #[.slice pm m.length cm]] wx fun e w'=>e=.returned (Qbw 0 a0)/\Below wx.heap.size wx w') :
 Calls prog 32 #[.agg #[.slice pm m.length cm],.slice pi inp.length ci,Iv (most:Int),Iv (pages:Int)] w fun e w'=>Qiz w m inp most pages e w':=by
 have HM:=Qc hM;have HS:=Qc hs;have HI:=Qc hI;have J:=Qc l;have HL:=Qc (Xh hi (Xh hf hp));have q:=Qc (Qkr w (.cells #[.slice pm m.length cm] 24) (.cells #[Iv 0,Iv 0] 32));have ac:=Qc CV;have d1:decide ((inp.length:Int)>200)=false:=Xu (by omega);have d2:decide ((most:Int)<0)=false:=Xu (by omega);have d3:decide ((most:Int)>20000)=false:=Xu (by omega);clear hM hs hI l hi hf hp CV;go_enter func32,ntmps32
 go_upto_region 1 with fail
 have H:Hid (Blk ((w.alloc (.cells #[.slice pm m.length cm] 24)).alloc (.cells #[Iv 0,Iv 0] 32)) w.heap.size #[.slice pm m.length cm] 24):=QnO w #[.slice pm m.length cm] 24 _;have L:Hid (Blk ((w.alloc (.cells #[.slice pm m.length cm] 24)).alloc (.cells #[Iv 0,Iv 0] 32)) (w.heap.size+1) #[Iv 0,Iv 0] 32):=QmJ w _ #[Iv 0,Iv 0] 32;generalize (w.alloc (.cells #[.slice pm m.length cm] 24)).alloc (.cells #[Iv 0,Iv 0] 32)=w2 at q H L |-;obtain⟨Y,hY⟩:∃ Y,w.heap.size+1=Y:=⟨_,Z⟩
 have HY:Hid (w.heap.size<=Y):=by show _<=_;omega
 rw[hY] at L |-
 clear hY;have x0:=Qb H.out 0 _ Z;generalize hX:w.heap.size=X at x0 H |-;have t:=Qc (ac.out w2 q.out);go_upto_region 2 with (go_at_call 66;refine t.out.mono ?_;rintro U A ⟨rfl,T⟩)
 have C:=Qe A #[Iv 0,Iv a0] 32;have y:=Qc (T.trans ((ZO A (.cells #[Iv 0,Iv a0] 32)).mono T.size));clear T t;generalize A.alloc (.cells #[Iv 0,Iv a0] 32)=R at C y |-;generalize A.heap.size=F at C |-;have c0:=Qb C 0 _ Z;clear C x0;have CE:=Qc (Qks R pages HL.out.2.2);go_upto_region 7 with (go_at_call 67;refine CE.out.mono ?_;rintro U i ⟨be,bp,rfl,hE,G⟩)
 clear c0 CE;have B6:=Qc (G.trans ((ZO i (.cells #[Iv 0,Iv 0] 32)).mono G.size));have B:=Qc (hE.step (P:=fun _=>False) (P':=fun _=>False) (w':=i.alloc (.cells #[Iv 0,Iv 0] 32)) ⟨Z,Z,Z,by simp,fun x f _=>Below.heap_alloc _ _ _ f,fun _ h=>h.elim⟩ (fun _ _ h=>h));have j:Hid (R.heap.size<=i.heap.size/\i.heap.size<=(i.alloc (.cells #[Iv 0,Iv 0] 32)).heap.size):=⟨G.size,by simp⟩;have I:=Qe i #[Iv 0,Iv 0] 32;clear hE G;generalize i.alloc (.cells #[Iv 0,Iv 0] 32)=o at B6 B j I |-;generalize i.heap.size=E at B j I |-;have g0:=Qb I 0 _ Z;clear I;have BW:=Qc (y.out.trans (B6.out.mono y.out.size));have X6:=Qk (Qb H.out 0 _ Z) BW.out;have D:=Qc (q.out.trans (BW.out.mono q.out.size));go_upto_region 9 with fail
 have CO:=Qc (Qgf m pm cm o (Ya HM.out D.out) HS.out);have t:Hid (∀ wx,Below o.heap.size o wx->Calls prog 48 #[.slice pi inp.length ci] wx fun e w'=>Qcl wx inp e w'):=fun wx bx=>Qho (Ya (Ya HI.out D.out) bx) (by have:=HL.out.1;omega);clear g0;have aa:=Qc (Blk.below L.out BW.out);go_wp2_with (first | (go_at_call 47;refine CO.out.mono ?_;rintro U w7 ⟨v7,rfl,⟨M,c7,rfl,p⟩,b⟩) | (go_at_call 48;refine(t.out _ b).mono ?_;rintro U d ⟨V,K,rfl,S,r,n,c⟩;have B9:=(Qkr d (.cells #[Iv 0,Iv 0,Iv 0,Nv] 132) (.cells #[Pv d.heap.size 0] 130)).alloc (by simp;omega) (.cells #[Pv be 0,.slice M m.length c7,.slice V inp.length K,Iv (most:Int),.slice (some ⟨d.heap.size+1,0,none⟩) 1 1,Iv 0,Nv,Nv,Iv 0,.bool false] 68);have a:=Blk.below (Blk.below (Blk.below aa.out b) c) B9;have y0:=Qb a 0 _ Z;have y1:=Qb a 1 _ Z;have z0:=Qj a 0;have z1:=Qj a 1))
 have ad:o.heap.size<=w7.heap.size:=b.size;have ae:=c.size;have E8:=(B.out.step (P:=fun _=>False) (P':=fun _=>False) (w':=w7) ⟨b.os,b.tape,b.output,b.size,fun x f _=>b.block x f,fun _ h=>h.elim⟩ (fun _ _ h=>h)).step (P:=fun _=>False) (P':=fun _=>False) (w':=d) ⟨c.os,c.tape,c.output,c.size,fun x f _=>c.block x f,fun _ h=>h.elim⟩ (fun _ _ h=>h);obtain⟨N,af⟩:=j.out
 have M8:(QaN 6).In d (fun x=>E<=x) m [.slice M m.length c7]:=Ya (Yc p (fun k W _=>by have W:o.heap.size<=k:=W;show E<=k;omega)) c;have I8:intsL.In d (fun x=>E<=x) inp [.slice V inp.length K]:=QjZ r J.out (fun x f=>by have:=n x f;show E<=x;omega);have O:w.heap.size<=R.heap.size:=Zt q.out.size y.out.size;obtain⟨g,A9,hg,ab,ag⟩:=WAt.begin (most:=most) (lo:=w.heap.size) E8 M8 I8 S (by omega) N (by omega)
 have C9:=D.out.trans ((b.trans ((c.trans (B9.mono c.size)).mono b.size)).mono D.out.size);have Q:w.heap.size<=d.heap.size+1+1:=by omega
 have u:w.heap.size<=g.lk:=by omega
 clear y0 y1 z0 z1 B9 E8 M8 I8 p r n b c CO t B;generalize ((d.alloc (.cells #[Iv 0,Iv 0,Iv 0,Nv] 132)).alloc (.cells #[Pv d.heap.size 0] 130)).alloc (.cells (Qci be M m.length c7 V inp.length K most (d.heap.size+1)) 68)=z at *
 have X9:((z.setCell ⟨Y,0,none⟩ (Iv 0)).setCell ⟨Y,1,none⟩ (Iv 0)).heap[Y]?=some (.cells #[Iv 0,Iv 0] 32 (0,0)):=by
  rw[Qh (Qh a 0 _) 1 _]
  simp
 have s:Below z.heap.size z ((z.setCell ⟨Y,0,none⟩ (Iv 0)).setCell ⟨Y,1,none⟩ (Iv 0)):=⟨Z,Z,Z,by simp,fun k W=>by
  by_cases e:k=Y
  ·subst e;exact X9.trans a.symm
  ·rw[Xd _ _ _ _ e,Xd _ _ _ _ e]⟩
 have f0:=Qb X9 0 _ Z;have f1:=Qb X9 1 _ Z;exact Xy (v:=.tuple #[Pv (d.heap.size+1+1) 0,Qbw 0 0]) (by simp[results,results32,go_sem,f0,f1]) Z ⟨_,g,Z,A9.below s,fun x f=>Zt O (hg x f),Q,⟨ab,u⟩,C9.trans (s.mono C9.size)⟩
section
variable {m:List (MFunc 6)}{op:Int->Int->Int->Option Int}{R N r:RM}{x:Qs}{most:Nat}
theorem Qdw (h size:Int) (l:List Int):(R.thing h size l).fuel=R.fuel/\(R.thing h size l).back=R.back:=by
 unfold RM.thing;split<;>exact⟨Z,Z⟩
theorem QjB (h:R.part x=some r):r.fuel=R.fuel/\r.back=R.back:=by
 unfold RM.part at h;repeat' split at h
 all_goals first | (cases h;done) | (cases h;exact⟨Z,Z⟩)
def FuO (f:Nat) (k:List Int) (o:Option RM):Prop:=∀ N,o=some N->N.fuel=f/\N.back=k
theorem FuO.no {k:List Int}:FuO f k none:=fun N h=>by cases h
theorem FuO.some {k:List Int}(h:R.fuel=f/\R.back=k):FuO f k (some R):=fun N e=>by cases e;exact h
theorem FuO.ite {k:List Int}{c:Prop}[Decidable c] {a b:Option RM}(d:c->FuO f k a) (e:¬ c->FuO f k b):FuO f k (if c then a else b):=by
 by_cases h:c
 ·rw[Xs h];exact d h
 ·rw[Xr h];exact e h
theorem ins_fuO:FuO R.fuel R.back (RM.ins op R x):=by
 unfold RM.ins;refine FuO.ite (fun _=>.some ⟨Z,Z⟩) fun _=>FuO.ite (fun _=>?_) fun _=>FuO.ite (fun _=>FuO.ite (fun _=>.some ⟨Z,Z⟩) (fun _=>.some ⟨Z,Z⟩)) fun _=>FuO.ite (fun _=>?_) fun _=>FuO.ite (fun _=>?_) fun _=>FuO.ite (fun _=>?_) fun _=>FuO.ite (fun _=>?_) fun _=>FuO.ite (fun _=>?_) fun _=>FuO.ite (fun e=>FuO.ite (fun d=>?_) (fun _=>.some ⟨Z,Z⟩)) (fun _ N h=>QjB h)
 ·cases iAt R.top.v x.a with
  | none=>exact .no
  | some a =>
    cases iAt R.top.v x.b with
    | none=>exact .no
    | some b =>
      simp only
      cases op x.k a b with
      | none=>exact .some ⟨Z,Z⟩
      | some c=>exact .some ⟨Z,Z⟩
 ·cases iAt R.top.v x.a with
  | none=>exact .no
  | some a=>exact .some ⟨Z,Z⟩
 ·cases iAt R.top.v x.a with
  | none=>exact .no
  | some a=>cases QaA R.top.v x.args with
    | none=>exact .no
    | some l=>exact .some (Qdw _ _ _)
 ·cases iAt R.top.v x.a with
  | none=>exact .no
  | some a=>cases iAt R.top.v x.b with
    | none=>exact .no
    | some k=>exact FuO.ite (fun _=>.some (Qdw _ _ _)) (fun _=>.some ⟨Z,Z⟩)
 ·cases R.inp with
  | nil=>exact .some ⟨Z,Z⟩
  | cons k l=>exact .some ⟨Z,Z⟩
 ·cases iAt R.top.v x.a with
  | none=>exact .no
  | some a=>exact FuO.ite (fun _=>.some ⟨Z,Z⟩) (fun _=>.some ⟨Z,Z⟩)
 ·cases QaA R.top.v x.args with
  | none=>exact .no
  | some l=>exact .some ⟨Z,Z⟩
theorem QkA (h:RM.ins op R x=some r):r.fuel=R.fuel/\r.back=R.back:=ins_fuO r h
theorem Qed {t:MTo}(h:R.to t=some r):r.fuel=R.fuel/\r.back=R.back:=by
 unfold RM.to at h;split at h
 ·cases h
 ·cases h;exact⟨Z,Z⟩
theorem Qin {e:ZC}(h:R.endd e=some r):r.fuel=R.fuel/\(r.done=true\/r.back=R.back):=by
 unfold RM.endd at h;split at h
 ·split at h
  ·cases h
  ·split at h
   ·cases h;exact⟨Z,.inl Z⟩
   ·cases h;exact⟨Z,.inr Z⟩
 ·split at h
  ·split at h
   ·cases h
   ·split at h<;>exact⟨(Qed h).1,.inr (Qed h).2⟩
  ·exact⟨(Qed h).1,.inr (Qed h).2⟩
theorem QgO (a:N.fuel<=most) (h:RM.step m op most N=some r):r.fuel<=most/\(r.done=false->r.fuel=N.fuel+1/\r.back=N.back):=by
 unfold RM.step at h;split at h
 ·cases h;exact⟨a,fun h=>by cases h⟩
 split at h
 ·cases h
 split at h
 ·cases h
 split at h
 ·have q:r.fuel=N.fuel+1/\r.back=N.back:=QkA h;exact⟨by omega,fun _=>q⟩
 ·obtain⟨q,k⟩:r.fuel=N.fuel+1/\(r.done=true\/r.back=N.back):=Qin h
  exact⟨by omega,fun e=>⟨q,k.resolve_left (by rw[e];decide)⟩⟩
theorem rsteps_snoc:∀ (k:Nat) (R:RM),RM.steps m op most (k+1) R=(match RM.steps m op most k R with
 | none=>none
 | some N=>if N.done then some N else RM.step m op most N)
 | 0,R=>by
   simp only[RM.steps]
   split
   ·rfl
   ·cases RM.step m op most R<;>rfl
 | k+1,R=>by
   rw[RM.steps]
   split
   ·rename_i a
    rw[RM.steps,Xs a]
    simp[a]
   ·rename_i a
    rw[RM.steps,Xr a]
    cases RM.step m op most R with
    | none=>rfl
    | some R'=>exact rsteps_snoc k R'
theorem QfZ (h:RM.steps m op most k R=some N) (b:N.done=true):∀ n,k<=n->RM.steps m op most n R=some N:=fun n a=>by
 obtain⟨j,rfl⟩:=Nat.le.dest a
 clear a
 induction j with
 | zero=>exact h
 | succ j ih=>rw[<-Nat.add_assoc,rsteps_snoc,ih];simp[b]
theorem Qd9 (H:(Qq m).1=0) (inp:List Int)(b:pages<=64) (n:Nat):∃ N,RM.steps m op most n (RM.start inp pages)=some N:=by
 obtain⟨c,a,-,h,-⟩:=Qk0 (op:=op) (most:=most) H inp b n
 exact⟨a,h⟩
end
def QfF (m:List (MFunc 6)) (most:Nat) (R0:RM):Prop:=∀ k,∃ N,RM.steps m aOp most k R0=some N
structure QeX (wL w:World) (b most:Nat) (m:List (MFunc 6)) (R0 N:RM) (g:WG) (k:Nat):Prop where
 at_:WAt w b most m N g
 far:∀ x,g.A x->wL.heap.size<=x
 bel:Below wL.heap.size wL w
 st:RM.steps m aOp most k R0=some N
 fu:N.done=false->N.fuel=k
 le:N.fuel<=most
 bk:N.done=false->N.back=[]
def boolW:Value->Bool
 | .bool b=>b
 | _=>false
def Qkt (b most:Nat) (w:World):Nat:=if boolW ((w.cell? ⟨b,9,none⟩).getD undef) then 0 else most+1 - (intOf ((w.cell? ⟨b,8,none⟩).getD undef)).toNat+1
section
variable {wL w w':World}{b most k:Nat}{m:List (MFunc 6)}{R0 N:RM}{g:WG}
theorem WAt.left (S:WAt w b most m N g):Qkt b most w=if N.done then 0 else most+1 - N.fuel+1:=by
 unfold Qkt;have c:w.cell? ⟨b,9,none⟩=some (.bool N.done):=Qb S.box 9 _ Z;have d:w.cell? ⟨b,8,none⟩=some (Iv N.fuel):=Qb S.box 8 _ Z;rw[c,d]
 by_cases a:N.done=true
 ·simp[a,boolW]
 ·simp[a,intOf,boolW]
theorem QeX.below (Z:QeX wL w b most m R0 N g k) (h:Below w.heap.size w w'):QeX wL w' b most m R0 N g k:=⟨Z.at_.below h,Z.far,Z.bel.trans (h.mono Z.bel.size),Z.st,Z.fu,Z.le,Z.bk⟩
theorem WAt.high (S:WAt w b most m N g) (h:N.back=[]):WAt w b most m N { g with lo:=w.heap.size } :=
 ⟨S.box,S.est,S.mod,S.inp,S.inpC,S.calls,by
  obtain⟨p,c,e,-⟩:=S.back
  exact⟨p,c,e,fun i a=>by rw[h] at a;exact absurd a (XG i)⟩,S.out,S.frs,S.ob,S.oc,S.oo,S.lt,Ze⟩
theorem QeX.go (l:(modFault m).1=0) (p:most<=20000) (s:QfF m most R0) (t:ROk m 0 R0) (Z:QeX wL w b most m R0 N g k) (f:N.done=false) :
 Calls prog 34 #[Pv b 0] w fun e w'=>e=.returned (.tuple #[])/\∃ N' g',QeX wL w' b most m R0 N' g' (k+1)/\Qz g.A g'.A w w'/\(g'.lo=w.heap.size/\g'.lk=g.lk)/\(N'.done=false->N'.fuel=N.fuel+1):=by
 obtain⟨r,n⟩:=s (k+1)
 have a:=n;rw[rsteps_snoc,Z.st] at a
 simp only[f] at a
 have a:RM.step m aOp most N=some r:=by simpa using a
 have u:=Z.fu f;have d:=Z.le;have I:=QcJ l t k Z.st;obtain⟨q,j⟩:=QgO d a
 refine(Qjw (Z.at_.high (Z.bk f)) I (by omega) l d (by omega) f a).mono ?_
 rintro e w' ⟨rfl,g',o,c⟩;refine⟨Yz,r,g',⟨o,fun x i=>?_,?_,n,fun h=>by rw[(j h).1,u],q,fun h=>by rw[(j h).2,Z.bk f]⟩,c.toStep,⟨c.lo,c.lk⟩,fun h=>(j h).1⟩
 ·rcases c.own x i with e | e
  ·exact Z.far x e
  ·have:=Z.bel.size;omega
 ·exact⟨c.os.trans Z.bel.os,c.tape.trans Z.bel.tape,c.output.trans Z.bel.output,Zt Z.bel.size c.size,fun x i=>(c.block x (by have:=Z.bel.size;omega) (fun e=>by have:=Z.far x e;omega)).trans (Z.bel.block x i)⟩
theorem QeX.end_ (Z:QeX wL w b most m R0 N g k) (a:k<=most+1) (c:N.done=true):RM.steps m aOp most (most+1) R0=some N:=QfZ Z.st c _ a
def Qen (w:World) (m:List (MFunc 6)) (inp:List Int) (most pages:Nat) (e:Ending) (w':World):Prop :=
 ∃ N v,RM.steps m aOp most (most+1) (RM.start inp pages)=some N/\N.done=true/\QjH w.heap.size N v w'/\e=.returned (.tuple #[v,Qbw 0 0])/\Below w.heap.size w w'
theorem Qj1 (hm:(modFault m).1=0) (O:most<=20000) (HS:QfF m most (RM.start inp pages)) (I0:ROk m 0 (RM.start inp pages))
 (K:∀ wx,Below w.heap.size w wx->Calls prog 32 #[.agg #[.slice pm m.length cm],.slice pi inp.length ci,Iv (most:Int),Iv (pages:Int)] wx fun e w'=>Qiz wx m inp most pages e w') :
 Calls prog 30 #[.agg #[.slice pm m.length cm],.slice pi inp.length ci,Iv (most:Int),Iv (pages:Int)] w fun e w'=>Qen w m inp most pages e w':=by
 have f:=((((Bxs.start w).new #[.slice pm m.length cm] 24)).new #[Iv 0,Nv,Nv,Iv 0] 44).new #[Iv 0,Iv 0] 32;rw[World.size_alloc,World.size_alloc] at f
 have f:=Qc f;have HM:=Qc hm;have HI:=Qc I0;have ac:=Qc O;have ai:=Qc HS;have ah:=Qc K;clear hm I0 O HS K;go_enter func30,ntmps30
 go_upto_region 1 with fail
 generalize ((w.alloc (.cells #[.slice pm m.length cm] 24)).alloc (.cells #[Iv 0,Nv,Nv,Iv 0] 44)).alloc (.cells #[Iv 0,Iv 0] 32)=q at f |-;have af:Hid (w.heap.size<=w.heap.size+1):=by show _<=_;omega
 have am:Hid (w.heap.size<=w.heap.size+1+1):=by show _<=_;omega
 generalize w.heap.size+1+1=h at f am |-;generalize w.heap.size+1=c at f af |-;generalize hX:w.heap.size=X at f |-;have HX:=Qc hX;have K:=Qc (ah.out q (by rw[<-HX.out] at f;exact f.out.bel));have x0:q.cell? ⟨X,0,none⟩=some (.slice pm m.length cm):=f.out.cell (a:=[_,_]) 0 _ Yz;go_upto_region 2 with (go_at_call 32;refine K.out.mono ?_;rintro U p ⟨b,g,rfl,S4,I,aa,M,D⟩)
 have S:=Qc ((f.out.below D).new #[Iv 0,Iv 0] 32);have Z5:Hid (QeX q (p.alloc (.cells #[Iv 0,Iv 0] 32)) b most m (RM.start inp pages) (RM.start inp pages) g 0):=⟨S4.below (ZO _ _),I,D.trans ((ZO _ _).mono D.size),Yz,fun _=>rfl,Xb _,fun _=>rfl⟩;have al:Hid (q.heap.size<=p.heap.size):=D.size;clear S4 I aa M D K x0;have aq:=Qc f.out.bel
 have Q:Hid (q.heap.size<=p.heap.size/\p.heap.size<(p.alloc (.cells #[Iv 0,Iv 0] 32)).heap.size):=by
  constructor
  ·exact al.out
  ·simp
 clear hX;generalize p.alloc (.cells #[Iv 0,Iv 0] 32)=w5 at S Z5 Q |-;generalize p.heap.size=F at S Q |-;have f0:w5.cell? ⟨F,0,none⟩=some (Iv 0):=S.out.cell (a:=[]) 0 _ Yz;go_upto_region 4 with fail
 clear f0;go_loopw [] (fun wr=>∃ N g k,QeX q wr b most m (RM.start inp pages) N g k/\k<=most+1) (fun wr=>Qkt b most wr)
 case atStart=>exact⟨_,_,_,Z5.out,Xb _⟩
 case round =>
  obtain⟨N,g',k,Z,hk⟩:=hrel
  have P:=Qc (QeR Z.at_)
  cases hd:N.done with
  | false =>
    have C:=Qc (Z.go HM.out ac.out ai.out HI.out hd);have HL:=Qc Z.at_.left;rw[hd] at P HL
    have ap:=Z.le;have V:k+1<=most+1:=by have:=Z.fu hd;omega
    clear Z hd;go_wp2_with (first | (go_at_call 33;refine P.out.mono ?_;rintro U w' ⟨rfl,o⟩;have o:=o.symm;subst o) | (go_at_call 34;refine C.out.mono ?_;rintro U w6 ⟨rfl,N',g6,Z6,T6,-,ae⟩))
    go_roundw
    case rel=>exact⟨N',g6,_,Z6,V⟩
    case measure =>
     rw[HL.out,Z6.at_.left]
     have h6:=Z6.le
     cases hd6:N'.done with
     | true=>simp
     | false=>have:=ae hd6;simp;omega
  | true =>
    have ad:=Qc (Z.end_ hk hd);have HD:=Qc hd
    have HK:Hid (N.out.length<=1000000/\N.back.length<=1000000):=by
     have J:=QcJ HM.out HI.out k Z.st;exact⟨by have:=J.out.1;omega,by have:=J.out.2;omega⟩
    have CO:=Qc (Qcf Z.at_ HK.out.1 HK.out.2);have z:=Qc (f.out.below Z.bel);have ag:Hid (c<wr.heap.size/\h<wr.heap.size):=⟨(z.out.at (a:=[_])).lt,(z.out.at (a:=[])).lt⟩;have aj:Hid (w.heap.size<=wr.heap.size):=z.out.bel.size;rw[hd] at P
    clear Z hd hk;go_upto_region 6 with (go_at_call 33;refine P.out.mono ?_;rintro U w' ⟨rfl,o⟩;have o:=o.symm;subst o)
    go_wp2_with fail
    refine CO.out.mono ?_;rintro U w8 ⟨v,rfl,⟨vb,vo,rfl,⟨t,r,rfl,A,G,E⟩,⟨y,s,rfl,L,H,B⟩⟩,b8⟩;have d:=Qc (z.out.below b8);have r0:=d.out.cell (a:=[_]) 0 _ Yz;have r1:=d.out.cell (a:=[_]) 1 _ Yz;have r2:=d.out.cell (a:=[_]) 2 _ Yz;have r3:=d.out.cell (a:=[_]) 3 _ Yz;have z0:=d.out.free (a:=[_]) 0;have z1:=d.out.free (a:=[_]) 1;have z2:=d.out.free (a:=[_]) 2;have z3:=d.out.free (a:=[_]) 3;have s0:=d.out.cell (a:=[]) 0 _ Yz;have s1:=d.out.cell (a:=[]) 1 _ Yz;have y0:=d.out.free (a:=[]) 0;have y1:=d.out.free (a:=[]) 1;have ak:¬ c=h:=fun e=>by have:=d.out.nd;simp[e] at this
    have an:¬ h=c:=fun e=>ak e.symm;have i:=Qc (Xh A (Xh G E));have j:=Qc (Xh L (Xh H B));clear A G E L H B b8 CO P f S z Z5;go_wp2_with fail
    have n:=(((((d.out.set (a:=[_]) 0 (Iv N.fin)).set (a:=[_]) 1 (.slice t N.back.length r)).set (a:=[_]) 2 (.slice y N.out.length s)).set (a:=[_]) 3 (Iv N.fuel)).set (a:=[]) 0 (Iv 0)).set (a:=[]) 1 (Iv 0)
    have W:∀ x,wr.heap.size<=x->((((((w8.setCell ⟨c,0,none⟩ (Iv N.fin)).setCell ⟨c,1,none⟩ (.slice t N.back.length r)).setCell ⟨c,2,none⟩ (.slice y N.out.length s)).setCell ⟨c,3,none⟩ (Iv N.fuel)).setCell ⟨h,0,none⟩ (Iv 0)).setCell ⟨h,1,none⟩ (Iv 0)).heap[x]?=w8.heap[x]?:=fun x l=>by
     have h1:=ag.out;have T:x≠c:=by omega
     have n9:x≠h:=by omega
     rw[Xd _ _ _ _ n9,Xd _ _ _ _ n9,Xd _ _ _ _ T,Xd _ _ _ _ T,Xd _ _ _ _ T,Xd _ _ _ _ T]
    generalize ((((((w8.setCell ⟨c,0,none⟩ (Iv N.fin)).setCell ⟨c,1,none⟩ (.slice t N.back.length r)).setCell ⟨c,2,none⟩ (.slice y N.out.length s)).setCell ⟨c,3,none⟩ (Iv N.fuel)).setCell ⟨h,0,none⟩ (Iv 0)).setCell ⟨h,1,none⟩ (Iv 0))=u at n W |-;have f0:u.cell? ⟨c,0,none⟩=some (Iv N.fin):=n.cell (a:=[_]) 0 _ Yz;have f1:u.cell? ⟨c,1,none⟩=some (.slice t N.back.length r):=n.cell (a:=[_]) 1 _ Yz;have f2:u.cell? ⟨c,2,none⟩=some (.slice y N.out.length s):=n.cell (a:=[_]) 2 _ Yz;have f3:u.cell? ⟨c,3,none⟩=some (Iv N.fuel):=n.cell (a:=[_]) 3 _ Yz;have q0:u.cell? ⟨h,0,none⟩=some (Iv 0):=n.cell (a:=[]) 0 _ Yz;have q1:u.cell? ⟨h,1,none⟩=some (Iv 0):=n.cell (a:=[]) 1 _ Yz;have R:=aj.out
    exact Xy (v:=.tuple #[.agg #[Iv N.fin,.slice t N.back.length r,.slice y N.out.length s,Iv N.fuel],Qbw 0 0]) (by simp[results,results30,go_sem,f0,f1,f2,f3,q0,q1]) Yz
     ⟨N,_,ad.out,HD.out,⟨_,_,Yz,⟨t,r,Yz,i.out.1,Q0 i.out.2.1 (fun x l=>W x (i.out.2.2 x l)),fun x l=>Zt R (i.out.2.2 x l)⟩,⟨y,s,Yz,j.out.1,Q0 j.out.2.1 (fun x l=>W x (j.out.2.2 x l)),fun x l=>Zt R (j.out.2.2 x l)⟩⟩,Yz,n.bel⟩
end
section
variable {wL w w':World}{b bx by_ most j k s F:Nat}{m o:List (MFunc 6)}{R X0 Y0 X Y:RM}{g gx gy:WG}{O O':Nat->Prop}{ff:Array Value}{T:TypeId}
theorem WAt.other (S:WAt w b most m R g) (T:Qz O O' w w') (e:∀ x,g.A x->¬ O x) (f:∀ x,g.lk<=x->x<b->¬ O x) (h:WIn w (fun x=>(g.ow x=0/\g.lo<=x)/\¬ O x) R.back g.vb):WAt w' b most m R g:=by
 have d:∀ x,g.A x->w'.heap[x]?=w.heap[x]?:=fun x a=>T.block x (S.lt x a) (e x a);have i:=S.est.step (P:=O) (P':=O') T (fun x a=>e x (by show g.ow x≠0;have a:g.ow x=2:=a;omega));refine⟨(d b (by show g.ow b≠0;rw[S.ob];decide)).trans S.box,?_,?_,?_,S.inpC,Q0 S.calls (fun x a=>d x (by show g.ow x≠0;rw[S.oc x a];decide)),?_,Q0 S.out (fun x a=>d x (by show g.ow x≠0;rw[S.oo x a];decide)),S.frs.keep (fun _ _=>rfl) (fun x a j _=>d x (by show g.ow x≠0;omega)),S.ob,S.oc,S.oo,fun x a=>Zl (S.lt x a) T.size,Zt S.low T.size⟩
 ·exact i
 ·exact(QaN 6).keep (fun x a c=>T.block x c (f x a.2.1 a.2.2)) (fun x a _=>a) S.mod
 ·exact intsL.keep (fun x a c=>T.block x c (f x a.2.1 a.2.2)) (fun x a _=>a) S.inp
 ·exact WIn.keep (fun x a c=>T.block x c a.2) (fun x a _=>a.1) h
structure Qdm (wL w:World) (bx by_ most:Nat) (m o:List (MFunc 6)) (X0 Y0 X Y:RM) (gx gy:WG) (j k s F:Nat) (ff:Array Value) (T:TypeId):Prop where
 x:QeX wL w bx most m X0 X gx j
 y:QeX wL w by_ most o Y0 Y gy k
 ap:∀ z,gx.A z->¬ gy.A z
 ys:∀ z,gy.A z->s<=z
 xs:∀ z,gx.A z->z<s\/by_<z
 bs:bx<s
 ly:s<=gy.lk
 xb:WIn w (fun z=>(gx.ow z=0/\gx.lo<=z)/\¬ gy.A z) X.back gx.vb
 yb:WIn w (fun z=>(gy.ow z=0/\gy.lo<=z)/\¬ gx.A z) Y.back gy.vb
 fb:w.heap[F]?=some (.cells ff T (0,0))
 fx:¬ gx.A F
 fy:¬ gy.A F
theorem Qdm.goX (u:(modFault m).1=0) (f:most<=20000) (D:QfF m most X0) (G:ROk m 0 X0) (Z:Qdm wL w bx by_ most m o X0 Y0 X Y gx gy j k s F ff T) (E:X.done=false) :
 Calls prog 34 #[Pv bx 0] w fun e w'=>e=.returned (.tuple #[])/\∃ X' gx',Qdm wL w' bx by_ most m o X0 Y0 X' Y gx' gy (j+1) k s F ff T/\(X'.done=false->X'.fuel=X.fuel+1):=by
 refine(Z.x.go u f D G E).mono ?_
 rintro e w' ⟨rfl,X',gx',g,b,⟨v,C⟩,p⟩;have H:=XC Z.y.at_.box;have n:=XC Z.fb;have d:∀ z,z<w.heap.size->¬ gx.A z->¬ gx'.A z:=fun z a h e=>(b.own z e).elim h (fun q=>by omega);refine⟨Yz,X',gx',⟨g,⟨Z.y.at_.other b (fun z B i=>Z.ap z i B) (fun z r t i=>?_) Z.yb,Z.y.far,g.bel,Z.y.st,Z.y.fu,Z.y.le,Z.y.bk⟩,fun z h c=>?_,Z.ys,fun z h=>?_,Z.bs,Z.ly,?_,?_,(b.block F n Z.fx).trans Z.fb,d F n Z.fx,Z.fy⟩,p⟩
 ·have I:=Z.ly;rcases Z.xs z i with e | e<;>omega
 ·exact d z (Z.y.at_.lt z c) (fun e=>Z.ap z e c) h
 ·rcases b.own z h with e | e
  ·exact Z.xs z e
  ·exact .inr (by omega)
 ·exact WIn.keep (fun _ _ _=>rfl) (fun z a _=>⟨a,fun c=>by
   have r:=Z.y.at_.lt z c;have t:=a.2;omega⟩) g.at_.back
 ·exact WIn.keep (fun z a l=>b.block z l a.2) (fun z a l=>⟨a.1,d z l a.2⟩) Z.yb
theorem Qdm.goY (t:(modFault o).1=0) (f:most<=20000) (D:QfF o most Y0) (G:ROk o 0 Y0) (Z:Qdm wL w bx by_ most m o X0 Y0 X Y gx gy j k s F ff T) :
 Calls prog 34 #[Pv by_ 0] w fun e w'=>e=.returned (.tuple #[])/\∃ Y' gy' k',Qdm wL w' bx by_ most m o X0 Y0 X Y' gx gy' j k' s F ff T:=by
 cases hd:Y.done with
 | true=>exact(QgQ Z.y.at_ hd).mono fun e w' h=>⟨h.1,Y,gy,k,by rw[h.2];exact Z⟩
 | false =>
   refine(Z.y.go t f D G hd).mono ?_
   rintro e w' ⟨rfl,Y',gy',i,c,⟨B,g⟩,H⟩;have r:=XC Z.fb;have d:∀ z,z<w.heap.size->¬ gy.A z->¬ gy'.A z:=fun z a h e=>(c.own z e).elim h (fun q=>by omega);refine⟨Yz,Y',gy',k+1,⟨⟨Z.x.at_.other c (fun z C b=>Z.ap z C b) (fun z n p b=>?_) Z.xb,Z.x.far,i.bel,Z.x.st,Z.x.fu,Z.x.le,Z.x.bk⟩,i,fun z h b=>?_,fun z h=>?_,Z.xs,Z.bs,by rw[g];exact Z.ly,?_,?_,(c.block F r Z.fy).trans Z.fb,Z.fx,d F r Z.fy⟩⟩
   ·have v:=Z.ys z b;have u:=Z.bs;omega
   ·exact d z (Z.x.at_.lt z h) (Z.ap z h) b
   ·rcases c.own z h with e | e
    ·exact Z.ys z e
    ·have n:=Z.bs;have p:=Z.ly;have v:=XC Z.y.at_.box;have u:=Z.ys by_ (by show gy.ow by_≠0;rw[Z.y.at_.ob];decide);omega
   ·exact WIn.keep (fun z a l=>c.block z l a.2) (fun z a l=>⟨a.1,d z l a.2⟩) Z.xb
   ·exact WIn.keep (fun _ _ _=>rfl) (fun z a _=>⟨a,fun E=>by
     have n:=Z.x.at_.lt z E;have p:=a.2;omega⟩) i.at_.back
theorem Qdm.start {b:World}(a:QeX wL w2 bx most m X0 X0 gx 0) (k:bx<w2.heap.size) (q:WIn w2 (fun z=>(gx.ow z=0/\gx.lo<=z)/\z<w2.heap.size) X0.back gx.vb)
 (S:WAt b by_ most o (RM.start inp pages) gy) (f:∀ x,gy.A x->w2.heap.size<=x) (v:w2.heap.size<=by_) (d:w2.heap.size<=gy.lk) (g:Below w2.heap.size w2 b) (u:b.heap[F]?=some (.cells ff T (0,0))) (s:¬ gx.A F) (t:¬ gy.A F) :
 Qdm wL b bx by_ most m o X0 (RM.start inp pages) X0 (RM.start inp pages) gx gy 0 0 w2.heap.size F ff T:=by
 have j:=a.bel.size;refine⟨a.below g,⟨S,fun x h=>Zt j (f x h),a.bel.trans (g.mono j),Z,fun _=>rfl,Xb _,fun _=>rfl⟩,fun z h r=>?_,f,fun z h=>.inl (a.at_.lt z h),k,d,?_,?_,u,s,t⟩
 ·have:=a.at_.lt z h
  have:=f z r
  omega
 ·exact WIn.keep (fun z _ d=>g.block z d) (fun z l d=>⟨l.1,fun e=>by have:=f z e;omega⟩) q
 ·obtain⟨p,c,e,-⟩:=S.back
  exact⟨p,c,e,fun i n=>absurd n (XG i)⟩
end
theorem QhS (x:MTo) (a:Nat):x.form a true=if rangeC x.block 0 ((a:Int) - 1)=0 then handedC x.regs.length 16 x.args.length else rangeC x.block 0 ((a:Int) - 1):=by
 unfold MTo.form rangeC handedC manyC;simp only[Bool.true_eq_false,if_false]
 repeat' split
 all_goals omega
theorem Qi8 (x:MTo) (a:Nat):x.form a false=if x.block=0/\x.regs.length=0/\x.args.length=0 then 0 else 4:=by
 unfold MTo.form;simp only[if_true]
 repeat' split
 all_goals omega
theorem Qg7 (e:ZC) (b:Nat):e.form b=if e.op<1\/3<e.op then 3 else if (e.op≠2/\e.a≠0)\/(e.op≠3/\0<e.args.length) then 4 else if 8<e.args.length then 2
 else if e.yes.form b (e.op != 3)=0 then e.no.form b (e.op==2) else e.yes.form b (e.op != 3):=by
 unfold ZC.form;have i:decide (e.op≠3)=(e.op != 3):=by by_cases h:e.op=3<;>simp[h]
 have j:decide (e.op=2)=(e.op==2):=by by_cases h:e.op=2<;>simp[h]
 rw[i,j]
 by_cases d:e.op<1\/3<e.op
 ·simp[d]
 ·rw[Xr d,Xr d]
  by_cases c:(e.op≠2/\e.a≠0)\/(e.op≠3/\0<e.args.length)
  ·rw[Xs c,Xs (c.imp (fun h=>⟨h.2,h.1⟩) (fun h=>⟨h.2,h.1⟩))]
  ·rw[Xr c,Xr (fun h=>c (h.imp (fun h=>⟨h.2,h.1⟩) (fun h=>⟨h.2,h.1⟩)))]
   by_cases f:8<e.args.length
   ·simp[f]
   ·rw[Xr f,Xr f]
    by_cases g:e.yes.form b (e.op != 3)=0
    ·simp[g]
    ·simp[g]
theorem QlE {a:Int}{b c:Nat}{l f m:Option Addr}{e k d j h i:Nat}:Rd prog 230 #[.agg #[Iv fr,.slice l e k,.slice f d j,.slice m h i],.agg #[Iv a,.slice pR b cR,.slice pA c cA],.bool false] w (Iv (if a=0/\b=0/\c=0 then 0 else 4)):=by
 unfold Rd;rcases (show a=0/\b=0/\c=0\/¬ a=0\/a=0/\(0:Int)<b\/a=0/\b=0/\(0:Int)<c by omega) with ⟨rfl,rfl,rfl⟩ | g | ⟨rfl,g⟩|⟨rfl,rfl,g⟩
 rw[Xs ⟨Z,Z,Z⟩]
 rotate_left
 all_goals
  try rw[Xr (by omega)]
  try rw[<-bne_iff_ne,bne,Bool.not_eq_true'] at g
  go_enter func230,ntmps230
  go_wp2
  go_ret;exact⟨Z,QhB _ _ _⟩
theorem Qlo {b:Int}{c d:Nat}{q l k:Option Addr}{r j n p a o:Nat}(G:a<2305843009213693952):Rd prog 230 #[.agg #[Iv fr,.slice q r j,.slice l n p,.slice k a o],.agg #[Iv b,.slice pR c cR,.slice pA d cA],.bool true] w (Iv (if rangeC b 0 ((a:Int) - 1)=0 then handedC c 16 d else rangeC b 0 ((a:Int) - 1))):=by
 have C:Hid (∀ f:World,Calls prog 262 #[Iv b,Iv 0,Iv ((a:Int) - 1)] f fun e y=>e=.returned (Iv (rangeC b 0 ((a:Int) - 1)))/\Below f.heap.size f y):=fun f=>QaH;have s:Hid (∀ f:World,Calls prog 264 #[.slice pR c cR,Iv 16,.slice pA d cA] f fun e y=>e=.returned (Iv (handedC c 16 d))/\Below f.heap.size f y):=fun f=>Qbj;generalize rangeC b 0 ((a:Int) - 1)=v at C |-;generalize handedC c 16 d=u at s |-;have h:Blk ((w.alloc (.cells #[Iv fr,.slice q r j,.slice l n p,.slice k a o] 89)).alloc (.cells #[Iv b,.slice pR c cR,.slice pA d cA] 82)) (w.heap.size+1) #[Iv b,.slice pR c cR,.slice pA d cA] 82:=Blk.new2 _ _ _ _;have g:Hid (Below w.heap.size w ((w.alloc (.cells #[Iv fr,.slice q r j,.slice l n p,.slice k a o] 89)).alloc (.cells #[Iv b,.slice pR c cR,.slice pA d cA] 82))):=QhB _ _ _;unfold Rd;by_cases x:v=0
 ·subst x;rw[Xs Z]
  go_enter func230,ntmps230
  go_wp2_with fail
  generalize ((w.alloc (.cells #[Iv fr,.slice q r j,.slice l n p,.slice k a o] 89)).alloc (.cells #[Iv b,.slice pR c cR,.slice pA d cA] 82))=F at h g |-;refine(C.out _).mono ?_
  rintro e t ⟨rfl,i⟩;have z:=(i.block _ (XC h)).trans h;have m:Hid (Below w.heap.size w t):=g.out.trans (i.mono g.out.size);have H:=Qb z 1 _ Z;have I:=Qb z 2 _ Z;clear i C h g z;go_wp2_with fail
  refine(s.out _).mono ?_
  rintro e D ⟨rfl,A⟩;have B:Hid (Below w.heap.size w D):=m.out.trans (A.mono m.out.size);clear A s m;go_wp2
  go_ret;exact⟨Z,B.out⟩
 ·rw[Xr x]
  have E:(v==0)=false:=by simpa using x
  go_enter func230,ntmps230
  go_wp2_with fail
  generalize ((w.alloc (.cells #[Iv fr,.slice q r j,.slice l n p,.slice k a o] 89)).alloc (.cells #[Iv b,.slice pR c cR,.slice pA d cA] 82))=F at h g |-;refine(C.out _).mono ?_
  rintro e t ⟨rfl,i⟩;have m:Hid (Below w.heap.size w t):=g.out.trans (i.mono g.out.size);clear i C s h g;go_wp2
  go_ret;exact⟨Z,m.out⟩
theorem QdN {x:MTo}{j k e:Option Addr}{f i d h b g:Nat}(a:Bool)(c:b<2305843009213693952) :
 Rd prog 230 #[.agg #[Iv fr,.slice j f i,.slice k d h,.slice e b g],.agg #[Iv x.block,.slice pR x.regs.length cR,.slice pA x.args.length cA],.bool a] w (Iv (x.form b a)):=by
 cases a
 ·rw[Qi8];exact QlE
 ·rw[QhS];exact Qlo c
theorem QjU {a r G:Int}{i f m n K:Option Addr}{h d c k o g p l q L:Nat}{C t u:Option Addr}{D s v A x y:Nat}{z P:Int}(Q:¬ (a<1\/3<a)) (R:¬ ((a≠2/\r≠0)\/(a≠3/\0<q))) (S:¬ 8<q)
 (M:Hid (∀ wx:World,Calls prog 230 #[.agg #[Iv fr,.slice C D s,.slice t v A,.slice u x y],.agg #[Iv yb,.slice i h d,.slice f c k],.bool (a != 3)] wx fun e w'=>e=.returned (Iv z)/\Below wx.heap.size wx w'))
 (I:Hid (∀ wx:World,Calls prog 230 #[.agg #[Iv fr,.slice C D s,.slice t v A,.slice u x y],.agg #[Iv G,.slice m o g,.slice n p l],.bool (a==2)] wx fun e w'=>e=.returned (Iv P)/\Below wx.heap.size wx w')) :
 Rd prog 185 #[.agg #[Iv fr,.slice C D s,.slice t v A,.slice u x y],.agg #[Iv a,Iv r,Iv yb,.slice i h d,.slice f c k,Iv G,.slice m o g,.slice n p l,.slice K q L]] w (Iv (if z=0 then P else z)):=by
 obtain⟨E,B⟩:∃ E,E=(w.alloc (.cells #[Iv fr,.slice C D s,.slice t v A,.slice u x y] 89)).alloc (.cells #[Iv a,Iv r,Iv yb,.slice i h d,.slice f c k,Iv G,.slice m o g,.slice n p l,.slice K q L] 84):=⟨_,Z⟩
 have b:Blk E w.heap.size #[Iv fr,.slice C D s,.slice t v A,.slice u x y] 89:=by rw[B];exact Blk.new1 _ _ _ _ _
 have j:Blk E (w.heap.size+1) #[Iv a,Iv r,Iv yb,.slice i h d,.slice f c k,Iv G,.slice m o g,.slice n p l,.slice K q L] 84:=by rw[B];exact Blk.new2 _ _ _ _
 have J:Hid (Below w.heap.size w E):=by rw[B];exact QhB _ _ _
 unfold Rd;have g8:¬ (8:Int)<q:=by omega
 rcases (show a=1/\r=0/\q=0\/a=2/\q=0\/a=3/\r=0 by omega) with ⟨rfl,rfl,rfl⟩|⟨rfl,rfl⟩|⟨rfl,rfl⟩
 all_goals
  clear Q R S;go_enter func185,ntmps185
  go_wp2_with fail
  rw[<-B]
  clear B;refine(M.out _).mono ?_
  rintro e T ⟨rfl,H⟩;replace b:=(H.block _ (XC b)).trans b;replace j:=(H.block _ (XC j)).trans j;have F:Hid (Below w.heap.size w T):=J.out.trans (H.mono J.out.size);clear H M J;by_cases O:z=0
  ·subst O;have c0:=Qb b 0 _ Z;have X:=Qb b 1 _ Z;have c2:=Qb b 2 _ Z;have c3:=Qb b 3 _ Z;have d0:=Qb j 0 _ Z;have d5:=Qb j 5 _ Z;have d6:=Qb j 6 _ Z;have d7:=Qb j 7 _ Z;clear b j;go_wp2_with fail
   refine(I.out _).mono ?_
   rintro e V ⟨rfl,N⟩;have U:Hid (Below w.heap.size w V):=F.out.trans (N.mono F.out.size);clear N I F;go_wp2
   go_ret;exact⟨Z,U.out⟩
  ·have W:(z==0)=false:=by simpa using O
   clear I b j;go_wp2
   go_ret;exact⟨Z,F.out⟩
theorem QfB {a b x:Int}{k f n o D:Option Addr}{j e d l p i q m c E:Nat}{B s t:Option Addr}{C r u A y z:Nat}{v:Int}(h:(v=3/\(a<1\/3<a))\/(v=4/\¬ (a<1\/3<a)/\((a≠2/\b≠0)\/(a≠3/\0<c)))\/(v=2/\¬ (a<1\/3<a)/\¬ ((a≠2/\b≠0)\/(a≠3/\0<c))/\8<c)) :
 Rd prog 185 #[.agg #[Iv fr,.slice B C r,.slice s u A,.slice t y z],.agg #[Iv a,Iv b,Iv yb,.slice k j e,.slice f d l,Iv x,.slice n p i,.slice o q m,.slice D c E]] w (Iv v):=by
 unfold Rd;rcases (show v=3/\a<1\/v=3/\¬ a<1/\3<a\/v=4/\a=1/\b=0/\(0:Int)<c\/v=4/\a=1/\¬ b=0\/v=4/\a=2/\(0:Int)<c\/v=4/\a=3/\¬ b=0\/v=2/\a=3/\b=0/\(8:Int)<c by omega) with ⟨rfl,g⟩|⟨rfl,F,g⟩|⟨rfl,rfl,rfl,g⟩|⟨rfl,rfl,g⟩|⟨rfl,rfl,g⟩|⟨rfl,rfl,g⟩|⟨rfl,rfl,rfl,g⟩
 all_goals
  try rw[<-bne_iff_ne,bne,Bool.not_eq_true'] at g
  clear h;go_enter func185,ntmps185
  go_wp2
  go_ret;exact⟨Z,QhB _ _ _⟩
theorem Qgj {x:ZC}{e:EP}{i k o:Option Addr}{j m h n g l:Nat}(p:x.yes.regs.length<2305843009213693952/\x.yes.args.length<2305843009213693952/\x.no.regs.length<2305843009213693952/\x.no.args.length<2305843009213693952) (d:g<2305843009213693952):Rd prog 185 #[.agg #[Iv fr,.slice i j m,.slice k h n,.slice o g l],.agg #[Iv x.op,Iv x.a,Iv x.yes.block,.slice e.pYR x.yes.regs.length e.cYR,.slice e.pYA x.yes.args.length e.cYA,Iv x.no.block,.slice e.pNR x.no.regs.length e.cNR,.slice e.pNA x.no.args.length e.cNA,.slice e.pA x.args.length e.cA]] w (Iv (x.form g)):=by
 rw[Qg7]
 by_cases b:x.op<1\/3<x.op
 ·rw[Xs b];exact QfB (.inl ⟨Z,b⟩)
 rw[Xr b]
 by_cases c:(x.op≠2/\x.a≠0)\/(x.op≠3/\0<x.args.length)
 ·rw[Xs c];exact QfB (.inr (.inl ⟨Z,b,c⟩))
 rw[Xr c]
 by_cases f:8<x.args.length
 ·rw[Xs f];exact QfB (.inr (.inr ⟨Z,b,c,f⟩))
 rw[Xr f]
 exact QjU b c f (fun _=>QdN _ d) (fun _=>QdN _ d)
theorem typeFault_any:∀ n,Qd4 127 n:=by
 intro n
 induction n with
 | zero=>intro t;exact Empty.elim t
 | succ n ih =>
   intro t a c b w ht ab;have IH:Hid (Qd4 127 n):=ih;clear ih;have hT:Hid (LIn w All t.2.2 a):=ht.list;have N:Hid (∀ x∈t.2.2,x.count<=100000):=fun x I=>by have:=t.count_kid I;omega
   have H:t.2.2.length<=100000:=by have:=t.len_lt_count;rw[t.len_eq] at this;omega
   have m:Hid (t.fault b=if ownC t.kind t.r t.2.2.length b≠0 then ownC t.kind t.r t.2.2.length b else Qu (TT.fault b) t.2.2):=rfl;generalize t.fault b=h at m |-;simp only[Tv,TT.len_eq]
   generalize t.2.2=l at hT N m H |-;generalize t.kind=k at m |-;generalize t.r=r at m |-;clear ht ab t;generalize P:l.length=d at m H |-;have Q:Hid (l.length=d):=P;clear P;rcases (show k<1\/(¬ k<1/\4<k)\/k=1\/k=2\/k=4\/k=3 by omega) with p | ⟨p,E⟩ | rfl | rfl | rfl | rfl
   ·have f:=m.out;rw[show ownC _ _ d b=3 by unfold ownC;repeat' split;all_goals omega] at f
    clear m;replace f:Hid (h=3):=by show h=3;simpa using f
    go_enter func127,ntmps127
    go_wp2_with fail
    go_ret;exact⟨by rw[f.out];rfl,(Below.refl _ w).alloc Ze _⟩
   ·have f:=m.out;rw[show ownC _ _ d b=3 by unfold ownC;repeat' split;all_goals omega] at f
    clear m;replace f:Hid (h=3):=by show h=3;simpa using f
    go_enter func127,ntmps127
    go_wp2_with fail
    go_ret;exact⟨by rw[f.out];rfl,(Below.refl _ w).alloc Ze _⟩
   ·rcases (show r≠0\/(r=0/\0<d)\/(r=0/\d=0) by omega) with p | ⟨rfl,p⟩|⟨rfl,p⟩
    ·have u:(r != 0)=true:=by simpa using p
     have f:=m.out;rw[show ownC _ _ d b=4 by unfold ownC;repeat' split;all_goals omega] at f
     clear m;replace f:Hid (h=4):=by show h=4;simpa using f
     go_enter func127,ntmps127
     go_wp2_with fail
     go_ret;exact⟨by rw[f.out];rfl,(Below.refl _ w).alloc Ze _⟩
    ·have u:(0:Int)<(d:Int):=by omega
     have f:=m.out;rw[show ownC _ _ d b=4 by unfold ownC;repeat' split;all_goals omega] at f
     clear m;replace f:Hid (h=4):=by show h=4;simpa using f
     go_enter func127,ntmps127
     go_wp2_with fail
     go_ret;exact⟨by rw[f.out];rfl,(Below.refl _ w).alloc Ze _⟩
    ·have u:¬ (0:Int)<(d:Int):=by omega
     have F:¬ (8:Int)<(d:Int):=by omega
     have f:=m.out;rw[show ownC _ _ d b=0 by unfold ownC;repeat' split;all_goals omega] at f
     clear m;have R:Hid (h=Qu (TT.fault b) l):=by show h=Qu (TT.fault b) l;simpa using f
     clear f
     have U:Hid (h=0):=by
      have D:l=[]:=Xf.1 (Q.out.trans p)
      have:=R.out
      rw[D] at this
      exact this
     subst p;clear R u F;go_enter func127,ntmps127
     go_wp2_with fail
     have B:=Bx.start w 1 0 a 0 c;generalize w.alloc (.cells #[Iv 1,Iv 0,.slice a 0 c] 105)=J at B |-;have s:Hid (Bx w J 1 0 a 0 c):=B;clear B;go_loopw [5] (fun i wr=>i=Iv 0/\Bx w wr 1 0 a 0 c) (fun _ _=>0)
     case atStart=>exact⟨Z,s.out⟩
     case round =>
      clear s;obtain⟨rfl,z⟩:=hrel
      have s:Hid (Bx w wr 1 0 a 0 c):=z;have W:wr.cell? ⟨w.heap.size,2,none⟩=some (.slice a 0 c):=Qb z.box 2 _ Z;clear z;go_wp2
      go_ret;exact⟨by rw[U.out];rfl,s.out.bel⟩
   ·rcases (show 0<d\/(d=0/\r<0)\/(d=0/\0<=r/\b<=r)\/(d=0/\0<=r/\r<b) by omega) with p | ⟨p,E⟩|⟨p,E,O⟩|⟨p,E,O⟩
    ·have u:(0:Int)<(d:Int):=by omega
     have f:=m.out;rw[show ownC _ _ d b=4 by unfold ownC;repeat' split;all_goals omega] at f
     clear m;replace f:Hid (h=4):=by show h=4;simpa using f
     go_enter func127,ntmps127
     go_wp2_with fail
     go_ret;exact⟨by rw[f.out];rfl,(Below.refl _ w).alloc Ze _⟩
    ·have u:¬ (0:Int)<(d:Int):=by omega
     have F:¬ (8:Int)<(d:Int):=by omega
     have f:=m.out;rw[show ownC _ _ d b=1 by unfold ownC;repeat' split;all_goals omega] at f
     clear m;replace f:Hid (h=1):=by show h=1;simpa using f
     go_enter func127,ntmps127
     go_wp2_with fail
     go_ret;exact⟨by rw[f.out];rfl,(Below.refl _ w).alloc Ze _⟩
    ·have u:¬ (0:Int)<(d:Int):=by omega
     have F:¬ (8:Int)<(d:Int):=by omega
     have f:=m.out;rw[show ownC _ _ d b=1 by unfold ownC;repeat' split;all_goals omega] at f
     clear m;replace f:Hid (h=1):=by show h=1;simpa using f
     go_enter func127,ntmps127
     go_wp2_with fail
     go_ret;exact⟨by rw[f.out];rfl,(Below.refl _ w).alloc Ze _⟩
    ·have u:¬ (0:Int)<(d:Int):=by omega
     have F:¬ (8:Int)<(d:Int):=by omega
     have f:=m.out;rw[show ownC _ _ d b=0 by unfold ownC;repeat' split;all_goals omega] at f
     clear m;have R:Hid (h=Qu (TT.fault b) l):=by show h=Qu (TT.fault b) l;simpa using f
     clear f
     have U:Hid (h=0):=by
      have D:l=[]:=Xf.1 (Q.out.trans p)
      have:=R.out
      rw[D] at this
      exact this
     subst p;clear R u F;go_enter func127,ntmps127
     go_wp2_with fail
     have B:=Bx.start w 2 r a 0 c;generalize w.alloc (.cells #[Iv 2,Iv r,.slice a 0 c] 105)=J at B |-;have s:Hid (Bx w J 2 r a 0 c):=B;clear B;go_loopw [5] (fun i wr=>i=Iv 0/\Bx w wr 2 r a 0 c) (fun _ _=>0)
     case atStart=>exact⟨Z,s.out⟩
     case round =>
      clear s;obtain⟨rfl,z⟩:=hrel
      have s:Hid (Bx w wr 2 r a 0 c):=z;have W:wr.cell? ⟨w.heap.size,2,none⟩=some (.slice a 0 c):=Qb z.box 2 _ Z;clear z;go_wp2
      go_ret;exact⟨by rw[U.out];rfl,s.out.bel⟩
   ·rcases (show 0<d\/(d=0/\r<0)\/(d=0/\0<=r/\b<=r)\/(d=0/\0<=r/\r<b) by omega) with p | ⟨p,E⟩|⟨p,E,O⟩|⟨p,E,O⟩
    ·have u:(0:Int)<(d:Int):=by omega
     have f:=m.out;rw[show ownC _ _ d b=4 by unfold ownC;repeat' split;all_goals omega] at f
     clear m;replace f:Hid (h=4):=by show h=4;simpa using f
     go_enter func127,ntmps127
     go_wp2_with fail
     go_ret;exact⟨by rw[f.out];rfl,(Below.refl _ w).alloc Ze _⟩
    ·have u:¬ (0:Int)<(d:Int):=by omega
     have F:¬ (8:Int)<(d:Int):=by omega
     have f:=m.out;rw[show ownC _ _ d b=1 by unfold ownC;repeat' split;all_goals omega] at f
     clear m;replace f:Hid (h=1):=by show h=1;simpa using f
     go_enter func127,ntmps127
     go_wp2_with fail
     go_ret;exact⟨by rw[f.out];rfl,(Below.refl _ w).alloc Ze _⟩
    ·have u:¬ (0:Int)<(d:Int):=by omega
     have F:¬ (8:Int)<(d:Int):=by omega
     have f:=m.out;rw[show ownC _ _ d b=1 by unfold ownC;repeat' split;all_goals omega] at f
     clear m;replace f:Hid (h=1):=by show h=1;simpa using f
     go_enter func127,ntmps127
     go_wp2_with fail
     go_ret;exact⟨by rw[f.out];rfl,(Below.refl _ w).alloc Ze _⟩
    ·have u:¬ (0:Int)<(d:Int):=by omega
     have F:¬ (8:Int)<(d:Int):=by omega
     have f:=m.out;rw[show ownC _ _ d b=0 by unfold ownC;repeat' split;all_goals omega] at f
     clear m;have R:Hid (h=Qu (TT.fault b) l):=by show h=Qu (TT.fault b) l;simpa using f
     clear f
     have U:Hid (h=0):=by
      have D:l=[]:=Xf.1 (Q.out.trans p)
      have:=R.out
      rw[D] at this
      exact this
     subst p;clear R u F;go_enter func127,ntmps127
     go_wp2_with fail
     have B:=Bx.start w 4 r a 0 c;generalize w.alloc (.cells #[Iv 4,Iv r,.slice a 0 c] 105)=J at B |-;have s:Hid (Bx w J 4 r a 0 c):=B;clear B;go_loopw [5] (fun i wr=>i=Iv 0/\Bx w wr 4 r a 0 c) (fun _ _=>0)
     case atStart=>exact⟨Z,s.out⟩
     case round =>
      clear s;obtain⟨rfl,z⟩:=hrel
      have s:Hid (Bx w wr 4 r a 0 c):=z;have W:wr.cell? ⟨w.heap.size,2,none⟩=some (.slice a 0 c):=Qb z.box 2 _ Z;clear z;go_wp2
      go_ret;exact⟨by rw[U.out];rfl,s.out.bel⟩
   ·rcases (show 8<d\/(d<=8/\r<0)\/(d<=8/\0<=r/\b<=r)\/(d<=8/\0<=r/\r<b) by omega) with p | ⟨p,E⟩|⟨p,E,O⟩|⟨p,E,O⟩
    ·have u:(8:Int)<(d:Int):=by omega
     have f:=m.out;rw[show ownC _ _ d b=2 by unfold ownC;repeat' split;all_goals omega] at f
     clear m;replace f:Hid (h=2):=by show h=2;simpa using f
     go_enter func127,ntmps127
     go_wp2_with fail
     go_ret;exact⟨by rw[f.out];rfl,(Below.refl _ w).alloc Ze _⟩
    ·have u:¬ (8:Int)<(d:Int):=by omega
     have f:=m.out;rw[show ownC _ _ d b=1 by unfold ownC;repeat' split;all_goals omega] at f
     clear m;replace f:Hid (h=1):=by show h=1;simpa using f
     go_enter func127,ntmps127
     go_wp2_with fail
     go_ret;exact⟨by rw[f.out];rfl,(Below.refl _ w).alloc Ze _⟩
    ·have u:¬ (8:Int)<(d:Int):=by omega
     have f:=m.out;rw[show ownC _ _ d b=1 by unfold ownC;repeat' split;all_goals omega] at f
     clear m;replace f:Hid (h=1):=by show h=1;simpa using f
     go_enter func127,ntmps127
     go_wp2_with fail
     go_ret;exact⟨by rw[f.out];rfl,(Below.refl _ w).alloc Ze _⟩
    ·have u:¬ (8:Int)<(d:Int):=by omega
     have f:=m.out;rw[show ownC _ _ d b=0 by unfold ownC;repeat' split;all_goals omega] at f
     clear m;have R:Hid (h=Qu (TT.fault b) l):=by show h=Qu (TT.fault b) l;simpa using f
     clear f;go_enter func127,ntmps127
     go_wp2_with fail
     have B:=Bx.start w 3 r a d c;generalize w.alloc (.cells #[Iv 3,Iv r,.slice a d c] 105)=J at B |-;have s:Hid (Bx w J 3 r a d c):=B;clear B;go_loopw [5] (fun i wr=>∃ q:Nat,q<=d/\i=Iv q/\(∀ (j:Nat) x,j<q->l[j]?=some x->x.fault b=0)/\Bx w wr 3 r a d c) (fun i _=>d - (intOf i).toNat)
     case atStart=>exact⟨0,Xb _,Z,fun j x hj=>by omega,s.out⟩
     case round =>
      clear s;obtain⟨q,hq,rfl,G,z⟩:=hrel
      have A:Hid (∀ (j:Nat) x,j<q->l[j]?=some x->x.fault b=0):=G;have s:Hid (Bx w wr 3 r a d c):=z;have W:wr.cell? ⟨w.heap.size,2,none⟩=some (.slice a d c):=Qb z.box 2 _ Z;clear G;by_cases ac:q<d
      ·have S:q<l.length:=by have:=Q.out;omega
       have I:l[q]?=some l[q]:=Zg S;generalize l[q]=x at I;clear S;obtain⟨g,o,a',c',rfl,_,d0,d1,d2,hk⟩:=LIn.at (hT.out.below z.bel) I
       have T:Hid (l[q]?=some x):=I;have ad:(0:Int)<=q:=by omega
       have X:(q:Int)<d:=by omega
       have C:Hid (∀ K,Below wr.heap.size wr K->Calls prog 127 #[Tv x a' c',Iv b] K fun e w'=>e=.returned (Iv (x.fault b))/\Below K.heap.size K w') :=
        fun K hb=>IH.out x a' c' b K (hk.below hb) (N.out x (Zm I))
       clear z hk I;simp only[Tv] at C
       generalize x.kind=kx at C d0;generalize x.r=rx at C d1;generalize x.len=lx at C d2;go_wp2_with fail
       refine(C.out _ Zr).mono ?_
       rintro e w2 ⟨rfl,b2⟩;have X2:Hid (Bx w w2 3 r (some ⟨g,o,none⟩) d c):=s.out.below b2;clear s b2 C d0 d1 d2 W;by_cases M:x.fault b=0
       ·have A2:Hid (∀ (j:Nat) x,j<q+1->l[j]?=some x->x.fault b=0):=fun j y hj L=>by
         by_cases e:j=q
         ·subst e;rw[T.out] at L
          cases L
          exact M
         ·exact A.out j y (by omega) L
        rw[M]
        clear M A;go_wp2
        go_roundw
        case rel=>exact⟨q+1,by omega,by go_num,A2.out,X2.out⟩
        case measure=>simp[intOf];omega
       ·have V:Hid (h=x.fault b):=R.out.trans (Qau T.out A.out M);have aa:(x.fault b != 0)=true:=by simpa using M
        generalize x.fault b=v at aa V |-;clear M A;go_wp2
        go_ret;exact⟨by rw[V.out];rfl,X2.out.bel⟩
      ·have V:Hid (h=0):=R.out.trans (Z3 (fun j y L=>A.out j y (by have:=(Zi L).1;have:=Q.out;omega) L));have X:¬ (q:Int)<d:=by omega
       clear z A;go_wp2
       go_ret;exact⟨by rw[V.out];rfl,s.out.bel⟩
theorem Qdo {α:Type}(f:α->Nat) (l:List α) (i:Nat) (x:α) (h:l[i]?=some x):((l.map f).take (i+1)).foldl max 0=max (((l.map f).take i).foldl max 0) (f x):=by
 rw[XV,XS,h]
 simp
theorem Qch (l:List Nat) (i:Nat):(l.take i).foldl max 0<=l.foldl max 0:=by
 rw[QaP]
 exact⟨Xb _,fun x a=>(QaP.1 (Nat.le_refl (l.foldl max 0))).2 x (List.mem_of_mem_take a)⟩
theorem deepOf_any:∀ (n:Nat) (t:TT n) (a:Option Addr) (c:Nat) (w:World) (m:Nat),TIn w All t a->t.count<=100000->m<=4 ->
 Calls prog 126 #[Tv t a c,Iv m] w fun e w'=>e=.returned (Iv ((min t.height (m+1):Nat):Int))/\Below w.heap.size w w':=by
 intro n
 induction n with
 | zero=>intro t;exact Empty.elim t
 | succ n ih =>
   intro t a c w m U O af
   have IH:Hid (∀ (t:TT n) (a:Option Addr) (c:Nat) (w:World) (m:Nat),TIn w All t a->t.count<=100000->m<=4 ->
    Calls prog 126 #[Tv t a c,Iv m] w fun e w'=>e=.returned (Iv ((min t.height (m+1):Nat):Int))/\Below w.heap.size w w'):=ih
   clear ih;have hT:Hid (LIn w All t.2.2 a):=U.list;have u:Hid (∀ x∈t.2.2,x.count<=100000):=fun x d=>by have:=t.count_kid d;omega
   have D:t.2.2.length<=100000:=by have:=t.len_lt_count;rw[t.len_eq] at this;omega
   have B:Hid (t.height=(t.2.2.map (fun x=>1+x.height)).foldl max 0):=rfl;generalize t.height=h at B |-;simp only[Tv,TT.len_eq]
   generalize t.2.2=l at hT u B D |-;generalize t.kind=k;generalize t.r=r;clear U O t;generalize f:((min h (m+1):Nat):Int)=b;have I:Hid (((min h (m+1):Nat):Int)=b):=f;clear f;go_enter func126,ntmps126
   go_wp2_with fail
   have M:Hid (Bx w (w.alloc (.cells #[Iv k,Iv r,.slice a l.length c] 105)) k r a l.length c):=Bx.start w k r a l.length c;generalize w.alloc (.cells #[Iv k,Iv r,.slice a l.length c] 105)=w1 at M |-;go_loopw [5,6] (fun v i wr=>∃ q y:Nat,q<=l.length/\i=Iv q/\v=Iv y/\y=min (((l.map (fun x=>1+x.height)).take q).foldl max 0) (m+1)/\Bx w wr k r a l.length c) (fun _ i _=>l.length - (intOf i).toNat)
   case atStart=>exact⟨0,0,Xb _,Yz,Yz,by simp,M.out⟩
   case round =>
    clear M;obtain⟨q,y,hq,rfl,rfl,X,j⟩:=hrel
    have Y:Hid (y=min (((l.map (fun x=>1+x.height)).take q).foldl max 0) (m+1)):=X;have A:Hid (Bx w wr k r a l.length c):=j;have e2:wr.cell? ⟨w.heap.size,2,none⟩=some (.slice a l.length c):=Qb j.box 2 _ Yz;have ae:(y:Int)<=5:=by omega
    clear X;by_cases H:q<l.length
    ·have ad:(0:Int)<=q:=by omega
     have J:(q:Int)<l.length:=by omega
     by_cases p:y<=m
     ·have d:l[q]?=some l[q]:=Zg H;generalize l[q]=x at d;obtain⟨g,o,a',c',rfl,_,T,W,S,N⟩:=LIn.at (hT.out.below j.bel) d
      have G:=Qdo (fun x:TT n=>1+x.height) l q x d;have E:(y:Int)<=m:=by omega
      by_cases R:m=0
      ·have K:((m:Int)==0)=true:=by simp;omega
       have F:Hid (b=1):=by
        have P:=Qch (l.map (fun x=>1+x.height)) (q+1);have Q:=B.out;have V:=I.out;rw[G] at P
        show b=1;omega
       clear j N d R G p;go_wp2_with fail
       go_ret;exact⟨by rw[F.out];rfl,A.out.bel⟩
      ·have K:((m:Int)==0)=false:=by simp;omega
       have C:Hid (∀ s,Below wr.heap.size wr s->Calls prog 126 #[Tv x a' c',Iv ((m:Int) - 1)] s fun e w'=>e=.returned (Iv ((min x.height m:Nat):Int))/\Below s.heap.size s w'):=fun s hb=>by
        have:=IH.out x a' c' s (m - 1) (N.below hb) (u.out x (Zm d)) (by omega)
        rw[show ((m - 1:Nat):Int)=(m:Int) - 1 by omega,show m - 1+1=m by omega] at this
        exact this
       have ac:(1:Int)<=m:=by omega
       have ab:(m:Int)<=4:=by omega
       generalize L:min x.height m=z at C;have aa:(z:Int)<=4:=by omega
       have Z:Hid (max y (1+z)=min (((l.map (fun x=>1+x.height)).take (q+1)).foldl max 0) (m+1)):=by
        rw[G]
        have:=Y.out
        show _=_;omega
       clear j N d R G L Y p;simp only[Tv] at C
       generalize x.kind=kx at C T;generalize x.r=rx at C W;generalize x.len=lx at C S;go_wp2_with fail
       refine(C.out _ Zr).mono ?_
       rintro e w2 ⟨rfl,b2⟩;have X2:Hid (Bx w w2 k r (some ⟨g,o,none⟩) l.length c):=A.out.below b2;clear A b2 C T W S e2;by_cases hd:(y:Int)<1+z
       ·go_wp2
        go_roundw
        case rel=>exact⟨q+1,1+z,by omega,by go_num,by go_num,by rw[<-Z.out];omega,X2.out⟩
        case measure=>simp[intOf];omega
       ·go_wp2
        go_roundw
        case rel=>exact⟨q+1,y,by omega,by go_num,Yz,by rw[<-Z.out];omega,X2.out⟩
        case measure=>simp[intOf];omega
     ·have F:Hid (b=y):=by
       have P:=Qch (l.map (fun x=>1+x.height)) q;have Q:=B.out;have V:=I.out
       have:=Y.out
       show b=y;omega
      have E:¬ (y:Int)<=m:=by omega
      clear j p Y;go_wp2
      go_ret;exact⟨by rw[F.out];rfl,A.out.bel⟩
    ·have F:Hid (b=y):=by
      have Q:=B.out;have V:=I.out
      have:=Y.out
      rw[XO (by simp;omega)] at this
      show b=y;omega
     have J:¬ (q:Int)<l.length:=by omega
     clear j Y;go_wp2
     go_ret;exact⟨by rw[F.out];rfl,A.out.bel⟩
def Qh3 (f:Nat):Prop:=∀ (n:Nat) (t:TT n) (a:Option Addr) (c:Nat) (regs:Int) (w:World),TIn w All t a->t.count<=100000 ->
 Calls prog f #[Tv t a c,Iv regs] w fun e w'=>e=.returned (Iv (t.check regs))/\Below w.heap.size w w'
theorem typeFaultT_any:Qh3 78:=by
 intro n t a c b w p s
 have g:Hid (∀ d,Below w.heap.size w d->Calls prog 126 #[Tv t a c,Iv 4] d fun e u=>e=.returned (Iv ((min t.height 5:Nat):Int))/\Below d.heap.size d u) :=
  fun d o=>deepOf_any n t a c d 4 (p.below o) s (by omega)
 have i:Hid (∀ d,Below w.heap.size w d->Calls prog 127 #[Tv t a c,Iv b] d fun e u=>e=.returned (Iv (t.fault b))/\Below d.heap.size d u) :=
  fun d o=>typeFault_any n t a c b d (p.below o) s
 have E:Hid (t.check b=if 4<t.height then 19 else t.fault b):=rfl;generalize t.check b=j at E |-;clear p s;simp only[Tv] at g i |-
 generalize t.kind=k at g i |-;generalize t.r=r at g i |-;generalize t.len=f at g i |-;generalize t.fault b=v at i E;generalize x:min t.height 5=q at g;go_enter func78,ntmps78
 go_wp2_with fail
 have l:=Bx.start w k r a f c;generalize w.alloc (.cells #[Iv k,Iv r,.slice a f c] 105)=I at l |-;refine(g.out _ l.bel).mono ?_
 rintro e B ⟨rfl,z⟩;have h:Hid (Bx w B k r a f c):=l.below z;have F:=Qb h.out.box 0 _ Z;have D:=Qb h.out.box 1 _ Z;have C:=Qb h.out.box 2 _ Z;clear l z g;by_cases m:4<t.height
 ·have R:Hid (j=19):=by have:=E.out;rwa [Xs m] at this
  have A:(4:Int)<q:=by omega
  clear m x;go_wp2_with fail
  go_ret;exact⟨by rw[R.out];rfl,h.out.bel⟩
 ·have R:Hid (j=v):=by have:=E.out;rwa [Xr m] at this
  have A:¬ (4:Int)<q:=by omega
  clear m x;go_wp2_with fail
  refine(i.out _ h.out.bel).mono ?_
  rintro e G ⟨rfl,y⟩;have H:Hid (Bx w G k r a f c):=h.out.below y;clear h y i F D C;go_wp2_with fail
  go_ret;exact⟨by rw[R.out];rfl,H.out.bel⟩
theorem QfD (k r:Int) (a:Option Addr) (len c:Nat) (regs:Int) (w:World) :
 Calls prog 282 #[.agg #[Iv k,Iv r,.slice a len c],Iv regs] w fun e w'=>e=.returned (Iv (ownC k r len regs))/\Below w.heap.size w w':=by
 rcases (show k<1\/(¬ k<1/\4<k)\/k=1\/k=2\/k=4\/k=3 by omega) with b | ⟨b,f⟩ | rfl | rfl | rfl | rfl
 ·rw[show ownC _ _ len regs=3 by unfold ownC;repeat' split;all_goals omega]
  go_enter func282,ntmps282
  go_wp2_with fail
  go_ret;exact⟨Z,(Below.refl _ w).alloc Ze _⟩
 ·rw[show ownC _ _ len regs=3 by unfold ownC;repeat' split;all_goals omega]
  go_enter func282,ntmps282
  go_wp2_with fail
  go_ret;exact⟨Z,(Below.refl _ w).alloc Ze _⟩
 ·rcases (show r≠0\/(r=0/\0<len)\/(r=0/\len=0) by omega) with b | ⟨rfl,b⟩|⟨rfl,b⟩
  ·have d:(r != 0)=true:=by simpa using b
   rw[show ownC _ _ len regs=4 by unfold ownC;repeat' split;all_goals omega]
   go_enter func282,ntmps282
   go_wp2_with fail
   go_ret;exact⟨Z,(Below.refl _ w).alloc Ze _⟩
  ·have d:(0:Int)<(len:Int):=by omega
   rw[show ownC _ _ len regs=4 by unfold ownC;repeat' split;all_goals omega]
   go_enter func282,ntmps282
   go_wp2_with fail
   go_ret;exact⟨Z,(Below.refl _ w).alloc Ze _⟩
  ·have d:¬ (0:Int)<(len:Int):=by omega
   have g:¬ (8:Int)<(len:Int):=by omega
   rw[show ownC _ _ len regs=0 by unfold ownC;repeat' split;all_goals omega]
   go_enter func282,ntmps282
   go_wp2_with fail
   go_ret;exact⟨Z,(Below.refl _ w).alloc Ze _⟩
 ·rcases (show 0<len\/(len=0/\r<0)\/(len=0/\0<=r/\regs<=r)\/(len=0/\0<=r/\r<regs) by omega) with b | ⟨b,f⟩|⟨b,f,h⟩|⟨b,f,h⟩
  ·have d:(0:Int)<(len:Int):=by omega
   rw[show ownC _ _ len regs=4 by unfold ownC;repeat' split;all_goals omega]
   go_enter func282,ntmps282
   go_wp2_with fail
   go_ret;exact⟨Z,(Below.refl _ w).alloc Ze _⟩
  ·have d:¬ (0:Int)<(len:Int):=by omega
   have g:¬ (8:Int)<(len:Int):=by omega
   rw[show ownC _ _ len regs=1 by unfold ownC;repeat' split;all_goals omega]
   go_enter func282,ntmps282
   go_wp2_with fail
   go_ret;exact⟨Z,(Below.refl _ w).alloc Ze _⟩
  ·have d:¬ (0:Int)<(len:Int):=by omega
   have g:¬ (8:Int)<(len:Int):=by omega
   rw[show ownC _ _ len regs=1 by unfold ownC;repeat' split;all_goals omega]
   go_enter func282,ntmps282
   go_wp2_with fail
   go_ret;exact⟨Z,(Below.refl _ w).alloc Ze _⟩
  ·have d:¬ (0:Int)<(len:Int):=by omega
   have g:¬ (8:Int)<(len:Int):=by omega
   rw[show ownC _ _ len regs=0 by unfold ownC;repeat' split;all_goals omega]
   go_enter func282,ntmps282
   go_wp2_with fail
   go_ret;exact⟨Z,(Below.refl _ w).alloc Ze _⟩
 ·rcases (show 0<len\/(len=0/\r<0)\/(len=0/\0<=r/\regs<=r)\/(len=0/\0<=r/\r<regs) by omega) with b | ⟨b,f⟩|⟨b,f,h⟩|⟨b,f,h⟩
  ·have d:(0:Int)<(len:Int):=by omega
   rw[show ownC _ _ len regs=4 by unfold ownC;repeat' split;all_goals omega]
   go_enter func282,ntmps282
   go_wp2_with fail
   go_ret;exact⟨Z,(Below.refl _ w).alloc Ze _⟩
  ·have d:¬ (0:Int)<(len:Int):=by omega
   have g:¬ (8:Int)<(len:Int):=by omega
   rw[show ownC _ _ len regs=1 by unfold ownC;repeat' split;all_goals omega]
   go_enter func282,ntmps282
   go_wp2_with fail
   go_ret;exact⟨Z,(Below.refl _ w).alloc Ze _⟩
  ·have d:¬ (0:Int)<(len:Int):=by omega
   have g:¬ (8:Int)<(len:Int):=by omega
   rw[show ownC _ _ len regs=1 by unfold ownC;repeat' split;all_goals omega]
   go_enter func282,ntmps282
   go_wp2_with fail
   go_ret;exact⟨Z,(Below.refl _ w).alloc Ze _⟩
  ·have d:¬ (0:Int)<(len:Int):=by omega
   have g:¬ (8:Int)<(len:Int):=by omega
   rw[show ownC _ _ len regs=0 by unfold ownC;repeat' split;all_goals omega]
   go_enter func282,ntmps282
   go_wp2_with fail
   go_ret;exact⟨Z,(Below.refl _ w).alloc Ze _⟩
 ·rcases (show 8<len\/(len<=8/\r<0)\/(len<=8/\0<=r/\regs<=r)\/(len<=8/\0<=r/\r<regs) by omega) with b | ⟨b,f⟩|⟨b,f,h⟩|⟨b,f,h⟩
  ·have d:(8:Int)<(len:Int):=by omega
   rw[show ownC _ _ len regs=2 by unfold ownC;repeat' split;all_goals omega]
   go_enter func282,ntmps282
   go_wp2_with fail
   go_ret;exact⟨Z,(Below.refl _ w).alloc Ze _⟩
  ·have d:¬ (8:Int)<(len:Int):=by omega
   rw[show ownC _ _ len regs=1 by unfold ownC;repeat' split;all_goals omega]
   go_enter func282,ntmps282
   go_wp2_with fail
   go_ret;exact⟨Z,(Below.refl _ w).alloc Ze _⟩
  ·have d:¬ (8:Int)<(len:Int):=by omega
   rw[show ownC _ _ len regs=1 by unfold ownC;repeat' split;all_goals omega]
   go_enter func282,ntmps282
   go_wp2_with fail
   go_ret;exact⟨Z,(Below.refl _ w).alloc Ze _⟩
  ·have d:¬ (8:Int)<(len:Int):=by omega
   rw[show ownC _ _ len regs=0 by unfold ownC;repeat' split;all_goals omega]
   go_enter func282,ntmps282
   go_wp2_with fail
   go_ret;exact⟨Z,(Below.refl _ w).alloc Ze _⟩
theorem firstCode_any:∀ n,Qd4 258 n:=by
 intro n
 induction n with
 | zero=>intro t;exact Empty.elim t
 | succ n ih =>
   intro t a c b w T O;have IH:Hid (Qd4 258 n):=ih;clear ih;have hT:Hid (LIn w All t.2.2 a):=T.list;have D:Hid (∀ x∈t.2.2,x.count<=100000):=fun x p=>by have:=t.count_kid p;omega
   have E:t.2.2.length<=100000:=by have:=t.len_lt_count;rw[t.len_eq] at this;omega
   have h:Hid (t.fault b=if ownC t.kind t.r t.2.2.length b≠0 then ownC t.kind t.r t.2.2.length b else Qu (TT.fault b) t.2.2):=rfl;generalize t.fault b=d at h |-;simp only[Tv,TT.len_eq]
   generalize t.2.2=l at hT D h E |-;generalize t.kind=k at h |-;generalize t.r=r at h |-;clear T O t;go_enter func258,ntmps258
   go_wp2_with fail
   have X:Hid (Bx w (w.alloc (.cells #[Iv k,Iv r,.slice a l.length c] 105)) k r a l.length c):=Bx.start w k r a l.length c;refine(QfD k r a l.length c b _).mono ?_
   rintro e w1 ⟨rfl,V⟩;have f:Hid (Bx w w1 k r a l.length c):=X.out.below V;clear X V;by_cases s:ownC k r l.length b=0
   ·have R:Hid (d=Qu (TT.fault b) l):=by
     have:=h.out
     rw[s] at this
     show d=Qu (TT.fault b) l;simpa using this
    rw[s]
    clear s h;have e2:w1.cell? ⟨w.heap.size,2,none⟩=some (.slice a l.length c):=Qb f.out.box 2 _ Z;go_wp2_with fail
    clear e2;go_loopw [18] (fun i wr=>∃ q:Nat,q<=l.length/\i=Iv q/\(∀ (j:Nat) x,j<q->l[j]?=some x->x.fault b=0)/\Bx w wr k r a l.length c) (fun i _=>l.length - (intOf i).toNat)
    case atStart=>exact⟨0,Xb _,Z,fun j x hj=>by omega,f.out⟩
    case round =>
     clear f;obtain⟨q,hq,rfl,m,H⟩:=hrel
     have A:Hid (∀ (j:Nat) x,j<q->l[j]?=some x->x.fault b=0):=m;have f:Hid (Bx w wr k r a l.length c):=H;clear m;by_cases I:q<l.length
     ·have p:l[q]?=some l[q]:=Zg I;generalize l[q]=x at p;obtain⟨g,o,M,P,rfl,_,S,U,Q,hk⟩:=LIn.at (hT.out.below H.bel) p
      have F:Hid (l[q]?=some x):=p;have aa:(0:Int)<=q:=by omega
      have J:(q:Int)<l.length:=by omega
      have C:Hid (∀ u,Below wr.heap.size wr u->Calls prog 258 #[Tv x M P,Iv b] u fun e w'=>e=.returned (Iv (x.fault b))/\Below u.heap.size u w') :=
       fun u hb=>IH.out x M P b u (hk.below hb) (D.out x (Zm p))
      clear H hk p;simp only[Tv] at C
      generalize x.kind=kx at C S;generalize x.r=rx at C U;generalize x.len=lx at C Q;go_wp2_with fail
      have L:Below wr.heap.size wr (wr.alloc (.cells #[Iv kx,Iv rx,.slice M lx P] 105)):=(Below.refl _ wr).alloc Ze _;refine(C.out _ L).mono ?_
      rintro e w2 ⟨rfl,b2⟩;have W:Hid (Bx w w2 k r (some ⟨g,o,none⟩) l.length c):=(f.out.below L).below b2;clear f b2 L C S U Q;by_cases B:x.fault b=0
      ·have A2:Hid (∀ (j:Nat) x,j<q+1->l[j]?=some x->x.fault b=0):=fun j y hj z=>by
        by_cases e:j=q
        ·subst e;rw[F.out] at z
         cases z
         exact B
        ·exact A.out j y (by omega) z
       rw[B]
       clear B A;go_wp2
       go_roundw
       case rel=>exact⟨q+1,by omega,by go_num,A2.out,W.out⟩
       case measure=>simp[intOf];omega
      ·have G:Hid (d=x.fault b):=R.out.trans (Qau F.out A.out B);have N:(x.fault b != 0)=true:=by simpa using B
       generalize x.fault b=v at N G |-;clear B A;go_wp2
       go_ret;exact⟨by rw[G.out];rfl,W.out.bel⟩
     ·have G:Hid (d=0):=R.out.trans (Z3 (fun j y z=>A.out j y (by have:=(Zi z).1;omega) z));have J:¬ (q:Int)<l.length:=by omega
      clear H A;go_wp2
      go_ret;exact⟨by rw[G.out];rfl,f.out.bel⟩
   ·have R:Hid (d=ownC k r l.length b):=by
     have:=h.out
     rwa [Xs s] at this
    have K:(ownC k r l.length b != 0)=true:=by simpa using s
    generalize ownC k r l.length b=v at K R |-;clear s h;go_wp2_with fail
    go_ret;exact⟨by rw[R.out];rfl,f.out.bel⟩
theorem Qi1 {l:List (TT n)}{k r:Int}:m<TT.height (n:=n+1) (mkT k r l)↔∃ (i:Nat) (x:TT n),l[i]?=some x/\m<1+x.height:=by
 rw[<-Nat.not_le,Q9]
 constructor
 ·intro h;simp only[Classical.not_forall] at h
  obtain⟨x,a,c⟩:=h
  obtain⟨i,b,rfl⟩:=List.mem_iff_getElem.1 a
  exact⟨i,_,Zg b,by omega⟩
 ·rintro ⟨i,x,a,c⟩ h
  have:=h x (Zm (l:=l) a)
  omega
theorem deeper_any:∀ (n:Nat) (t:TT n) (a:Option Addr) (c:Nat) (w:World) (m:Nat),TIn w All t a->t.count<=100000->m<=4 ->
 Calls prog 257 #[Tv t a c,Iv m] w fun e w'=>e=.returned (.bool (decide (m<t.height)))/\Below w.heap.size w w':=by
 intro n
 induction n with
 | zero=>intro t;exact Empty.elim t
 | succ n ih =>
   intro t a c w m T P ad
   have IH:Hid (∀ (t:TT n) (a:Option Addr) (c:Nat) (w:World) (m:Nat),TIn w All t a->t.count<=100000->m<=4 ->
    Calls prog 257 #[Tv t a c,Iv m] w fun e w'=>e=.returned (.bool (decide (m<t.height)))/\Below w.heap.size w w'):=ih
   clear ih;have X:Hid (LIn w All t.2.2 a):=T.list;have s:Hid (∀ x∈t.2.2,x.count<=100000):=fun x b=>by have:=t.count_kid b;omega
   have B:t.2.2.length<=100000:=by have:=t.len_lt_count;rw[t.len_eq] at this;omega
   have u:Hid (m<t.height↔∃ (i:Nat) (x:TT n),t.2.2[i]?=some x/\m<1+x.height):=Qi1;generalize t.height=h at u |-;simp only[Tv,TT.len_eq]
   generalize t.2.2=l at X s u B |-;generalize t.kind=k;generalize t.r=r;clear T P t;go_enter func257,ntmps257
   go_wp2_with fail
   have M:Hid (Bx w (w.alloc (.cells #[Iv k,Iv r,.slice a l.length c] 105)) k r a l.length c):=Bx.start w k r a l.length c;generalize w.alloc (.cells #[Iv k,Iv r,.slice a l.length c] 105)=w1 at M |-;go_loopw [10] (fun i wr=>∃ q:Nat,q<=l.length/\i=Iv q/\(∀ (j:Nat) x,j<q->l[j]?=some x->1+x.height<=m)/\Bx w wr k r a l.length c) (fun i _=>l.length - (intOf i).toNat)
   case atStart=>exact⟨0,Xb _,Z,fun j x hj=>by omega,M.out⟩
   case round =>
    clear M;obtain⟨q,hq,rfl,d,v⟩:=hrel
    have A:Hid (∀ (j:Nat) x,j<q->l[j]?=some x->1+x.height<=m):=d;have E:Hid (Bx w wr k r a l.length c):=v;clear d;by_cases G:q<l.length
    ·have b:l[q]?=some l[q]:=Zg G;generalize l[q]=x at b;obtain⟨g,o,N,Q,rfl,_,I,U,S,O⟩:=LIn.at (X.out.below v.bel) b
     have hg:g<wr.heap.size:=Xi wr ⟨g,o+q*3,none⟩ I;have D:Hid (l[q]?=some x):=b;have ac:(0:Int)<=q:=by omega
     have H:(q:Int)<l.length:=by omega
     by_cases R:m=0
     ·have p:Hid (m<h):=u.out.2 ⟨q,x,b,by omega⟩;have J:((m:Int)==0)=true:=by simp;omega
      clear v O b R;go_wp2_with fail
      go_ret;exact⟨by rw[Xt p.out];rfl,(E.out.alloc _).bel⟩
     ·have J:((m:Int)==0)=false:=by simp;omega
      have C:Hid (∀ f,Below wr.heap.size wr f->Calls prog 257 #[Tv x N Q,Iv ((m:Int) - 1)] f fun e w'=>e=.returned (.bool (decide (m - 1<x.height)))/\Below f.heap.size f w'):=fun f hb=>by
       have:=IH.out x N Q f (m - 1) (O.below hb) (s.out x (Zm b)) (by omega)
       rw[show ((m - 1:Nat):Int)=(m:Int) - 1 by omega] at this
       exact this
      have ab:(1:Int)<=m:=by omega
      have aa:(m:Int)<=4:=by omega
      have z:Hid (1<=m):=by show 1<=m;omega
      clear v O b R;simp only[Tv] at C
      generalize x.kind=kx at C I;generalize x.r=rx at C U;generalize x.len=lx at C S;go_wp2_with fail
      have L:Below wr.heap.size wr (wr.alloc (.cells #[Iv kx,Iv rx,.slice N lx Q] 105)):=(Below.refl _ wr).alloc Ze _;refine(C.out _ L).mono ?_
      rintro e w2 ⟨rfl,W⟩;have V:Hid (Bx w w2 k r (some ⟨g,o,none⟩) l.length c):=(E.out.below L).below W;clear E W L C I U S;by_cases F:m - 1<x.height
      ·have p:Hid (m<h):=u.out.2 ⟨q,x,D.out,by have:=z.out;omega⟩;rw[Xt F]
       clear F;go_wp2
       go_ret;exact⟨by rw[Xt p.out];rfl,V.out.bel⟩
      ·have A2:Hid (∀ (j:Nat) x,j<q+1->l[j]?=some x->1+x.height<=m):=fun j y hj K=>by
        by_cases e:j=q
        ·subst e;rw[D.out] at K
         cases K
         have:=z.out
         omega
        ·exact A.out j y (by omega) K
       rw[Xu F]
       clear F A;go_wp2
       go_roundw
       case rel=>exact⟨q+1,by omega,by go_num,A2.out,V.out⟩
       case measure=>simp[intOf];omega
    ·have p:Hid (¬ m<h):=fun hc=>by
      obtain⟨i,x,b,h3⟩:=u.out.1 hc
      have:=A.out i x (by have:=(Zi b).1;omega) b
      omega
     have H:¬ (q:Int)<l.length:=by omega
     clear v A;go_wp2
     go_ret;exact⟨by rw[Xu p.out];rfl,E.out.bel⟩
theorem check_any:Qh3 223:=by
 intro n t a c b w p q
 have i:Hid (∀ d,Below w.heap.size w d->Calls prog 257 #[Tv t a c,Iv 4] d fun e s=>e=.returned (.bool (decide (4<t.height)))/\Below d.heap.size d s) :=
  fun d o=>deeper_any n t a c d 4 (p.below o) q (by omega)
 have h:Hid (∀ d,Below w.heap.size w d->Calls prog 258 #[Tv t a c,Iv b] d fun e s=>e=.returned (Iv (t.fault b))/\Below d.heap.size d s) :=
  fun d o=>firstCode_any n t a c b d (p.below o) q
 have E:Hid (t.check b=if 4<t.height then 19 else t.fault b):=rfl;generalize t.check b=l at E |-;clear p q;simp only[Tv] at i h |-
 generalize t.kind=k at i h |-;generalize t.r=r at i h |-;generalize t.len=f at i h |-;generalize t.fault b=v at h E;go_enter func223,ntmps223
 go_wp2_with fail
 have m:=Bx.start w k r a f c;generalize w.alloc (.cells #[Iv k,Iv r,.slice a f c] 105)=F at m |-;refine(i.out _ m.bel).mono ?_
 rintro e y ⟨rfl,x⟩;have g:Hid (Bx w y k r a f c):=m.below x;have B:=Qb g.out.box 0 _ Z;have A:=Qb g.out.box 1 _ Z;have z:=Qb g.out.box 2 _ Z;clear m x i;by_cases j:4<t.height
 ·rw[Xt j]
  have R:Hid (l=19):=by have:=E.out;rwa [Xs j] at this
  clear j;go_wp2_with fail
  go_ret;exact⟨by rw[R.out];rfl,g.out.bel⟩
 ·rw[Xu j]
  have R:Hid (l=v):=by have:=E.out;rwa [Xr j] at this
  clear j;go_wp2_with fail
  refine(h.out _ g.out.bel).mono ?_
  rintro e C ⟨rfl,u⟩;have D:Hid (Bx w C k r a f c):=g.out.below u;clear g u h B A z;go_wp2_with fail
  go_ret;exact⟨by rw[R.out];rfl,D.out.bel⟩
abbrev QG (p:Int × Int):Value:=.agg #[Iv p.1,Iv p.2]
def atF (c p:Int):Int × Int:=if c=0 then (0,0) else (c,p)
theorem Qe3 {α:Type}{f:Nat->α->Int × Int}:∀ {l:List α}{j:Nat},firstF (fun i x=>atF (f i x).1 (f i x).2) j l=firstF f j l
 | [],_=>rfl
 | x::xs,j=>by
   simp only[firstF,atF]
   by_cases h:(f j x).1=0
   ·simp only[h,if_true,ne_eq,not_true_eq_false,if_false]
    exact Qe3
   ·simp[h]
def MFunc.code {n:Nat}(f:Nat) (x:MFunc n):Int :=
 if x.regs<0\/6<x.regs then 1 else if listC x.regs x.params≠0 then listC x.regs x.params else if listC x.regs x.results≠0 then listC x.regs x.results
 else if x.blocks.length<1\/12<x.blocks.length then 2 else if f=0/\¬ (x.regs=0/\x.params.length=0/\x.results.all (fun t=>t.kind==1)=true) then 18 else 0
theorem MFunc.fault_eq (a f:Nat) (x:MFunc n):MFunc.fault a f x=if x.code f=0 then firstF (fun b y=>MBlock.fault a f x b y) 0 x.blocks else (x.code f,10000*(f:Int)+9999):=by
 unfold MFunc.fault MFunc.code;generalize listC x.regs x.params=c;generalize listC x.regs x.results=d;generalize firstF (fun b y=>MBlock.fault a f x b y) 0 x.blocks=e;repeat' split
 all_goals first | rfl | (exfalso;omega) | contradiction
def MBlock.code' {n:Nat}(fn:MFunc n) (b:Nat) (x:MBlock n):Int :=
 if x.regs<fn.regs\/16<x.regs then 1 else if listC x.regs x.params≠0 then listC x.regs x.params
 else if b=0/\(x.regs≠fn.regs\/Qde x.params fn.params=false) then 9 else if 40<x.code.length then 2 else 0
theorem MBlock.fault_eq (a f:Nat) (fn:MFunc n) (b:Nat) (x:MBlock n):MBlock.fault a f fn b x =
 if x.code' fn b=0 then (if (firstF (fun i y=>(Qs.form a y,(10000*f+100*b+i:Int))) 0 x.code).1=0 then atF (x.fin.form fn.blocks.length) (10000*(f:Int)+100*(b:Int)+91)
  else firstF (fun i y=>(Qs.form a y,(10000*f+100*b+i:Int))) 0 x.code) else (x.code' fn b,10000*(f:Int)+100*(b:Int)+90):=by
 unfold MBlock.fault MBlock.code' atF;generalize firstF (fun i y=>(Qs.form a y,(10000*f+100*b+i:Int))) 0 x.code=e;generalize x.fin.form fn.blocks.length=d;generalize listC x.regs x.params=c;repeat' split
 all_goals first | rfl | (exfalso;omega) | contradiction
def idxK {n:Nat}:Nat->List (TT n)->Int
 | _,[]=>-1
 | i,t::ts=>if t.kind=1 then idxK (i+1) ts else (i:Int)
theorem Qjl {l:List (TT n)}{x:TT n}(h:l[q]?=some x):idxK q (l.drop q)=if x.kind=1 then idxK (q+1) (l.drop (q+1)) else (q:Int):=by
 obtain⟨a,rfl⟩:=Zi h
 rw[List.drop_eq_getElem_cons a]
 rfl
theorem Qgu {n:Nat}:∀ (l:List (TT n)) (j:Nat),(0<=idxK j l)↔¬ l.all (fun t=>t.kind==1)=true
 | [],j=>by simp[idxK]
 | y::ys,j=>by
   by_cases h:y.kind=1
   ·simp only[idxK,h,if_true,List.all_cons,beq_self_eq_true,Bool.true_and]
    exact Qgu ys (j+1)
   ·simp[idxK,h]
theorem Qfh {t:TT n}{regs:Int}(b:TIn w All t a) (d:t.count<=100000):Rd prog 78 #[Tv t a c,Iv regs] w (Iv (t.check regs)):=typeFaultT_any n t a c regs w b d
theorem QjS {t:TT n}{regs:Int}(b:TIn w All t a) (d:t.count<=100000):Rd prog 223 #[Tv t a c,Iv regs] w (Iv (t.check regs)):=check_any n t a c regs w b d
theorem QcW {α:Type}{f:α->Int}{l:List α}{x:α}(h:l[q]?=some x):Qu f (l.drop q)=if f x≠0 then f x else Qu f (l.drop (q+1)):=by
 obtain⟨a,rfl⟩:=Zi h
 rw[List.drop_eq_getElem_cons a]
 rfl
theorem Qlb {l:List (TT n)}{regs:Int}(a:(Qo n).In w All l [.slice p l.length c]) (b:Qc0 l) :
 Rd prog 51 #[.slice p l.length c,Iv regs] w (Iv (listC regs l)):=by
 have I:=Qf (QV a).1;have J:=Qf b.2;by_cases s:8<l.length
 ·have E:Hid (listC regs l=2):=Xs s;have d:decide ((l.length:Int)>8)=true:=Xt (by omega);clear s b a;go_enter func51,ntmps51
  go_wp2
  go_ret;exact⟨by rw[E.out];rfl,Zr⟩
 have E:Hid (listC regs l=Qu (TT.check regs) (l.drop 0)):=Xr s;have d:decide ((l.length:Int)>8)=false:=Xu (by omega);have s:l.length<=8:=by omega
 generalize listC regs l=V at E |-;clear b a;go_enter func51,ntmps51
 go_wp2
 go_loopw [5] (fun i wr=>∃ q:Nat,q<=l.length/\i=Iv q/\Hid (V=Qu (TT.check regs) (l.drop q))/\Hid (Below w.heap.size w wr)) (fun i _=>l.length - (intOf i).toNat)
 case atStart=>exact⟨0,Xb _,Z,E,Zr⟩
 case round =>
  obtain⟨q,N,rfl,e,k⟩:=hrel
  clear E;by_cases h:q<l.length
  ·have j:l[q]?=some l[q]:=Zg h;have z:=Qf (J.out _ (List.getElem_mem h));generalize l[q]=t at j z;obtain⟨g,o,G,H,rfl,-,K,D,B,In⟩:=LIn.at (TIn.below I.out k.out) j
   have M:(q:Int)<l.length:=by omega
   have f:=Qf (e.out.trans (QcW j));have C:Hid (∀ u,Below wr.heap.size wr u->Rd prog 78 #[.agg #[Iv t.kind,Iv t.r,.slice G t.len H],Iv regs] u (Iv (t.check regs))):=fun u L=>Qfh (In.below L) z.out;clear j e In;generalize t.check regs=v at f C;have C:=Qf (C.out wr Zr);go_wp2_with fail
   refine C.out.mono ?_;rintro O F ⟨rfl,A⟩;have y:Hid (Below w.heap.size w F):=k.out.trans (A.mono k.out.size);clear A C K D B;by_cases m:v=0
   ·subst m;have f:=Qf (f.out.trans (Xr (by simp)));go_wp2
    go_roundw
    case rel=>exact⟨q+1,by omega,by go_num,f,y⟩
    case measure=>simp[intOf];omega
   ·have f:=Qf (f.out.trans (Xs m));have P:(v != 0)=true:=bne_iff_ne.2 m;clear m;go_wp2
    go_ret;exact⟨by rw[f.out];rfl,y.out⟩
  ·have x:q=l.length:=by omega
   subst x;go_wp2
   go_ret;exact⟨by rw[e.out,List.drop_length];rfl,k.out⟩
theorem QaE {l:List (TT n)}{regs:Int}(a:(Qo n).In w All l [.slice p l.length c]) (b:Qc0 l) :
 Rd prog 178 #[.slice p l.length c,Iv regs] w (Iv (listC regs l)):=by
 have I:=Qf (QV a).1;have J:=Qf b.2;by_cases s:8<l.length
 ·have E:Hid (listC regs l=2):=Xs s;have d:decide ((l.length:Int)>8)=true:=Xt (by omega);clear s b a;go_enter func178,ntmps178
  go_wp2
  go_ret;exact⟨by rw[E.out];rfl,Zr⟩
 have E:Hid (listC regs l=Qu (TT.check regs) (l.drop 0)):=Xr s;have d:decide ((l.length:Int)>8)=false:=Xu (by omega);have s:l.length<=8:=by omega
 generalize listC regs l=V at E |-;clear b a;go_enter func178,ntmps178
 go_wp2
 go_loopw [13] (fun i wr=>∃ q:Nat,q<=l.length/\i=Iv q/\Hid (V=Qu (TT.check regs) (l.drop q))/\Hid (Below w.heap.size w wr)) (fun i _=>l.length - (intOf i).toNat)
 case atStart=>exact⟨0,Xb _,Z,E,Zr⟩
 case round =>
  obtain⟨q,N,rfl,e,k⟩:=hrel
  clear E;by_cases h:q<l.length
  ·have j:l[q]?=some l[q]:=Zg h;have B:=Qf (J.out _ (List.getElem_mem h));generalize l[q]=t at j B;obtain⟨g,o,z,A,rfl,-,K,G,F,In⟩:=LIn.at (TIn.below I.out k.out) j
   have M:(q:Int)<l.length:=by omega
   have f:=Qf (e.out.trans (QcW j));have C:Hid (∀ u,Below wr.heap.size wr u->Rd prog 223 #[.agg #[Iv t.kind,Iv t.r,.slice z t.len A],Iv regs] u (Iv (t.check regs))):=fun u L=>QjS (In.below L) B.out;clear j e In;generalize t.check regs=v at f C;have C:=Qf (C.out _ (Zd wr (.cells #[Iv t.kind,Iv t.r,.slice z t.len A] 105)));go_wp2_with fail
   refine C.out.mono ?_;rintro O H ⟨rfl,D⟩;have y:Hid (Below w.heap.size w H):=k.out.trans (((Zd wr _).trans (D.mono (Zd wr _).size)).mono k.out.size);clear D C K G F;by_cases m:v=0
   ·subst m;have f:=Qf (f.out.trans (Xr (by simp)));go_wp2
    go_roundw
    case rel=>exact⟨q+1,by omega,by go_num,f,y⟩
    case measure=>simp[intOf];omega
   ·have f:=Qf (f.out.trans (Xs m));have P:(v != 0)=true:=bne_iff_ne.2 m;clear m;go_wp2
    go_ret;exact⟨by rw[f.out];rfl,y.out⟩
  ·have x:q=l.length:=by omega
   subst x;go_wp2
   go_ret;exact⟨by rw[e.out,List.drop_length];rfl,k.out⟩
theorem Qbm {b:Int}:Rd prog 117 #[Iv xc,Iv b] w (QG (atF xc b)):=by
 have f:=Qf ((Bxs.start w).new #[Iv 0,Iv 0] 32);go_enter func117,ntmps117
 go_upto_region 1 with fail
 generalize w.alloc (.cells #[Iv 0,Iv 0] 32)=j at f |-;generalize w.heap.size=R at f |-;have k:=f.out.cell (a:=[]) 0 _ Z;have l:=f.out.cell (a:=[]) 1 _ Z;have m:=f.out.free (a:=[]) 0;have i:=f.out.free (a:=[]) 1;have g:Hid (∀ c p:Int,_):=fun c p=>(f.out.set (a:=[]) 0 (Iv c)).set (a:=[]) 1 (Iv p);by_cases h:xc=0
 ·subst h;go_wp2
  exact Xy (v:=QG (atF 0 b)) (by simp[results,results117,go_sem,(g.out 0 0).cell (a:=[]) 0 _ Z,(g.out 0 0).cell (a:=[]) 1 _ Z,atF,QG]) Z ⟨Z,(g.out 0 0).bel⟩
 ·have d:(xc==0)=false:=by simpa using h
  have e:=Qf h;clear h;go_wp2
  exact Xy (v:=QG (atF xc b)) (by simp[results,results117,go_sem,(g.out xc b).cell (a:=[]) 0 _ Z,(g.out xc b).cell (a:=[]) 1 _ Z,atF,QG,e.out]) Z ⟨Z,(g.out xc b).bel⟩
theorem Qg0 {l:List (TT n)}(d:(Qo n).In w All l [.slice p l.length c]) (v:l.length<=100000) :
 Rd prog 259 #[.slice p l.length c,.func (.func 225) #[] #[]] w (Iv (idxK 0 l)):=by
 have x:=Qf (QV d).1;have E:Hid (idxK 0 l=idxK 0 (l.drop 0)):=rfl;have B:∀ (args:Array Value) (w:World),(callFunc 225 args).run prog w=.ok (.enter 225 args) w:=fun _ _=>by kernel_rfl
 generalize idxK 0 l=V at E |-;clear d;go_enter func259,ntmps259
 go_wp2
 go_loopw [8] (fun i wr=>∃ q:Nat,q<=l.length/\i=Iv q/\Hid (V=idxK q (l.drop q))/\Hid (Below w.heap.size w wr)) (fun i _=>l.length - (intOf i).toNat)
 case atStart=>exact⟨0,Xb _,Z,E,Zr⟩
 case round =>
  obtain⟨q,C,rfl,e,k⟩:=hrel
  clear E;by_cases m:q<l.length
  ·have f:l[q]?=some l[q]:=Zg m;generalize l[q]=t at f;obtain⟨g,o,y,s,rfl,-,u,D,z,In⟩:=LIn.at (TIn.below x.out k.out) f
   have A:(q:Int)<l.length:=by omega
   have b:=Qf (e.out.trans (Qjl f));have j:Hid (Below w.heap.size w (wr.alloc (.cells #[Iv t.kind,Iv t.r,.slice y t.len s] 105))):=k.out.trans ((Zd wr _).mono k.out.size);clear f e In;by_cases a:t.kind=1
   ·have b:=Qf (b.out.trans (Xs a));rw[a] at u j
    clear a;go_wp2
    go_roundw
    case rel=>exact⟨q+1,by omega,by go_num,b,j⟩
    case measure=>simp[intOf];omega
   ·have b:=Qf (b.out.trans (Xr a));have F:(t.kind != 1)=true:=bne_iff_ne.2 a;clear a;go_wp2
    go_ret;exact⟨by rw[b.out];rfl,j.out⟩
  ·have h:q=l.length:=by omega
   subst h;go_wp2
   go_ret;exact⟨by rw[e.out,List.drop_length];rfl,k.out⟩
theorem Qd1 {l:List (TT n)}(a:(Qo n).In w All l [.slice p l.length c]) (b:l.length<=100000) :
 Rd prog 224 #[.slice p l.length c,.func (.func 225) #[] #[]] w (.bool (decide (0<=idxK 0 l))):=by
 have C:=Qf (Qg0 a b);clear a;go_enter func224,ntmps224
 go_wp2_with fail
 refine C.out.mono ?_;rintro g f ⟨rfl,d⟩;have e:=Qf d;clear d C;go_wp2
 go_ret;exact⟨Z,e.out⟩
def MFunc.begins {n:Nat}(x:MFunc n):Prop:=x.regs=0/\x.params.length=0/\x.results.all (fun t=>t.kind==1)=true
def MBlock.takes {n:Nat}(fn:MFunc n) (x:MBlock n):Prop:=x.regs=fn.regs/\x.params=fn.params
theorem QkU {fn:MFunc n}{x:MBlock n}(h:¬ x.takes fn):x.regs≠fn.regs\/Qde x.params fn.params=false:=by
 by_cases a:x.regs=fn.regs
 ·refine .inr ?_
  cases e:Qde x.params fn.params with
  | false=>rfl
  | true=>exact absurd ⟨a,Qc5.1 e⟩ h
 ·exact .inl a
theorem Qiw {fn:MFunc n}{x:MBlock n}(h:x.takes fn):¬ (x.regs≠fn.regs\/Qde x.params fn.params=false):=by
 rintro (a | a)
 ·exact a h.1
 ·rw[Qc5.2 h.2] at a;cases a
abbrev bkA {n:Nat}(m:List (MFunc n)) (p:Option Addr) (c:Nat) (x:MFunc n) (fp:FP) (fi:Nat) (y:MBlock n) (bp:BP) (bi:Nat):Array Value:=#[.slice p m.length c,Iv x.regs,.slice fp.pP x.params.length fp.cP,.slice fp.pR x.results.length fp.cR,.slice fp.pB x.blocks.length fp.cB,Iv (fi:Int),Iv y.regs,.slice bp.pP y.params.length bp.cP,.slice bp.pC y.code.length bp.cC,Iv y.fin.op,Iv y.fin.a,Iv y.fin.yes.block,.slice bp.e.pYR y.fin.yes.regs.length bp.e.cYR,.slice bp.e.pYA y.fin.yes.args.length bp.e.cYA,Iv y.fin.no.block,.slice bp.e.pNR y.fin.no.regs.length bp.e.cNR,.slice bp.e.pNA y.fin.no.args.length bp.e.cNA,.slice bp.e.pA y.fin.args.length bp.e.cA,Iv (bi:Int)]
theorem QeY {m:List (MFunc n)}{x:MFunc n}{a:FP}(j:FIn w All x a) (g:x.small) :
 Rd prog 179 #[.agg #[.slice p m.length c,Iv x.regs,.slice a.pP x.params.length a.cP,.slice a.pR x.results.length a.cR,.slice a.pB x.blocks.length a.cB,Iv (fi:Int)]] w (.bool (ZQ x.begins)):=by
 have f:=Qf (Zd w (.cells #[.slice p m.length c,Iv x.regs,.slice a.pP x.params.length a.cP,.slice a.pR x.results.length a.cR,.slice a.pB x.blocks.length a.cB,Iv (fi:Int)] 139));have i:=Qf (Blk.new w #[.slice p m.length c,Iv x.regs,.slice a.pP x.params.length a.cP,.slice a.pR x.results.length a.cR,.slice a.pB x.blocks.length a.cB,Iv (fi:Int)] 139);have C:=Qf (Qd1 (Ya j.results f.out) (by have:=g.2.2.1.1;omega));have o:x.begins↔x.regs=0/\x.params.length=0/\¬ 0<=idxK 0 x.results:=by unfold MFunc.begins;rw[Qgu,Classical.not_not]
 have b:=Qf o;clear o;generalize idxK 0 x.results=r at C b;clear j g;go_enter func179,ntmps179
 go_upto_region 1 with fail
 generalize w.alloc (.cells #[.slice p m.length c,Iv x.regs,.slice a.pP x.params.length a.cP,.slice a.pR x.results.length a.cR,.slice a.pB x.blocks.length a.cB,Iv (fi:Int)] 139)=G at f i C |-;generalize q:w.heap.size=X at i |-;have E:=Qf q;clear q;have y:=Qb i.out 1 _ Z;have F:=Qb i.out 2 _ Z;have D:=Qb i.out 3 _ Z;by_cases d:x.regs=0
 ·have v:(x.regs==0)=true:=by simpa using d
  by_cases e:x.params.length=0
  ·have u:((x.params.length:Int)==0)=true:=by simpa using e
   have k:Hid (ZQ x.begins=!(decide (0<=r))):=by
    by_cases l:0<=r
    ·exact(QB (fun h=>(b.out.1 h).2.2 l)).trans (by simp[l])
    ·exact(QC (b.out.2 ⟨d,e,l⟩)).trans (by simp[l])
   clear d e b;go_wp2_with fail
   refine C.out.mono ?_;rintro B z ⟨rfl,s⟩;have t:=Qf (f.out.trans (s.mono f.out.size));clear s C;go_wp2
   go_ret;exact⟨by rw[k.out];rfl,t.out⟩
  ·have u:((x.params.length:Int)==0)=false:=by simpa using e
   have k:=Qf (QB (A:=x.begins) (fun h=>e (b.out.1 h).2.1));clear d e b;go_wp2
   go_ret;exact⟨by rw[k.out];rfl,f.out⟩
 ·have v:(x.regs==0)=false:=by simpa using d
  have k:=Qf (QB (A:=x.begins) (fun h=>d (b.out.1 h).1));clear d b;go_wp2
  go_ret;exact⟨by rw[k.out];rfl,f.out⟩
theorem QeC {m:List (MFunc n)}{x:MFunc n}{a:FP}(k:FIn w All x a) (i:x.small) :
 Rd prog 116 #[.agg #[.slice p m.length c,Iv x.regs,.slice a.pP x.params.length a.cP,.slice a.pR x.results.length a.cR,.slice a.pB x.blocks.length a.cB,Iv (fi:Int)]] w (Iv (x.code fi)):=by
 have r:=Qf (Zd w (.cells #[.slice p m.length c,Iv x.regs,.slice a.pP x.params.length a.cP,.slice a.pR x.results.length a.cR,.slice a.pB x.blocks.length a.cB,Iv (fi:Int)] 139));have d:=Qf (Blk.new w #[.slice p m.length c,Iv x.regs,.slice a.pP x.params.length a.cP,.slice a.pR x.results.length a.cR,.slice a.pB x.blocks.length a.cB,Iv (fi:Int)] 139);have A:Hid (∀ f,Below w.heap.size w f->Calls prog 178 #[.slice a.pP x.params.length a.cP,Iv x.regs] f fun e B=>e=.returned (Iv (listC x.regs x.params))/\Below f.heap.size f B):=fun f C=>QaE (regs:=x.regs) (Ya k.params C) i.2.1;have o:Hid (∀ f,Below w.heap.size w f->Calls prog 178 #[.slice a.pR x.results.length a.cR,Iv x.regs] f fun e B=>e=.returned (Iv (listC x.regs x.results))/\Below f.heap.size f B):=fun f C=>QaE (regs:=x.regs) (Ya k.results C) i.2.2.1;have g:Hid (∀ f,Below w.heap.size w f->Calls prog 179 #[.agg #[.slice p m.length c,Iv x.regs,.slice a.pP x.params.length a.cP,.slice a.pR x.results.length a.cR,.slice a.pB x.blocks.length a.cB,Iv (fi:Int)]] f fun e B=>e=.returned (.bool (ZQ x.begins))/\Below f.heap.size f B):=fun f C=>QeY (k.below C) i;have aa:=i.1;have b:Hid (x.code fi=if x.regs<0\/6<x.regs then 1 else if listC x.regs x.params≠0 then listC x.regs x.params else if listC x.regs x.results≠0 then listC x.regs x.results else if x.blocks.length<1\/12<x.blocks.length then 2 else if fi=0/\¬ (x.regs=0/\x.params.length=0/\x.results.all (fun t=>t.kind==1)=true) then 18 else 0):=rfl;generalize x.code fi=V at b |-;generalize listC x.regs x.params=T at b A;generalize listC x.regs x.results=U at b o;clear k i;go_enter func116,ntmps116
 go_upto_region 1 with fail
 generalize w.alloc (.cells #[.slice p m.length c,Iv x.regs,.slice a.pP x.params.length a.cP,.slice a.pR x.results.length a.cR,.slice a.pB x.blocks.length a.cB,Iv (fi:Int)] 139)=w1 at r d |-;generalize R:w.heap.size=X at d |-;have HX:=Qf R;clear R;have F:=Qb d.out 1 _ Z;have L:=Qb d.out 2 _ Z;have K:=Qb d.out 3 _ Z;have G:=Qb d.out 4 _ Z;have J:=Qb d.out 5 _ Z;by_cases s:x.regs<0\/6<x.regs
 ·have E:=Qf (b.out.trans (Xs s));by_cases l:x.regs<0
  ·have I:decide (x.regs<0)=true:=Xt l;clear l s b A o g;go_wp2
   go_ret;exact⟨by rw[E.out];rfl,r.out⟩
  ·have I:decide (x.regs<0)=false:=Xu l;have Q:decide (x.regs>6)=true:=Xt (by omega);clear l s b A o g;go_wp2
   go_ret;exact⟨by rw[E.out];rfl,r.out⟩
 replace b:=Qf (b.out.trans (Xr s));have I:decide (x.regs<0)=false:=Xu (by omega);have Q:decide (x.regs>6)=false:=Xu (by omega);clear s;go_wp2_with fail
 refine(A.out w1 r.out).mono ?_
 rintro O w2 ⟨rfl,P⟩;have H:=Qf (r.out.trans (P.mono r.out.size));have d:=Qf (d.out.below P);clear P A F L K G J;have F:=Qb d.out 1 _ Z;have L:=Qb d.out 2 _ Z;have K:=Qb d.out 3 _ Z;have G:=Qb d.out 4 _ Z;have J:=Qb d.out 5 _ Z;by_cases u:T=0
 rotate_left
 ·have E:=Qf (b.out.trans (Xs u));have S:(T != 0)=true:=bne_iff_ne.2 u;clear u b o g;go_wp2
  go_ret;exact⟨by rw[E.out];rfl,H.out⟩
 replace b:=Qf (b.out.trans (Xr (fun h=>h u)));subst u;go_wp2_with fail
 refine(o.out w2 H.out).mono ?_
 rintro O W ⟨rfl,N⟩;have j:=Qf (H.out.trans (N.mono H.out.size));have d:=Qf (d.out.below N);clear N o F L K G J;have x0:=Qb d.out 0 _ Z;have F:=Qb d.out 1 _ Z;have L:=Qb d.out 2 _ Z;have K:=Qb d.out 3 _ Z;have G:=Qb d.out 4 _ Z;have J:=Qb d.out 5 _ Z;by_cases y:U=0
 rotate_left
 ·have E:=Qf (b.out.trans (Xs y));have S:(U != 0)=true:=bne_iff_ne.2 y;clear y b g;go_wp2
  go_ret;exact⟨by rw[E.out];rfl,j.out⟩
 replace b:=Qf (b.out.trans (Xr (fun h=>h y)));subst y;by_cases v:x.blocks.length<1\/12<x.blocks.length
 ·have E:=Qf (b.out.trans (Xs v));by_cases l:x.blocks.length<1
  ·have I:decide ((x.blocks.length:Int)<1)=true:=Xt (by omega);clear l v b g;go_wp2
   go_ret;exact⟨by rw[E.out];rfl,j.out⟩
  ·have I:decide ((x.blocks.length:Int)<1)=false:=Xu (by omega);have Q:decide ((x.blocks.length:Int)>12)=true:=Xt (by omega);clear l v b g;go_wp2
   go_ret;exact⟨by rw[E.out];rfl,j.out⟩
 replace b:=Qf (b.out.trans (Xr v));have S:decide ((x.blocks.length:Int)<1)=false:=Xu (by omega);have d4:decide ((x.blocks.length:Int)>12)=false:=Xu (by omega);clear v;by_cases D:fi=0
 rotate_left
 ·have E:=Qf (b.out.trans (Xr (fun h=>D h.1)));have d5:((fi:Int)==0)=false:=by simpa using D
  clear D b g;go_wp2
  go_ret;exact⟨by rw[E.out];rfl,j.out⟩
 subst D;by_cases q:x.begins
 ·have E:=Qf (b.out.trans (Xr (fun h=>h.2 q)));have g:=Qf (g.out W j.out);rw[QC q] at g
  clear q b;go_wp2_with fail
  refine g.out.mono ?_;rintro O w4 ⟨rfl,z⟩;have M:=Qf (j.out.trans (z.mono j.out.size));clear z g;go_wp2
  go_ret;exact⟨by rw[E.out];rfl,M.out⟩
 ·have E:=Qf (b.out.trans (Xs ⟨Z,q⟩));have g:=Qf (g.out W j.out);rw[QB q] at g
  clear q b;go_wp2_with fail
  refine g.out.mono ?_;rintro O w4 ⟨rfl,z⟩;have M:=Qf (j.out.trans (z.mono j.out.size));clear z g;go_wp2
  go_ret;exact⟨by rw[E.out];rfl,M.out⟩
theorem ZM {rest:List Oper}{op:Oper}{a:Act}{Q:Exit->Act->World->Prop}(i:Region.wanted op (yielded ops a.tmps)=true) (c:TypeId) (x:Operand) (k:op.op=.load c x)
 (b o:Nat) (e:a.eval x=Pv b o) (cs:List Value) (d:TypeDesc) (j:w.rangeAt b o cs) (f:P.underlying c=some d) (l:d.isRow=true) (hi:(P.info? c).map (·.size)=some cs.length)
 (h:wpList P ops Q rest (a.put op.dst (.agg cs.toArray)) w):wpList P ops Q (op::rest) a w :=
 wpList_step fun K g=>by
  rw[Xs i]
  exact wp_load_mid c x k b o e cs d j f l hi (g _ _ h)
theorem bkSize:(prog.info? 194).map (·.size)=some 19:=by kernel_rfl
theorem QjC {m:List (MFunc n)}{x:MFunc n}{d:FP}{y:MBlock n}{b:BP}(k:FIn w All x d) (r:x.small) (o:BIn w All y b) (f:y.small) :
 Rd prog 226 #[.agg (bkA m p c x d fi y b bi)] w (.bool (ZQ (y.takes x))):=by
 have l:=Qf (Zd w (.cells (bkA m p c x d fi y b bi) 194));have i:=Qf (Blk.new w (bkA m p c x d fi y b bi) 194);have C:Hid (∀ j,Below w.heap.size w j->Calls prog 260 #[.slice b.pP y.params.length b.cP,.slice d.pP x.params.length d.cP,FV] j fun e F=>ZL e (y.params=x.params)/\Below j.heap.size j F):=fun j v=>QiS n (same_any n) _ _ _ _ _ _ j (QV (Ya o.params v)).1 (QV (Ya k.params v)).1 (by have:=f.2.1.1;omega) f.2.1.2;clear k r o f;unfold Rd;go_enter func226,ntmps226
 go_upto_region 1 with fail
 generalize w.alloc (.cells #[.slice p m.length c,Iv x.regs,.slice d.pP x.params.length d.cP,.slice d.pR x.results.length d.cR,.slice d.pB x.blocks.length d.cB,Iv (fi:Int),Iv y.regs,.slice b.pP y.params.length b.cP,.slice b.pC y.code.length b.cC,Iv y.fin.op,Iv y.fin.a,Iv y.fin.yes.block,.slice b.e.pYR y.fin.yes.regs.length b.e.cYR,.slice b.e.pYA y.fin.yes.args.length b.e.cYA,Iv y.fin.no.block,.slice b.e.pNR y.fin.no.regs.length b.e.cNR,.slice b.e.pNA y.fin.no.args.length b.e.cNA,.slice b.e.pA y.fin.args.length b.e.cA,Iv (bi:Int)] 194)=G at l i |-;generalize t:w.heap.size=X at i |-;have M:=Qf t;clear t;have I:=Qb i.out 1 _ Z;have N:=Qb i.out 2 _ Z;have H:=Qb i.out 6 _ Z;have L:=Qb i.out 7 _ Z;by_cases g:y.regs=x.regs
 ·have B:(y.regs==x.regs)=true:=by simpa using g
  have D:=Qf g;clear g;go_wp2_with fail
  refine(C.out G l.out).mono ?_
  rintro K J ⟨⟨q,rfl,s⟩,u⟩;have z:=Qf (l.out.trans (u.mono l.out.size));have E:Hid (ZQ (y.takes x)=q):=(Qf5 (s.trans ⟨fun h=>⟨D.out,h⟩,fun h=>h.2⟩)).symm;clear u C s;go_wp2
  go_ret;exact⟨by rw[E.out];rfl,z.out⟩
 ·have B:(y.regs==x.regs)=false:=by simpa using g
  have E:=Qf (QB (A:=y.takes x) (fun h=>g h.1));clear g C;go_wp2
  go_ret;exact⟨by rw[E.out];rfl,l.out⟩
theorem Qeg {m:List (MFunc n)}{x:MFunc n}{f:FP}{y:MBlock n}{b:BP}(D:FIn w All x f) (z:x.small) (s:BIn w All y b) (r:y.small) :
 Rd prog 180 #[.agg (bkA m p c x f fi y b bi)] w (Iv (y.code' x bi)):=by
 have t:=Qf (Zd w (.cells (bkA m p c x f fi y b bi) 194));have i:=Qf (Blk.new w (bkA m p c x f fi y b bi) 194);have G:Hid (∀ k,Below w.heap.size w k->Calls prog 178 #[.slice b.pP y.params.length b.cP,Iv y.regs] k fun e O=>e=.returned (Iv (listC y.regs y.params))/\Below k.heap.size k O):=fun k J=>QaE (Ya s.params J) r.2.1;have g:Hid (∀ k,Below w.heap.size w k->Calls prog 226 #[.agg #[.slice p m.length c,Iv x.regs,.slice f.pP x.params.length f.cP,.slice f.pR x.results.length f.cR,.slice f.pB x.blocks.length f.cB,Iv (fi:Int),Iv y.regs,.slice b.pP y.params.length b.cP,.slice b.pC y.code.length b.cC,Iv y.fin.op,Iv y.fin.a,Iv y.fin.yes.block,.slice b.e.pYR y.fin.yes.regs.length b.e.cYR,.slice b.e.pYA y.fin.yes.args.length b.e.cYA,Iv y.fin.no.block,.slice b.e.pNR y.fin.no.regs.length b.e.cNR,.slice b.e.pNA y.fin.no.args.length b.e.cNA,.slice b.e.pA y.fin.args.length b.e.cA,Iv (bi:Int)]] k fun e O=>e=.returned (.bool (ZQ (y.takes x)))/\Below k.heap.size k O):=fun k J=>QjC (D.below J) z (s.below J) r;have aa:=r.1;have d:Hid (y.code' x bi=if y.regs<x.regs\/16<y.regs then 1 else if listC y.regs y.params≠0 then listC y.regs y.params else if bi=0/\(y.regs≠x.regs\/Qde y.params x.params=false) then 9 else if 40<y.code.length then 2 else 0):=rfl;generalize y.code' x bi=V at d |-;generalize listC y.regs y.params=T at d G;clear D z s r;unfold Rd;go_enter func180,ntmps180
 go_upto_region 1 with fail
 generalize w.alloc (.cells #[.slice p m.length c,Iv x.regs,.slice f.pP x.params.length f.cP,.slice f.pR x.results.length f.cR,.slice f.pB x.blocks.length f.cB,Iv (fi:Int),Iv y.regs,.slice b.pP y.params.length b.cP,.slice b.pC y.code.length b.cC,Iv y.fin.op,Iv y.fin.a,Iv y.fin.yes.block,.slice b.e.pYR y.fin.yes.regs.length b.e.cYR,.slice b.e.pYA y.fin.yes.args.length b.e.cYA,Iv y.fin.no.block,.slice b.e.pNR y.fin.no.regs.length b.e.cNR,.slice b.e.pNA y.fin.no.args.length b.e.cNA,.slice b.e.pA y.fin.args.length b.e.cA,Iv (bi:Int)] 194)=w1 at t i |-;generalize S:w.heap.size=X at i |-;have HX:=Qf S;clear S;have W:=Qb i.out 1 _ Z;have U:=Qb i.out 6 _ Z;have x7:=Qb i.out 7 _ Z;have u:=Qb i.out 8 _ Z;have F:=Qb i.out 18 _ Z;by_cases A:y.regs<x.regs\/16<y.regs
 ·have E:=Qf (d.out.trans (Xs A));by_cases I:y.regs<x.regs
  ·have R:decide (y.regs<x.regs)=true:=Xt I;clear I A d G g;go_wp2
   go_ret;exact⟨by rw[E.out];rfl,t.out⟩
  ·have R:decide (y.regs<x.regs)=false:=Xu I;have d2:decide (y.regs>16)=true:=Xt (by omega);clear I A d G g;go_wp2
   go_ret;exact⟨by rw[E.out];rfl,t.out⟩
 replace d:=Qf (d.out.trans (Xr A));have R:decide (y.regs<x.regs)=false:=Xu (by omega);have d2:decide (y.regs>16)=false:=Xu (by omega);clear A;go_wp2_with fail
 refine(G.out w1 t.out).mono ?_
 rintro K Q ⟨rfl,M⟩;have j:=Qf (t.out.trans (M.mono t.out.size));replace i:=Qf (i.out.below M);have L:=Qf (Blk.range (c:=(bkA m p c x f fi y b bi).toList) i.out);clear M G W U x7 u F;have u:=Qb i.out 8 _ Z;have F:=Qb i.out 18 _ Z;by_cases B:T=0
 rotate_left
 ·have E:=Qf (d.out.trans (Xs B));have d3:(T != 0)=true:=bne_iff_ne.2 B;clear B d g;go_wp2
  go_ret;exact⟨by rw[E.out];rfl,j.out⟩
 replace d:=Qf (d.out.trans (Xr (fun h=>h B)));subst B;by_cases q:bi=0/\¬ y.takes x
 ·have E:=Qf (d.out.trans (Xs ⟨q.1,QkU q.2⟩));have g:=Qf (g.out Q j.out);rw[QB q.2] at g
  have v:=q.1;subst v;clear q d;go_wp2_with (refine ZM Z 194 (.tmp 1) Z X 0 Z (bkA m p c x f fi y b 0).toList _ L.out underlying194 Z bkSize ?_)
  refine g.out.mono ?_;rintro K P ⟨rfl,l⟩;have C:=Qf (j.out.trans (l.mono j.out.size));clear l g;go_wp2
  go_ret;exact⟨by rw[E.out];rfl,C.out⟩
 replace d:=Qf (d.out.trans (Xr (fun h=>q ⟨h.1,fun H=>Qiw H h.2⟩)));by_cases v:bi=0
 ·subst v;have H:y.takes x:=Classical.byContradiction (fun h=>q ⟨Z,h⟩);have g:=Qf (g.out Q j.out);rw[QC H] at g
  clear q H;by_cases o:40<y.code.length
  ·have N:decide ((y.code.length:Int)>40)=true:=Xt (by omega);have E:=Qf (d.out.trans (Xs o));clear o d;go_wp2_with (refine ZM Z 194 (.tmp 1) Z X 0 Z (bkA m p c x f fi y b 0).toList _ L.out underlying194 Z bkSize ?_)
   refine g.out.mono ?_;rintro K P ⟨rfl,l⟩;have C:=Qf (j.out.trans (l.mono j.out.size));have u:=Qk u l;clear l g;go_wp2
   go_ret;exact⟨by rw[E.out];rfl,C.out⟩
  ·have N:decide ((y.code.length:Int)>40)=false:=Xu (by omega);have E:=Qf (d.out.trans (Xr o));clear o d;go_wp2_with (refine ZM Z 194 (.tmp 1) Z X 0 Z (bkA m p c x f fi y b 0).toList _ L.out underlying194 Z bkSize ?_)
   refine g.out.mono ?_;rintro K P ⟨rfl,l⟩;have C:=Qf (j.out.trans (l.mono j.out.size));have u:=Qk u l;clear l g;go_wp2
   go_ret;exact⟨by rw[E.out];rfl,C.out⟩
 ·have d5:((bi:Int)==0)=false:=by simpa using v
  clear q v g;by_cases o:40<y.code.length
  ·have N:decide ((y.code.length:Int)>40)=true:=Xt (by omega);have E:=Qf (d.out.trans (Xs o));clear o d;go_wp2
   go_ret;exact⟨by rw[E.out];rfl,j.out⟩
  ·have N:decide ((y.code.length:Int)>40)=false:=Xu (by omega);have E:=Qf (d.out.trans (Xr o));clear o d;go_wp2
   go_ret;exact⟨by rw[E.out];rfl,j.out⟩
theorem FbS.start0 (w:World):FbS w (w.alloc (.cells #[Iv 0,Iv 0] 32)) w.heap.size []:=⟨Zd w _,Ze,Blk.new _ _ _,fun i b a=>by simp at a⟩
theorem Qi9 {l:List Qs}{Bc:Nat}(G:Nat->Qs->Int × Int) (H:insL.list.In w All l [.slice p l.length c]) (aa:l.length<=100000)
 (y:∀ (i:Nat) x (z:IP) wx,l[i]?=some x->IIn wx All x z->Below w.heap.size w wx->Rd prog 183 #[Iv (i:Int),.agg #[Iv x.op,Iv x.a,Iv x.b,Iv x.c,Iv x.k,Iv x.n,.slice z.pR x.regs.length z.cR,.slice z.pA x.args.length z.cA],Pv Bc 0] wx (QG (G i x))) :
 Rd prog 182 #[.slice p l.length c,.func (.func 183) #[] #[Pv Bc 0]] w (QG (firstF G 0 l)):=by
 have HL:=Qf H;have HC:=Qf y;have S:=Qf (FbS.start0 w);have hE:∀ (args:Array Value) (w:World),(callFunc 183 args).run prog w=.ok (.enter 183 args) w:=fun _ _=>by kernel_rfl
 clear H y;unfold Rd;go_enter func182,ntmps182
 go_upto_region 1 with fail
 generalize w.alloc (.cells #[Iv 0,Iv 0] 32)=w1 at S |-;generalize w.heap.size=R at S |-;go_wp2_with fail
 go_loopw [10] (fun i wr=>∃ q:Nat,q<=l.length/\i=Iv q/\FbS w wr R []/\∀ (j:Nat) x,j<q->l[j]?=some x->(G j x).1=0) (fun i _=>l.length - (intOf i).toNat)
 case atStart=>exact⟨0,Xb _,Yz,S.out,fun j z C=>absurd C (XG _)⟩
 case round =>
  obtain⟨q,hq,rfl,hs,A⟩:=hrel
  have e:=Qf hs;have B:=Qf A;clear hs A S;obtain⟨K,V⟩:∃ K,K=wr:=⟨_,Yz⟩
  subst V;by_cases N:q<l.length
  rotate_left
  ·have J:¬ (q:Int)<l.length:=by omega
   have E:firstF G 0 l=(0,0):=QY fun j x C=>by rw[XK];exact B.out j x (by have:=(Zi C).1;omega) C
   obtain⟨r0,r1,z0,z1⟩:=e.out.cells
   have D:=Qf (e.out.fin 0 0);go_wp2_with fail
   generalize World.setCell _ _ _=O at D |-;exact Xy (v:=.agg #[Iv 0,Iv 0]) (by simp[results,results182,go_sem,Qb D.out.1 0 _ Yz,Qb D.out.1 1 _ Yz]) Yz ⟨by first | rfl | rw[E],D.out.2⟩
  have J:(q:Int)<l.length:=by omega
  have L:l[q]?=some l[q]:=Zg N;generalize l[q]=x at L;have U:=Qf L;obtain⟨g,o,z,rfl,s,I3⟩:=QhI HL.out L
  have HI:=Qf I3;have v0:=Qk (show w.cell? ⟨g,o+q*8,none⟩=_ from s 0 _ Yz) e.out.bel;have v1:=Qk (show w.cell? ⟨g,o+q*8+1,none⟩=_ from s 1 _ Yz) e.out.bel;have v2:=Qk (show w.cell? ⟨g,o+q*8+2,none⟩=_ from s 2 _ Yz) e.out.bel;have v3:=Qk (show w.cell? ⟨g,o+q*8+3,none⟩=_ from s 3 _ Yz) e.out.bel;have v4:=Qk (show w.cell? ⟨g,o+q*8+4,none⟩=_ from s 4 _ Yz) e.out.bel;have v5:=Qk (show w.cell? ⟨g,o+q*8+5,none⟩=_ from s 5 _ Yz) e.out.bel;have v6:=Qk (show w.cell? ⟨g,o+q*8+6,none⟩=_ from s 6 _ Yz) e.out.bel;have v7:=Qk (show w.cell? ⟨g,o+q*8+7,none⟩=_ from s 7 _ Yz) e.out.bel;have d:=Qf (e.out.new #[Iv x.op,Iv x.a,Iv x.b,Iv x.c,Iv x.k,Iv x.n,.slice z.pR x.regs.length z.cR,.slice z.pA x.args.length z.cA] 78);clear L s I3;go_upto_region 4 with fail
  generalize K.alloc (.cells #[Iv x.op,Iv x.a,Iv x.b,Iv x.c,Iv x.k,Iv x.n,.slice z.pR x.regs.length z.cR,.slice z.pA x.args.length z.cA] 78)=w3 at d |-;generalize K.heap.size=Z at d |-;clear e v0 v1 v2 v3 v4 v5 v6 v7;have t0:=Qb (d.out.box 0 _ Yz) 0 _ Yz;have t1:=Qb (d.out.box 0 _ Yz) 1 _ Yz;have t2:=Qb (d.out.box 0 _ Yz) 2 _ Yz;have t3:=Qb (d.out.box 0 _ Yz) 3 _ Yz;have t4:=Qb (d.out.box 0 _ Yz) 4 _ Yz;have t5:=Qb (d.out.box 0 _ Yz) 5 _ Yz;have t6:=Qb (d.out.box 0 _ Yz) 6 _ Yz;have t7:=Qb (d.out.box 0 _ Yz) 7 _ Yz;have P:=Qf (HC.out q x z w3 U.out (HI.out.below d.out.bel) d.out.bel);unfold Rd at P;obtain⟨h,F,M⟩:∃ h F,G q x=(h,F):=⟨_,_,Yz⟩
  rw[M] at P
  have Q:=Qf M;clear M;go_wp2_with fail
  refine P.out.mono ?_;rintro _ w8 ⟨rfl,X⟩;have t:=Qf ((d.out.below X).new #[Iv h,Iv F] 32);clear X d;simp only[QG]
  go_upto_region 5 with fail
  generalize w8.alloc (.cells #[Iv h,Iv F] 32)=w9 at t |-;generalize w8.heap.size=F8 at t |-;have f0:=Qb (t.out.box 0 _ Yz) 0 _ Yz;have f1:=Qb (t.out.box 0 _ Yz) 1 _ Yz;have T:Hid (FbS w w9 R []):=⟨t.out.bel,t.out.ge,t.out.r,fun i b hb=>by simp at hb⟩;clear t;by_cases m:h=0
  ·subst m;go_wp2
   go_roundw
   case rel =>
    refine⟨q+1,by omega,by go_num,T.out,fun j u C I=>?_⟩
    by_cases W:j<q
    ·exact B.out j u W I
    ·have:j=q:=by omega
     subst this;rw[U.out] at I
     cases I
     rw[Q.out]
   case measure=>simp[intOf];omega
  ·have d9:(h != 0)=true:=by simpa using m
   have E:firstF G 0 l=(h,F):=by
    have hF:=Qaz (f:=G) (j:=0) U.out (fun j u C I=>by rw[XK];exact B.out j u C I) (by rw[XK,Q.out];exact m);rw[XK,Q.out] at hF
    exact hF
   clear m;obtain⟨r0,r1,z0,z1⟩:=T.out.cells
   have D:=Qf (T.out.fin h F);go_wp2_with fail
   generalize World.setCell _ _ _=O at D |-;exact Xy (v:=.agg #[Iv h,Iv F]) (by simp[results,results182,go_sem,Qb D.out.1 0 _ Yz,Qb D.out.1 1 _ Yz]) Yz ⟨by first | rfl | rw[E],D.out.2⟩
theorem QfJ {l:List (MBlock n)}{Bc:Nat}(G:Nat->(MBlock n)->Int × Int) (J:(Zp n).list.In w All l [.slice p l.length c]) (ac:l.length<=100000)
 (A:∀ (i:Nat) x (z:BP) wx,l[i]?=some x->BIn wx All x z->Below w.heap.size w wx->Rd prog 120 #[Iv (i:Int),.agg #[Iv x.regs,.slice z.pP x.params.length z.cP,.slice z.pC x.code.length z.cC,Iv x.fin.op,Iv x.fin.a,Iv x.fin.yes.block,.slice z.e.pYR x.fin.yes.regs.length z.e.cYR,.slice z.e.pYA x.fin.yes.args.length z.e.cYA,Iv x.fin.no.block,.slice z.e.pNR x.fin.no.regs.length z.e.cNR,.slice z.e.pNA x.fin.no.args.length z.e.cNA,.slice z.e.pA x.fin.args.length z.e.cA],Pv Bc 0] wx (QG (G i x))) :
 Rd prog 119 #[.slice p l.length c,.func (.func 120) #[] #[Pv Bc 0]] w (QG (firstF G 0 l)):=by
 have HL:=Qf J;have HC:=Qf A;have S:=Qf (FbS.start0 w);have hE:∀ (args:Array Value) (w:World),(callFunc 120 args).run prog w=.ok (.enter 120 args) w:=fun _ _=>by kernel_rfl
 clear J A;unfold Rd;go_enter func119,ntmps119
 go_upto_region 1 with fail
 generalize w.alloc (.cells #[Iv 0,Iv 0] 32)=w1 at S |-;generalize w.heap.size=R at S |-;go_wp2_with fail
 go_loopw [10] (fun i wr=>∃ q:Nat,q<=l.length/\i=Iv q/\FbS w wr R []/\∀ (j:Nat) x,j<q->l[j]?=some x->(G j x).1=0) (fun i _=>l.length - (intOf i).toNat)
 case atStart=>exact⟨0,Xb _,Yz,S.out,fun j z m=>absurd m (XG _)⟩
 case round =>
  obtain⟨q,hq,rfl,hs,B⟩:=hrel
  have N:=Qf hs;have C:=Qf B;clear hs B S;obtain⟨t,aa⟩:∃ t,t=wr:=⟨_,Yz⟩
  subst aa;by_cases U:q<l.length
  rotate_left
  ·have P:¬ (q:Int)<l.length:=by omega
   have E:firstF G 0 l=(0,0):=QY fun j x m=>by rw[XK];exact C.out j x (by have:=(Zi m).1;omega) m
   obtain⟨r0,r1,z0,z1⟩:=N.out.cells
   have D:=Qf (N.out.fin 0 0);go_wp2_with fail
   generalize World.setCell _ _ _=V at D |-;exact Xy (v:=.agg #[Iv 0,Iv 0]) (by simp[results,results119,go_sem,Qb D.out.1 0 _ Yz,Qb D.out.1 1 _ Yz]) Yz ⟨by first | rfl | rw[E],D.out.2⟩
  have P:(q:Int)<l.length:=by omega
  have Q:l[q]?=some l[q]:=Zg U;generalize l[q]=x at Q;have HX:=Qf Q;obtain⟨g,o,z,rfl,W,I3⟩:=Qep HL.out Q
  have HI:=Qf I3;generalize s:([Iv x.regs,.slice z.pP x.params.length z.cP,.slice z.pC x.code.length z.cC,Iv x.fin.op,Iv x.fin.a,Iv x.fin.yes.block,.slice z.e.pYR x.fin.yes.regs.length z.e.cYR,.slice z.e.pYA x.fin.yes.args.length z.e.cYA,Iv x.fin.no.block,.slice z.e.pNR x.fin.no.regs.length z.e.cNR,.slice z.e.pNA x.fin.no.args.length z.e.cNA,.slice z.e.pA x.fin.args.length z.e.cA]:List Value)=d at W;have hl:d.length=12:=by rw[<-s];rfl
  have I:=Qf (Qm6.of t hl);have TO:Hid (d.toArray.all (·.oneCell')=true):=by show _=_;rw[<-s];exact all_oneCell_toArray (Xe.1 Yz)
  have RG:Hid (t.rangeAt g (o+q*12) d):=fun j v m=>Qk (W j v m) N.out.bel;clear Q W I3 hl;go_upto_region 4 with (first | (refine wpList_load_mid Yz 86 (.tmp 13) Yz g (o+q*12) Yz d _ RG.out underlying86 Yz I.out.size ?_) | (refine wpList_store_mid Yz 86 (.tmp 6) (.tmp 14) Yz t.heap.size 0 d.toArray Yz Yz I.out.there I.out.size2 TO.out ?_))
  have F:=Qf ((N.out.below I.out.bel).add I.out.blk);have TS:=Qf I.out.size;clear N RG TO I;generalize (t.alloc (.cells #[Iv 0,Nv,Nv,Iv 0,Iv 0,Iv 0,Nv,Nv,Iv 0,Nv,Nv,Nv] 86)).setCells t.heap.size 0 d=O at F |-;generalize t.heap.size=Z at F |-;have RZ:Hid (O.rangeAt Z 0 d):=Blk.range (F.out.box 0 _ Yz);have X:=Qf (HC.out q x z O HX.out (HI.out.below F.out.bel) F.out.bel);unfold Rd at X;have K:Hid (([Iv x.regs,.slice z.pP x.params.length z.cP,.slice z.pC x.code.length z.cC,Iv x.fin.op,Iv x.fin.a,Iv x.fin.yes.block,.slice z.e.pYR x.fin.yes.regs.length z.e.cYR,.slice z.e.pYA x.fin.yes.args.length z.e.cYA,Iv x.fin.no.block,.slice z.e.pNR x.fin.no.regs.length z.e.cNR,.slice z.e.pNA x.fin.no.args.length z.e.cNA,.slice z.e.pA x.fin.args.length z.e.cA]:List Value)=d):=s;have M:Hid (Calls prog 120 #[Iv (q:Int),.agg d.toArray,Pv Bc 0] O fun e w'=>e=.returned (QG (G q x))/\Below O.heap.size O w'):=by rw[<-K.out];exact X.out
  clear X K s;obtain⟨h,H,T⟩:∃ h H,G q x=(h,H):=⟨_,_,Yz⟩
  rw[T] at M
  have HG:=Qf T;clear T;go_wp2_with (refine wpList_load_mid Yz 86 (.tmp 6) Yz Z 0 Yz d _ RZ.out underlying86 Yz TS.out ?_)
  refine M.out.mono ?_;rintro _ w8 ⟨rfl,b8⟩;have y:=Qf ((F.out.below b8).new #[Iv h,Iv H] 32);clear b8 F;simp only[QG]
  go_upto_region 5 with fail
  generalize w8.alloc (.cells #[Iv h,Iv H] 32)=w9 at y |-;generalize w8.heap.size=F8 at y |-;have f0:=Qb (y.out.box 0 _ Yz) 0 _ Yz;have f1:=Qb (y.out.box 0 _ Yz) 1 _ Yz;have S8:Hid (FbS w w9 R []):=⟨y.out.bel,y.out.ge,y.out.r,fun i b hb=>by simp at hb⟩;clear y;by_cases k:h=0
  ·subst k;go_wp2
   go_roundw
   case rel =>
    refine⟨q+1,by omega,by go_num,S8.out,fun j u m L=>?_⟩
    by_cases ab:j<q
    ·exact C.out j u ab L
    ·have:j=q:=by omega
     subst this;rw[HX.out] at L
     cases L
     rw[HG.out]
   case measure=>simp[intOf];omega
  ·have d9:(h != 0)=true:=by simpa using k
   have E:firstF G 0 l=(h,H):=by
    have hF:=Qaz (f:=G) (j:=0) HX.out (fun j u m L=>by rw[XK];exact C.out j u m L) (by rw[XK,HG.out];exact k);rw[XK,HG.out] at hF
    exact hF
   clear k;obtain⟨r0,r1,z0,z1⟩:=S8.out.cells
   have D:=Qf (S8.out.fin h H);go_wp2_with fail
   generalize World.setCell _ _ _=V at D |-;exact Xy (v:=.agg #[Iv h,Iv H]) (by simp[results,results119,go_sem,Qb D.out.1 0 _ Yz,Qb D.out.1 1 _ Yz]) Yz ⟨by first | rfl | rw[E],D.out.2⟩
theorem QgV {l:List (MFunc n)}{Bc:Nat}(G:Nat->(MFunc n)->Int × Int) (B:(QaN n).In w All l [.slice p l.length c]) (aa:l.length<=100000)
 (k:∀ (i:Nat) x (z:FP) wx,l[i]?=some x->FIn wx All x z->Below w.heap.size w wx->Rd prog 74 #[Iv (i:Int),.agg #[Iv x.regs,.slice z.pP x.params.length z.cP,.slice z.pR x.results.length z.cR,.slice z.pB x.blocks.length z.cB],Pv Bc 0] wx (QG (G i x))) :
 Rd prog 73 #[.slice p l.length c,.func (.func 74) #[] #[Pv Bc 0]] w (QG (firstF G 0 l)):=by
 have HL:=Qf B;have HC:=Qf k;have S:=Qf (FbS.start0 w);have hE:∀ (args:Array Value) (w:World),(callFunc 74 args).run prog w=.ok (.enter 74 args) w:=fun _ _=>by kernel_rfl
 clear B k;unfold Rd;go_enter func73,ntmps73
 go_upto_region 1 with fail
 generalize w.alloc (.cells #[Iv 0,Iv 0] 32)=w1 at S |-;generalize w.heap.size=R at S |-;go_wp2_with fail
 go_loopw [10] (fun i wr=>∃ q:Nat,q<=l.length/\i=Iv q/\FbS w wr R []/\∀ (j:Nat) x,j<q->l[j]?=some x->(G j x).1=0) (fun i _=>l.length - (intOf i).toNat)
 case atStart=>exact⟨0,Xb _,Yz,S.out,fun j z y=>absurd y (XG _)⟩
 case round =>
  obtain⟨q,hq,rfl,hs,m⟩:=hrel
  have s:=Qf hs;have t:=Qf m;clear hs m S;obtain⟨I,T⟩:∃ I,I=wr:=⟨_,Yz⟩
  subst T;by_cases L:q<l.length
  rotate_left
  ·have H:¬ (q:Int)<l.length:=by omega
   have E:firstF G 0 l=(0,0):=QY fun j x y=>by rw[XK];exact t.out j x (by have:=(Zi y).1;omega) y
   obtain⟨r0,r1,z0,z1⟩:=s.out.cells
   have D:=Qf (s.out.fin 0 0);go_wp2_with fail
   generalize World.setCell _ _ _=M at D |-;exact Xy (v:=.agg #[Iv 0,Iv 0]) (by simp[results,results73,go_sem,Qb D.out.1 0 _ Yz,Qb D.out.1 1 _ Yz]) Yz ⟨by first | rfl | rw[E],D.out.2⟩
  have H:(q:Int)<l.length:=by omega
  have J:l[q]?=some l[q]:=Zg L;generalize l[q]=x at J;have Q:=Qf J;obtain⟨g,o,z,rfl,F,I3⟩:=Qf7 HL.out J
  have HI:=Qf I3;have v0:=Qk (show w.cell? ⟨g,o+q*4,none⟩=_ from F 0 _ Yz) s.out.bel;have v1:=Qk (show w.cell? ⟨g,o+q*4+1,none⟩=_ from F 1 _ Yz) s.out.bel;have v2:=Qk (show w.cell? ⟨g,o+q*4+2,none⟩=_ from F 2 _ Yz) s.out.bel;have v3:=Qk (show w.cell? ⟨g,o+q*4+3,none⟩=_ from F 3 _ Yz) s.out.bel;have a:=Qf (s.out.new #[Iv x.regs,.slice z.pP x.params.length z.cP,.slice z.pR x.results.length z.cR,.slice z.pB x.blocks.length z.cB] 89);clear J F I3;go_upto_region 4 with fail
  generalize I.alloc (.cells #[Iv x.regs,.slice z.pP x.params.length z.cP,.slice z.pR x.results.length z.cR,.slice z.pB x.blocks.length z.cB] 89)=w3 at a |-;generalize I.heap.size=Z at a |-;clear s v0 v1 v2 v3;have t0:=Qb (a.out.box 0 _ Yz) 0 _ Yz;have t1:=Qb (a.out.box 0 _ Yz) 1 _ Yz;have t2:=Qb (a.out.box 0 _ Yz) 2 _ Yz;have t3:=Qb (a.out.box 0 _ Yz) 3 _ Yz;have N:=Qf (HC.out q x z w3 Q.out (HI.out.below a.out.bel) a.out.bel);unfold Rd at N;obtain⟨d,A,K⟩:∃ d A,G q x=(d,A):=⟨_,_,Yz⟩
  rw[K] at N
  have O:=Qf K;clear K;go_wp2_with fail
  refine N.out.mono ?_;rintro _ X ⟨rfl,V⟩;have h:=Qf ((a.out.below V).new #[Iv d,Iv A] 32);clear V a;simp only[QG]
  go_upto_region 5 with fail
  generalize X.alloc (.cells #[Iv d,Iv A] 32)=w9 at h |-;generalize X.heap.size=F8 at h |-;have f0:=Qb (h.out.box 0 _ Yz) 0 _ Yz;have f1:=Qb (h.out.box 0 _ Yz) 1 _ Yz;have P:Hid (FbS w w9 R []):=⟨h.out.bel,h.out.ge,h.out.r,fun i b hb=>by simp at hb⟩;clear h;by_cases e:d=0
  ·subst e;go_wp2
   go_roundw
   case rel =>
    refine⟨q+1,by omega,by go_num,P.out,fun j u y C=>?_⟩
    by_cases U:j<q
    ·exact t.out j u U C
    ·have:j=q:=by omega
     subst this;rw[Q.out] at C
     cases C
     rw[O.out]
   case measure=>simp[intOf];omega
  ·have d9:(d != 0)=true:=by simpa using e
   have E:firstF G 0 l=(d,A):=by
    have W:=Qaz (f:=G) (j:=0) Q.out (fun j u y C=>by rw[XK];exact t.out j u y C) (by rw[XK,O.out];exact e);rw[XK,O.out] at W
    exact W
   clear e;obtain⟨r0,r1,z0,z1⟩:=P.out.cells
   have D:=Qf (P.out.fin d A);go_wp2_with fail
   generalize World.setCell _ _ _=M at D |-;exact Xy (v:=.agg #[Iv d,Iv A]) (by simp[results,results73,go_sem,Qb D.out.1 0 _ Yz,Qb D.out.1 1 _ Yz]) Yz ⟨by first | rfl | rw[E],D.out.2⟩
abbrev iA (z:Qs) (zi:IP):Array Value:=#[Iv z.op,Iv z.a,Iv z.b,Iv z.c,Iv z.k,Iv z.n,.slice zi.pR z.regs.length zi.cR,.slice zi.pA z.args.length zi.cA]
abbrev fA {n:Nat}(x:MFunc n) (fp:FP):Array Value:=#[Iv x.regs,.slice fp.pP x.params.length fp.cP,.slice fp.pR x.results.length fp.cR,.slice fp.pB x.blocks.length fp.cB]
abbrev eA {n:Nat}(y:MBlock n) (bp:BP):Array Value:=#[Iv y.fin.op,Iv y.fin.a,Iv y.fin.yes.block,.slice bp.e.pYR y.fin.yes.regs.length bp.e.cYR,.slice bp.e.pYA y.fin.yes.args.length bp.e.cYA,Iv y.fin.no.block,.slice bp.e.pNR y.fin.no.regs.length bp.e.cNR,.slice bp.e.pNA y.fin.no.args.length bp.e.cNA,.slice bp.e.pA y.fin.args.length bp.e.cA]
abbrev bA {n:Nat}(y:MBlock n) (bp:BP):Array Value:=#[Iv y.regs,.slice bp.pP y.params.length bp.cP,.slice bp.pC y.code.length bp.cC,Iv y.fin.op,Iv y.fin.a,Iv y.fin.yes.block,.slice bp.e.pYR y.fin.yes.regs.length bp.e.cYR,.slice bp.e.pYA y.fin.yes.args.length bp.e.cYA,Iv y.fin.no.block,.slice bp.e.pNR y.fin.no.regs.length bp.e.cNR,.slice bp.e.pNA y.fin.no.args.length bp.e.cNA,.slice bp.e.pA y.fin.args.length bp.e.cA]
abbrev lA {n:Nat}(m:List (MFunc n)) (p:Option Addr) (c:Nat) (x:MFunc n) (fp:FP) (fi:Nat):Array Value:=#[.slice p m.length c,Iv x.regs,.slice fp.pP x.params.length fp.cP,.slice fp.pR x.results.length fp.cR,.slice fp.pB x.blocks.length fp.cB,Iv (fi:Int)]
theorem bkSizeE:(prog.info? 84).map (·.size)=some 9:=by kernel_rfl
def Qoh (w6:World) (Bc X q N c fi bi:Nat) (p:Option Addr) (z:Qs) (zi:IP) (vf vp v0 v1:Int) (t:Tmp) (v:Value) (w:World):Prop :=
 v=(([(2,Pv Bc 0),(4,Pv X 0),(0,Iv (q:Int)),(6,Pv Bc 0),(7,Pv Bc 0),(8,.agg #[.slice p N c]),(9,.agg (iA z zi)),(10,Iv vf),(11,Pv Bc 0),(12,Pv Bc 5),(13,Iv (fi:Int)),(14,Pv Bc 18),(15,Iv (bi:Int)),(16,Iv (q:Int)),(17,Iv vp),(18,.agg #[Iv v0,Iv v1])]:List (Tmp × Value)).lookup t).getD undef
theorem kd1 {Bc:Nat}{z:Qs}{r:IP}{x y s u:Int}(J:w6.cell? ⟨Bc,0,none⟩=some (.slice p N c)) (H:w6.cell? ⟨Bc,5,none⟩=some (Iv (fi:Int))) (l:w6.cell? ⟨Bc,18,none⟩=some (Iv (bi:Int))) (f:Hid (Blk w6 X (iA z r) 78)) (I:Hid (∀ w,Below w6.heap.size w6 w->Calls prog 184 #[.agg #[.slice p N c],.agg (iA z r)] w fun e w'=>e=.returned (Iv x)/\Below w.heap.size w w')) (O:Hid (∀ w,Below w6.heap.size w6 w->Calls prog 130 #[Iv (fi:Int),Iv (bi:Int),Iv (q:Int)] w fun e w'=>e=.returned (Iv y)/\Below w.heap.size w w')) (F:Hid (∀ w,Below w6.heap.size w6 w->Calls prog 117 #[Iv x,Iv y] w fun e w'=>e=.returned (.agg #[Iv s,Iv u])/\Below w.heap.size w w')){Q:Exit->Act->World->Prop}
 (a:Act) (m:Nat) (L:a.tmps.size=m) (o:19<=m) (D:a.tmps.getD 2 undef=Pv Bc 0) (G:a.tmps.getD 4 undef=Pv X 0) (M:a.tmps.getD 0 undef=Iv (q:Int))
 (hend:∀ ops vs w',vs 18=.agg #[Iv s,Iv u]->Below w6.heap.size w6 w'->wpList prog ops Q (Qao 13 ((Tryz.f183.body.bind (Qi 1)).getD .skip)) (QN a vs [6,7,8,9,10,11,12,13,14,15,16,17,18]) w') :
 Code.wp prog ((Tryz.f183.body.bind (Qi 1)).getD .skip) Q a w6:=by
 conv=>arg 2;whnf
 refine Qg 13 (Qoh w6 Bc X q N c fi bi p z r x y s u) (fun w=>Below w6.heap.size w6 w) (fun w w'=>Below w.heap.size w w') (outs:=[2,4,0]) (gs:=[]) (bs:=[true,true,true,true,true,true,true,true,true,true,true,true,true]) (by kernel_rfl) (n:=19) L o (by kernel_rfl) (by kernel_rfl) ?hR ?hG (QI Zr 1) ⟨D,G,M,Y⟩ ?hA ?hend
 case hR=>exact fun t v w w' _ h=>h
 case hG=>exact Y
 case hend=>exact fun ops vs w' b i=>hend ops vs w' (i 18 (by kernel_rfl)) b
 case hA =>
  repeat
   refine⟨fun a w b i K k=>?_,?_⟩
   focus first
    | obtain⟨g,-⟩:=i
      conv at g=>whnf;rhs;whnf
      have R:=Qk J b;have P:=Qk (Qb f.out 0 _ Z) b;have U:=Qk (Qb f.out 1 _ Z) b;have W:=Qk (Qb f.out 2 _ Z) b;have c4:=Qk (Qb f.out 3 _ Z) b;have c5:=Qk (Qb f.out 4 _ Z) b;have T:=Qk (Qb f.out 5 _ Z) b;have V:=Qk (Qb f.out 6 _ Z) b;have c8:=Qk (Qb f.out 7 _ Z) b;have S:=Qk H b;have E:=Qk l b;go_simp;exact k _ _ Zr b Z
    | obtain⟨g,j,-⟩:=i
      conv at g=>whnf;rhs;whnf
      conv at j=>whnf;rhs;whnf
      go_simp;refine Xm (I.out w b) ?_;rintro B A ⟨rfl,d⟩;go_simp;exact k _ _ d (b.trans (d.mono b.size)) Z
    | obtain⟨g,j,-⟩:=i
      conv at g=>whnf;rhs;whnf
      conv at j=>whnf;rhs;whnf
      go_simp;refine Xm (F.out w b) ?_;rintro B A ⟨rfl,d⟩;go_simp;exact k _ _ d (b.trans (d.mono b.size)) Z
    | obtain⟨g,j,C,-⟩:=i
      conv at g=>whnf;rhs;whnf
      conv at j=>whnf;rhs;whnf
      conv at C=>whnf;rhs;whnf
      go_simp;refine Xm (O.out w b) ?_;rintro B A ⟨rfl,d⟩;go_simp;exact k _ _ d (b.trans (d.mono b.size)) Z
  trivial
def QnY {n:Nat}(w6:World) (X fi bi:Nat) (x:MFunc n) (fp:FP) (y:MBlock n) (bp:BP) (vf vp v0 v1:Int) (t:Tmp) (v:Value) (w:World):Prop :=
 v=(([(1,Pv X 0),(26,Pv X 0),(27,Pv X 1),(28,.agg (fA x fp)),(29,Pv X 6),(30,Pv X 9),(31,.agg (eA y bp)),(32,Iv vf),(33,Pv X 0),(34,Pv X 5),(35,Iv (fi:Int)),(36,Pv X 18),(37,Iv (bi:Int)),(38,Iv vp),(39,.agg #[Iv v0,Iv v1])]:List (Tmp × Value)).lookup t).getD undef
theorem kd7 {m:List (MFunc n)}{x:MFunc n}{s:FP}{y:MBlock n}{l:BP}{A B r u:Int}(i:Hid (Blk w6 X (bkA m p c x s fi y l bi) 194)) (z:Hid (w6.rangeAt X 9 (eA y l).toList)) (G:Hid (∀ w,Below w6.heap.size w6 w->Calls prog 185 #[.agg (fA x s),.agg (eA y l)] w fun e w'=>e=.returned (Iv A)/\Below w.heap.size w w')) (J:Hid (∀ w,Below w6.heap.size w6 w->Calls prog 131 #[Iv (fi:Int),Iv (bi:Int)] w fun e w'=>e=.returned (Iv B)/\Below w.heap.size w w')) (F:Hid (∀ w,Below w6.heap.size w6 w->Calls prog 117 #[Iv A,Iv B] w fun e w'=>e=.returned (.agg #[Iv r,Iv u])/\Below w.heap.size w w')){Q:Exit->Act->World->Prop}
 (a:Act) (m:Nat) (I:a.tmps.size=m) (q:40<=m) (E:a.tmps.getD 1 undef=Pv X 0)
 (hend:∀ ops vs w',vs 39=.agg #[Iv r,Iv u]->Below w6.heap.size w6 w'->wpList prog ops Q (Qao 14 ((Tryz.f121.body.bind (Qi 7)).getD .skip)) (QN a vs [26,27,28,29,30,31,32,33,34,35,36,37,38,39]) w') :
 Code.wp prog ((Tryz.f121.body.bind (Qi 7)).getD .skip) Q a w6:=by
 conv=>arg 2;whnf
 refine Qg 14 (QnY w6 X fi bi x s y l A B r u) (fun w=>Below w6.heap.size w6 w) (fun w w'=>Below w.heap.size w w') (outs:=[1]) (gs:=[]) (bs:=[true,true,true,true,true,true,true,true,true,true,true,true,true,true]) (by kernel_rfl) (n:=40) I q (by kernel_rfl) (by kernel_rfl) ?hR ?hG (QI Zr 1) ⟨E,Y⟩ ?hA ?hend
 case hR=>exact fun t v w w' _ h=>h
 case hG=>exact Y
 case hend=>exact fun ops vs w' b g=>hend ops vs w' (g 39 (by kernel_rfl)) b
 case hA =>
  repeat
   refine⟨fun a w b g K o=>?_,?_⟩
   focus first
    | obtain⟨d,-⟩:=g
      conv at d=>whnf;rhs;whnf
      have M:=Qk (Qb i.out 1 _ Z) b;have L:=Qk (Qb i.out 2 _ Z) b;have N:=Qk (Qb i.out 3 _ Z) b;have O:=Qk (Qb i.out 4 _ Z) b;have P:=Qk (Qb i.out 5 _ Z) b;have R:=Qk (Qb i.out 18 _ Z) b;go_simp;exact o _ _ Zr b Z
    | obtain⟨d,-⟩:=g
      conv at d=>whnf;rhs;whnf
      exact wp_load_mid 84 (.tmp 30) Z X 9 d (eA y l).toList _ (fun j v H=>Qk (z.out j v H) b) underlying84 Z bkSizeE (o _ _ Zr b Z)
    | obtain⟨d,k,-⟩:=g
      conv at d=>whnf;rhs;whnf
      conv at k=>whnf;rhs;whnf
      go_simp;refine Xm (G.out w b) ?_;rintro D C ⟨rfl,f⟩;go_simp;exact o _ _ f (b.trans (f.mono b.size)) Z
    | obtain⟨d,k,-⟩:=g
      conv at d=>whnf;rhs;whnf
      conv at k=>whnf;rhs;whnf
      go_simp;refine Xm (J.out w b) ?_;rintro D C ⟨rfl,f⟩;go_simp;exact o _ _ f (b.trans (f.mono b.size)) Z
    | obtain⟨d,k,-⟩:=g
      conv at d=>whnf;rhs;whnf
      conv at k=>whnf;rhs;whnf
      go_simp;refine Xm (F.out w b) ?_;rintro D C ⟨rfl,f⟩;go_simp;exact o _ _ f (b.trans (f.mono b.size)) Z
  trivial
theorem Qjc {m:List (MFunc n)}{x:MFunc n}{G:FP}{y:MBlock n}{F:BP}{Bc:Nat}{z:Qs}{i:IP}(D:q<1000000) (J:m.length<=100000) (r:fi<1000000) (o:bi<1000000) (d:Blk w Bc (bkA m p c x G fi y F bi) 194) :
 Rd prog 183 #[Iv (q:Int),.agg (iA z i),Pv Bc 0] w (QG (atF (z.form m.length) (10000*(fi:Int)+100*(bi:Int)+(q:Int)))):=by
 have f:=((Bxs.start w).new (iA z i) 78).new #[Iv 0,Iv 0] 32;rw[World.size_alloc] at f
 have f:=Qf f;have H:=Qf d;have E:Hid (∀ b:World,Calls prog 184 #[.agg #[.slice p m.length c],.agg (iA z i)] b fun e k=>e=.returned (Iv (z.form m.length))/\Below b.heap.size b k):=fun b=>QgN m.length z i p c b (by omega);have I:Hid (∀ b:World,Calls prog 130 #[Iv (fi:Int),Iv (bi:Int),Iv (q:Int)] b fun e k=>e=.returned (Iv (10000*(fi:Int)+100*(bi:Int)+(q:Int)))/\Below b.heap.size b k):=fun b=>QdV ⟨r,o,D⟩;have t:Hid (∀ b:World,Calls prog 117 #[Iv (z.form m.length),Iv (10000*(fi:Int)+100*(bi:Int)+(q:Int))] b fun e k=>e=.returned (.agg #[Iv (atF (z.form m.length) (10000*(fi:Int)+100*(bi:Int)+(q:Int))).1,Iv (atF (z.form m.length) (10000*(fi:Int)+100*(bi:Int)+(q:Int))).2])/\Below b.heap.size b k):=fun b=>Qbm;generalize C:atF (z.form m.length) (10000*(fi:Int)+100*(bi:Int)+(q:Int))=v at t |-;clear d C;unfold Rd;go_enter func183,ntmps183
 go_upto_region 1 with fail
 generalize (w.alloc (.cells (iA z i) 78)).alloc (.cells #[Iv 0,Iv 0] 32)=O at f |-;generalize w.heap.size+1=R at f |-;generalize w.heap.size=X at f |-;have g:=Qf (H.out.below f.out.bel);refine kd1 (Qb g.out 0 _ Z) (Qb g.out 5 _ Z) (Qb g.out 18 _ Z) (f.out.at (a:=[_])) (fun b _=>E.out b) (fun b _=>I.out b) (fun b _=>t.out b) _ _ Z (Xg (by kernel_rfl)) Z Z Z ?_;rintro l B A h u;have j:=Qf (f.out.below u);clear u f g;show wpList _ l _ [_] (QN _ B [6,7,8,9,10,11,12,13,14,15,16,17,18]) A;simp only[QN,Act.put,List.setIfInBounds_toArray,List.set_cons_zero,List.set_cons_succ,h]
 have K:=j.out.cell (a:=[]) 0 _ Z;have L:=j.out.cell (a:=[]) 1 _ Z;have M:=j.out.free (a:=[]) 0;have N:=j.out.free (a:=[]) 1;have s:=Qf ((j.out.set (a:=[]) 0 (Iv (v.1))).set (a:=[]) 1 (Iv (v.2)));go_wp2
 exact Xy (v:=QG v) (by simp[results,results183,go_sem,s.out.cell (a:=[]) 0 _ Z,s.out.cell (a:=[]) 1 _ Z]) Z ⟨Z,s.out.bel⟩
theorem Qdh {m:List (MFunc n)}{x:MFunc n}{B:FP}{y:MBlock n}{k:BP}(H:FIn w All x B) (s:x.small) (I:BIn w All y k) (q:y.small) (hm:m.length<=100000) (A:fi<1000000) (u:bi<1000000) :
 Rd prog 121 #[.agg (bkA m p c x B fi y k bi)] w (QG (MBlock.fault m.length fi x bi y)):=by
 have r:=((Bxs.start w).new (bkA m p c x B fi y k bi) 194).new #[Iv 0,Iv 0] 32;rw[World.size_alloc] at r
 have r:=Qf r;have HB:=Qf (Xh hm (Xh A u));have G:=Qf (Xh H (Xh s (Xh I q)));have g:=Qf (MBlock.fault_eq m.length fi x bi y);have EI:=Qe3 (f:=fun i z=>(Qs.form m.length z,(10000*(fi:Int)+100*(bi:Int)+(i:Int)))) (l:=y.code) (j:=0);dsimp only at EI
 have CC:Hid (∀ b,Below w.heap.size w b->Calls prog 180 #[.agg (bkA m p c x B fi y k bi)] b fun e C=>e=.returned (Iv (y.code' x bi))/\Below b.heap.size b C):=fun b bx=>Qeg (H.below bx) s (I.below bx) q;have CF:Hid (∀ (S T:Int) (b:World),Calls prog 117 #[Iv S,Iv T] b fun e C=>e=.returned (.agg #[Iv (atF S T).1,Iv (atF S T).2])/\Below b.heap.size b C):=fun S T b=>Qbm;have CB:Hid (∀ b:World,Calls prog 181 #[Iv (fi:Int),Iv (bi:Int)] b fun e C=>e=.returned (Iv (10000*(fi:Int)+100*(bi:Int)+90))/\Below b.heap.size b C):=fun b=>QeJ ⟨A,u⟩;have CA:Hid (∀ b:World,Calls prog 131 #[Iv (fi:Int),Iv (bi:Int)] b fun e C=>e=.returned (Iv (10000*(fi:Int)+100*(bi:Int)+91))/\Below b.heap.size b C):=fun b=>QdP ⟨A,u⟩;have CE:Hid (∀ b:World,Calls prog 185 #[.agg (fA x B),.agg (eA y k)] b fun e C=>e=.returned (Iv (y.fin.form x.blocks.length))/\Below b.heap.size b C):=fun b=>Qgj (by obtain⟨a1,a2⟩:=q.2.2.1.1;obtain⟨a3,a4⟩:=q.2.2.1.2.1;exact⟨by omega,by omega,by omega,by omega⟩) (by have:=s.1;omega);rw[<-EI] at g
 have g:=Qf g.out;generalize MBlock.fault m.length fi x bi y=V at g |-;generalize y.code' x bi=v at g CC;clear H s I q hm A u EI;unfold Rd;go_enter func121,ntmps121
 go_upto_region 1 with fail
 generalize (w.alloc (.cells (bkA m p c x B fi y k bi) 194)).alloc (.cells #[Iv 0,Iv 0] 32)=w1 at r |-;generalize w.heap.size+1=R at r |-;generalize w.heap.size=X at r |-;have RG:=Qf (Blk.range (c:=(bkA m p c x B fi y k bi).toList) (r.out.at (a:=[_])));go_wp2_with (refine ZM Z 194 (.tmp 1) Z X 0 Z (bkA m p c x B fi y k bi).toList _ RG.out underlying194 Z bkSize ?_)
 refine(CC.out w1 r.out.bel).mono ?_
 rintro e' N ⟨rfl,b2⟩;have t:=Qf (r.out.below b2);clear b2 RG r CC;have x5:N.cell? ⟨X,5,none⟩=some (Iv (fi:Int)):=t.out.cell (a:=[_]) 5 _ Z;have x8:N.cell? ⟨X,8,none⟩=some (.slice k.pC y.code.length k.cC):=t.out.cell (a:=[_]) 8 _ Z;have O:N.cell? ⟨X,18,none⟩=some (Iv (bi:Int)):=t.out.cell (a:=[_]) 18 _ Z;by_cases K:v=0
 rotate_left
 ·have E:=Qf (g.out.trans (Xr K));have dv:(v != 0)=true:=bne_iff_ne.2 K;have HV:=Qf K;clear K g CE CA;go_wp2_with fail
  refine(CB.out N).mono ?_
  rintro e' U ⟨rfl,M⟩;have d:=Qf (t.out.below M);clear M t x5 x8 O;go_wp2_with fail
  refine(CF.out v (10000*(fi:Int)+100*(bi:Int)+90) U).mono ?_
  rintro e' w4 ⟨rfl,b4⟩;have L:=Qf (d.out.below b4);clear b4 d;have EA:Hid (atF v (10000*(fi:Int)+100*(bi:Int)+90)=V):=(Xr HV.out).trans E.out.symm;rw[EA.out]
  have r0:=L.out.cell (a:=[]) 0 _ Z;have r1:=L.out.cell (a:=[]) 1 _ Z;have z0:=L.out.free (a:=[]) 0;have z1:=L.out.free (a:=[]) 1;have o:=Qf ((L.out.set (a:=[]) 0 (Iv (V.1))).set (a:=[]) 1 (Iv (V.2)));go_wp2
  exact Xy (v:=QG V) (by simp[results,results121,go_sem,o.out.cell (a:=[]) 0 _ Z,o.out.cell (a:=[]) 1 _ Z]) Z ⟨Z,o.out.bel⟩
 replace g:=Qf (g.out.trans (Xs K));subst K;have Q:=Qf (Qi9 (w:=N) (Bc:=X) (fun i z=>atF (Qs.form m.length z) (10000*(fi:Int)+100*(bi:Int)+(i:Int))) (Ya G.out.2.2.1.code t.out.bel) (by have:=G.out.2.2.2.1;omega) (fun i z zi b hz hi hb=>Qjc (y:=y) (by have h8:=G.out.2.2.2.1;have h9:=(Zi hz).1;omega) HB.out.1 HB.out.2.1 HB.out.2.2 ((t.out.at (a:=[_])).below hb)));unfold Rd at Q;generalize firstF (fun i z=>atF (Qs.form m.length z) (10000*(fi:Int)+100*(bi:Int)+(i:Int))) 0 y.code=h at g Q;go_wp2_with fail
 refine Q.out.mono ?_;rintro e' U ⟨rfl,M⟩;have d:=Qf ((t.out.below M).new #[Iv h.1,Iv h.2] 32);clear M t x5 x8 O Q;go_upto_region 5 with fail
 generalize U.alloc (.cells #[Iv h.1,Iv h.2] 32)=w4 at d |-;generalize U.heap.size=F at d |-;have y0:w4.cell? ⟨F,0,none⟩=some (Iv h.1):=d.out.cell (a:=[]) 0 _ Z;have y1:w4.cell? ⟨F,1,none⟩=some (Iv h.2):=d.out.cell (a:=[]) 1 _ Z;by_cases J:h.1=0
 rotate_left
 ·have E:=Qf (g.out.trans (Xr J));have df:(h.1 != 0)=true:=bne_iff_ne.2 J;clear J g;have r0:=d.out.cell (a:=[_]) 0 _ Z;have r1:=d.out.cell (a:=[_]) 1 _ Z;have z0:=d.out.free (a:=[_]) 0;have z1:=d.out.free (a:=[_]) 1;have o:=Qf ((d.out.set (a:=[_]) 0 (Iv (h.1))).set (a:=[_]) 1 (Iv (h.2)));go_wp2
  exact Xy (v:=QG h) (by simp[results,results121,go_sem,o.out.cell (a:=[_]) 0 _ Z,o.out.cell (a:=[_]) 1 _ Z]) Z ⟨by rw[E.out],o.out.bel⟩
 have E:=Qf (g.out.trans (Xs J));have df:(h.1 != 0)=false:=by simpa using J
 clear J g;go_upto_region 7 with fail
 clear y0 y1;have HX:=Qf (d.out.at (a:=[_,_]));refine kd7 HX (fun j v hj=>by have h8:=(Blk.range (c:=(bkA m p c x B fi y k bi).toList) HX.out) (9+j) v (by rcases j with _ | _ | _ | _ | _ | _ | _ | _ | _ | j<;>first | exact hj | simp at hj);rwa [XK] at h8) (fun b _=>CE.out b) (fun b _=>CA.out b) (fun b _=>CF.out _ _ b) _ _ Z (Xg (by kernel_rfl)) Z ?_;rintro W vs w5 D b5;have P:=Qf (d.out.below b5);clear b5 d HX;rw[<-E.out] at D
 show wpList _ W _ [_] (QN _ vs [26,27,28,29,30,31,32,33,34,35,36,37,38,39]) w5;simp only[QN,Act.put,List.setIfInBounds_toArray,List.set_cons_zero,List.set_cons_succ,D]
 have r0:=P.out.cell (a:=[_]) 0 _ Z;have r1:=P.out.cell (a:=[_]) 1 _ Z;have z0:=P.out.free (a:=[_]) 0;have z1:=P.out.free (a:=[_]) 1;have o:=Qf ((P.out.set (a:=[_]) 0 (Iv (V.1))).set (a:=[_]) 1 (Iv (V.2)));go_wp2
 exact Xy (v:=QG V) (by simp[results,results121,go_sem,o.out.cell (a:=[_]) 0 _ Z,o.out.cell (a:=[_]) 1 _ Z]) Z ⟨Z,o.out.bel⟩
theorem QhU {m:List (MFunc n)}{x:MFunc n}{o:FP}{y:MBlock n}{f:BP}(k:FIn w All x o) (g:x.small) (q:BIn w All y f) (r:y.small){Bc:Nat}(u:m.length<=100000) (l:fi<1000000) (j:bi<1000000) (b:Blk w Bc (lA m p c x o fi) 139) :
 Rd prog 120 #[Iv (bi:Int),.agg (bA y f),Pv Bc 0] w (QG (MBlock.fault m.length fi x bi y)):=by
 have d:=((Bxs.start w).new (bA y f) 86).new #[Iv 0,Iv 0] 32;rw[World.size_alloc] at d
 have d:=Qf d;have D:=Qf b;have s:Hid (∀ i,Below w.heap.size w i->Calls prog 121 #[.agg (bkA m p c x o fi y f bi)] i fun e E=>e=.returned (QG (MBlock.fault m.length fi x bi y))/\Below i.heap.size i E):=fun i C=>Qdh (k.below C) g (q.below C) r u l j;generalize MBlock.fault m.length fi x bi y=V at s |-;clear k g q r u l j b;unfold Rd;go_enter func120,ntmps120
 go_upto_region 1 with fail
 generalize (w.alloc (.cells (bA y f) 86)).alloc (.cells #[Iv 0,Iv 0] 32)=F at d |-;generalize w.heap.size+1=R at d |-;generalize w.heap.size=X at d |-;have A:=Qf (Blk.range (c:=(bA y f).toList) (d.out.at (a:=[_])));have z:=Qf (Blk.range (c:=(lA m p c x o fi).toList) (D.out.below d.out.bel));go_wp2_with (first | refine ZM Z 139 (.tmp 2) Z Bc 0 Z (lA m p c x o fi).toList _ z.out underlying139 Z (by kernel_rfl) ?_ | refine ZM Z 86 (.tmp 4) Z X 0 Z (bA y f).toList _ A.out underlying86 Z pSizeB ?_)
 refine(s.out F d.out.bel).mono ?_
 rintro H G ⟨rfl,B⟩;have h:=Qf (d.out.below B);clear B A z d s;have I:=h.out.cell (a:=[]) 0 _ Z;have J:=h.out.cell (a:=[]) 1 _ Z;have K:=h.out.free (a:=[]) 0;have L:=h.out.free (a:=[]) 1;have t:=Qf ((h.out.set (a:=[]) 0 (Iv (V.1))).set (a:=[]) 1 (Iv (V.2)));go_wp2
 exact Xy (v:=QG V) (by simp[results,results120,go_sem,t.out.cell (a:=[]) 0 _ Z,t.out.cell (a:=[]) 1 _ Z]) Z ⟨Z,t.out.bel⟩
theorem Qdl {m:List (MFunc n)}{x:MFunc n}{j:FP}(q:FIn w All x j) (l:x.small) (K:m.length<=100000) (r:fi<1000000) :
 Rd prog 75 #[.agg (lA m p c x j fi)] w (QG (MFunc.fault m.length fi x)):=by
 have h:=((Bxs.start w).new (lA m p c x j fi) 139).new #[Iv 0,Iv 0] 32;rw[World.size_alloc] at h
 have h:=Qf h;have O:=Qf (Xh K r);have f:=Qf (Xh q l);have o:=Qf (MFunc.fault_eq m.length fi x);have H:Hid (∀ d,Below w.heap.size w d->Calls prog 116 #[.agg (lA m p c x j fi)] d fun e A=>e=.returned (Iv (x.code fi))/\Below d.heap.size d A):=fun d bx=>QeC (q.below bx) l;have U:Hid (∀ (D F:Int) (d:World),Calls prog 117 #[Iv D,Iv F] d fun e A=>e=.returned (.agg #[Iv (atF D F).1,Iv (atF D F).2])/\Below d.heap.size d A):=fun D F d=>Qbm;have CA:Hid (∀ d:World,Calls prog 118 #[Iv (fi:Int)] d fun e A=>e=.returned (Iv (10000*(fi:Int)+9999))/\Below d.heap.size d A):=fun d=>QfR r;generalize MFunc.fault m.length fi x=V at o |-;generalize x.code fi=v at o H;clear q l K r;unfold Rd;go_enter func75,ntmps75
 go_upto_region 1 with fail
 generalize (w.alloc (.cells (lA m p c x j fi) 139)).alloc (.cells #[Iv 0,Iv 0] 32)=w1 at h |-;generalize w.heap.size+1=R at h |-;generalize w.heap.size=X at h |-;have P:=Qf (Blk.range (c:=(lA m p c x j fi).toList) (h.out.at (a:=[_])));go_wp2_with (refine ZM Z 139 (.tmp 1) Z X 0 Z (lA m p c x j fi).toList _ P.out underlying139 Z (by kernel_rfl) ?_)
 refine(H.out w1 h.out.bel).mono ?_
 rintro G B ⟨rfl,Q⟩;have g:=Qf (h.out.below Q);clear Q P h H;have L:B.cell? ⟨X,4,none⟩=some (.slice j.pB x.blocks.length j.cB):=g.out.cell (a:=[_]) 4 _ Z;have M:B.cell? ⟨X,5,none⟩=some (Iv (fi:Int)):=g.out.cell (a:=[_]) 5 _ Z;by_cases t:v=0
 rotate_left
 ·have E:=Qf (o.out.trans (Xr t));have dv:(v != 0)=true:=bne_iff_ne.2 t;have HV:=Qf t;clear t o;go_wp2_with fail
  refine(CA.out B).mono ?_
  rintro G S ⟨rfl,z⟩;have k:=Qf (g.out.below z);clear z g L M;go_wp2_with fail
  refine(U.out v (10000*(fi:Int)+9999) S).mono ?_
  rintro G w4 ⟨rfl,N⟩;have u:=Qf (k.out.below N);clear N k;have T:Hid (atF v (10000*(fi:Int)+9999)=V):=(Xr HV.out).trans E.out.symm;rw[T.out]
  have W:=u.out.cell (a:=[]) 0 _ Z;have r1:=u.out.cell (a:=[]) 1 _ Z;have z0:=u.out.free (a:=[]) 0;have z1:=u.out.free (a:=[]) 1;have s:=Qf ((u.out.set (a:=[]) 0 (Iv (V.1))).set (a:=[]) 1 (Iv (V.2)));go_wp2
  exact Xy (v:=QG V) (by simp[results,results75,go_sem,s.out.cell (a:=[]) 0 _ Z,s.out.cell (a:=[]) 1 _ Z]) Z ⟨Z,s.out.bel⟩
 replace o:=Qf (o.out.trans (Xs t));subst t;have C:=Qf (QfJ (w:=B) (Bc:=X) (fun b y=>MBlock.fault m.length fi x b y) (Ya f.out.1.blocks g.out.bel) (by have:=f.out.2.1;omega) (fun i y bp d J hi I=>QhU (f.out.1.below (g.out.bel.trans (I.mono g.out.bel.size))) f.out.2 hi (f.out.2.2.2.2 y (Zm J)) O.out.1 O.out.2 (by have h8:=f.out.2.1;have h9:=(Zi J).1;omega) ((g.out.at (a:=[_])).below I)));unfold Rd at C;rw[<-o.out] at C
 go_wp2_with fail
 refine C.out.mono ?_;rintro G S ⟨rfl,z⟩;have k:=Qf (g.out.below z);clear z g L M C;have W:=k.out.cell (a:=[]) 0 _ Z;have r1:=k.out.cell (a:=[]) 1 _ Z;have z0:=k.out.free (a:=[]) 0;have z1:=k.out.free (a:=[]) 1;have s:=Qf ((k.out.set (a:=[]) 0 (Iv (V.1))).set (a:=[]) 1 (Iv (V.2)));go_wp2
 exact Xy (v:=QG V) (by simp[results,results75,go_sem,s.out.cell (a:=[]) 0 _ Z,s.out.cell (a:=[]) 1 _ Z]) Z ⟨Z,s.out.bel⟩
theorem QiT {m:List (MFunc n)}{x:MFunc n}{f:FP}(j:FIn w All x f) (g:x.small){Bc:Nat}(q:m.length<=100000) (k:fi<1000000) (b:Blk w Bc #[.slice p m.length c] 24) :
 Rd prog 74 #[Iv (fi:Int),.agg (fA x f),Pv Bc 0] w (QG (MFunc.fault m.length fi x)):=by
 have d:=((Bxs.start w).new (fA x f) 89).new #[Iv 0,Iv 0] 32;rw[World.size_alloc] at d
 have d:=Qf d;have u:=Qf b;have l:Hid (∀ i,Below w.heap.size w i->Calls prog 75 #[.agg (lA m p c x f fi)] i fun e y=>e=.returned (QG (MFunc.fault m.length fi x))/\Below i.heap.size i y):=fun i A=>Qdl (j.below A) g q k;generalize MFunc.fault m.length fi x=V at l |-;clear j g q k b;unfold Rd;go_enter func74,ntmps74
 go_upto_region 1 with fail
 generalize (w.alloc (.cells (fA x f) 89)).alloc (.cells #[Iv 0,Iv 0] 32)=z at d |-;generalize w.heap.size+1=R at d |-;generalize w.heap.size=X at d |-;have t:=Qb (u.out.below d.out.bel) 0 _ Z;have r:=Qf (Blk.range (c:=(fA x f).toList) (d.out.at (a:=[_])));go_wp2_with (refine ZM Z 89 (.tmp 4) Z X 0 Z (fA x f).toList _ r.out underlying89 Z (by kernel_rfl) ?_)
 refine(l.out z d.out.bel).mono ?_
 rintro C B ⟨rfl,s⟩;have h:=Qf (d.out.below s);clear s r d l t;have D:=h.out.cell (a:=[]) 0 _ Z;have E:=h.out.cell (a:=[]) 1 _ Z;have F:=h.out.free (a:=[]) 0;have G:=h.out.free (a:=[]) 1;have o:=Qf ((h.out.set (a:=[]) 0 (Iv (V.1))).set (a:=[]) 1 (Iv (V.2)));go_wp2
 exact Xy (v:=QG V) (by simp[results,results74,go_sem,o.out.cell (a:=[]) 0 _ Z,o.out.cell (a:=[]) 1 _ Z]) Z ⟨Z,o.out.bel⟩
theorem Qb0 {m:List (MFunc n)}(k:(QaN n).In w All m [.slice p m.length c]) (e:Qbh m) :
 Rd prog 44 #[.agg #[.slice p m.length c]] w (QG (modFault m)):=by
 have b:=((Bxs.start w).new #[.slice p m.length c] 24).new #[Iv 0,Iv 0] 32;rw[World.size_alloc] at b
 have b:=Qf b;have A:=Qf k;have o:=Qf e;have g:Hid (modFault m=if m.length<1\/8<m.length then (2,-1) else firstF (fun f x=>MFunc.fault m.length f x) 0 m):=rfl;have I:=e.1;generalize modFault m=V at g |-;clear k e;unfold Rd;go_enter func44,ntmps44
 go_upto_region 1 with fail
 generalize (w.alloc (.cells #[.slice p m.length c] 24)).alloc (.cells #[Iv 0,Iv 0] 32)=u at b |-;generalize w.heap.size+1=R at b |-;generalize w.heap.size=X at b |-;have C:u.cell? ⟨X,0,none⟩=some (.slice p m.length c):=b.out.cell (a:=[_]) 0 _ Z;by_cases h:m.length<1\/8<m.length
 ·have E:=Qf (g.out.trans (Xs h));clear g;have D:=b.out.cell (a:=[]) 0 _ Z;have F:=b.out.cell (a:=[]) 1 _ Z;have G:=b.out.free (a:=[]) 0;have H:=b.out.free (a:=[]) 1;by_cases t:m.length<1
  ·have s:decide ((m.length:Int)<1)=true:=Xt (by omega);clear t h;have d:=Qf ((b.out.set (a:=[]) 0 (Iv (2))).set (a:=[]) 1 (Iv (-1)));go_wp2
   exact Xy (v:=QG V) (by simp[results,results44,go_sem,d.out.cell (a:=[]) 0 _ Z,d.out.cell (a:=[]) 1 _ Z,E.out]) Z ⟨Z,d.out.bel⟩
  ·have s:decide ((m.length:Int)<1)=false:=Xu (by omega);have z:decide ((m.length:Int)>8)=true:=Xt (by omega);clear t h;have d:=Qf ((b.out.set (a:=[]) 0 (Iv (2))).set (a:=[]) 1 (Iv (-1)));go_wp2
   exact Xy (v:=QG V) (by simp[results,results44,go_sem,d.out.cell (a:=[]) 0 _ Z,d.out.cell (a:=[]) 1 _ Z,E.out]) Z ⟨Z,d.out.bel⟩
 replace g:=Qf (g.out.trans (Xr h));have s:decide ((m.length:Int)<1)=false:=Xu (by omega);have z:decide ((m.length:Int)>8)=false:=Xu (by omega);clear h;have l:=Qf (QgV (w:=u) (Bc:=X) (fun f x=>MFunc.fault m.length f x) (Ya A.out b.out.bel) (by omega) (fun i x N L q B y=>QiT B (o.out.2 x (Zm q)) o.out.1 (by have M:=o.out.1;have J:=(Zi q).1;omega) ((b.out.at (a:=[_])).below y)));unfold Rd at l;rw[<-g.out] at l
 go_wp2_with fail
 refine l.out.mono ?_;rintro K O ⟨rfl,r⟩;have j:=Qf (b.out.below r);clear r b C l;have D:=j.out.cell (a:=[]) 0 _ Z;have F:=j.out.cell (a:=[]) 1 _ Z;have G:=j.out.free (a:=[]) 0;have H:=j.out.free (a:=[]) 1;have d:=Qf ((j.out.set (a:=[]) 0 (Iv (V.1))).set (a:=[]) 1 (Iv (V.2)));go_wp2
 exact Xy (v:=QG V) (by simp[results,results44,go_sem,d.out.cell (a:=[]) 0 _ Z,d.out.cell (a:=[]) 1 _ Z]) Z ⟨Z,d.out.bel⟩
def QcA (w:World) (a:Option Addr) (l:List Int):Prop:=∀ i x,l[i]?=some x->∃ g o,a=some ⟨g,o,none⟩/\w.cell? ⟨g,o+i,none⟩=some (Iv x)
theorem QcA.below (h:QcA w a l) (b:Below w.heap.size w w'):QcA w' a l:=fun i x d=>by
 obtain⟨g,o,e,c⟩:=h i x d
 exact⟨g,o,e,Qk c b⟩
theorem Qi2.lg {lo:Nat}(h:Qi2 lo l (.slice a n c) w):n=l.length/\QcA w a l:=by
 obtain⟨u,j,e,q,f,r⟩:=h
 simp only[Value.slice.injEq] at e
 obtain⟨rfl,rfl,rfl⟩:=e
 refine⟨Z,fun i x d=>?_⟩
 have t:=(Zi d).1;rcases f.2 with ⟨e,p⟩|⟨g,s,m,e,-,k,-,-,-,o⟩
 ·omega
 ·simp only[Value.slice.injEq] at e
  have b:(l.map (Value.int .i64))[i]?=some (Iv x):=by simp[d]
  rw[<-o,XR,Xs (by omega)] at b
  exact⟨g,0,e.1,Qb k _ _ (by rw[XK];simpa using b)⟩
theorem QcA.nil (w:World) (a:Option Addr):QcA w a []:=fun i x b=>by simp at b
theorem Qf0 {b:Option Addr}(j:l.length=N) (v:N<=100000) (q:QcA w a l) (n:QcA w b l) :
 Calls prog 28 #[.slice a N c,.slice b N d] w fun e w'=>e=.returned (.bool true)/\∃ m,w'=w.drewN m:=by
 have u:=Qc q;have s:=Qc n;have p:Hid (l.length=N):=j;clear q n j;go_enter func28,ntmps28
 go_wp2
 go_loopw [5] (fun i wr=>∃ k m:Nat,k<=N/\i=Iv k/\wr=w.drewN m) (fun i _=>N - (intOf i).toNat)
 case atStart=>exact⟨0,0,Xb _,Z,Z⟩
 case round =>
  obtain⟨k,m,B,rfl,rfl⟩:=hrel
  by_cases h:k<N
  ·have f:l[k]?=some (l[k]'(by rw[p.out];exact h)):=Zg _;generalize l[k]'(by rw[p.out];exact h)=y at f;obtain⟨g,o,rfl,C⟩:=u.out k y f
   obtain⟨A,z,rfl,r⟩:=s.out k y f
   have x:(k:Int)<N:=by omega
   have t:(0:Int)<=k:=by omega
   clear f;go_wp2_with fail
   go_quiet (fail)
   go_wp2
   go_roundw
   case rel=>exact⟨k+1,_,by omega,by go_num,Z⟩
   case measure=>simp[intOf];omega
  ·go_wp2
   go_ret;exact⟨Z,_,Z⟩
theorem Qcm {b:Option Addr}(i:l.length=N) (f:N<=100000) (k:QcA w a l) (j:QcA w b l) :
 Calls prog 28 #[.slice a N c,.slice b N d] w fun e w'=>e=.returned (.bool true)/\Below w.heap.size w w' :=
 (Qf0 i f k j).mono fun e w' ⟨g,m,h⟩=>⟨g,by rw[h];exact QI Zr _⟩
theorem Qb1 {fin fuel:Int}{r:List Int}{a' b h:Option Addr}{c' j:Nat}(K:l.length<=100000) (I:r.length<=100000) (v:QcA w a l) (x:QcA w a' l) (A:QcA w b r) (z:QcA w h r) :
 Calls prog 26 #[.agg #[Iv fin,.slice a l.length c,.slice b r.length d,Iv fuel],.agg #[Iv fin,.slice a' l.length c',.slice h r.length j,Iv fuel]] w fun e w'=>e=.returned (.bool true)/\Below w.heap.size w w':=by
 have y:Hid (∀ f,Below w.heap.size w f->Calls prog 28 #[.slice a l.length c,.slice a' l.length c'] f fun e w'=>e=.returned (.bool true)/\Below f.heap.size f w'):=fun f n=>Qcm Z K (v.below n) (x.below n);have B:Hid (∀ f,Below w.heap.size w f->Calls prog 28 #[.slice b r.length d,.slice h r.length j] f fun e w'=>e=.returned (.bool true)/\Below f.heap.size f w'):=fun f n=>Qcm Z I (A.below n) (z.below n);have m:=Qc (Qkr w (.cells #[Iv fin,.slice a l.length c,.slice b r.length d,Iv fuel] 44) (.cells #[Iv fin,.slice a' l.length c',.slice h r.length j,Iv fuel] 44));clear v x A z;go_enter func26,ntmps26
 go_upto_region 1 with fail
 have g:=QnO w #[Iv fin,.slice a l.length c,.slice b r.length d,Iv fuel] 44 (.cells #[Iv fin,.slice a' l.length c',.slice h r.length j,Iv fuel] 44);have i:=QmJ w (.cells #[Iv fin,.slice a l.length c,.slice b r.length d,Iv fuel] 44) #[Iv fin,.slice a' l.length c',.slice h r.length j,Iv fuel] 44;generalize (w.alloc (.cells #[Iv fin,.slice a l.length c,.slice b r.length d,Iv fuel] 44)).alloc (.cells #[Iv fin,.slice a' l.length c',.slice h r.length j,Iv fuel] 44)=J at m g i |-;generalize w.heap.size+1=Y at i |-;generalize w.heap.size=X at g |-;have G:=Qb g 0 _ Z;have C:=Qb g 1 _ Z;have u:=Qb g 2 _ Z;have s:=Qb g 3 _ Z;have H:=Qb i 0 _ Z;have D:=Qb i 1 _ Z;have t:=Qb i 2 _ Z;have q:=Qb i 3 _ Z;clear g i;go_wp2_with fail
 refine(y.out J m.out).mono ?_
 rintro M F ⟨rfl,k⟩;have p:=Qc (m.out.trans (k.mono m.out.size));have u:=Qk u k;have t:=Qk t k;have s:=Qk s k;have q:=Qk q k;clear y G C H D k m;go_wp2_with fail
 refine(B.out F p.out).mono ?_
 rintro L N ⟨rfl,o⟩;have E:=Qc (p.out.trans (o.mono p.out.size));have s:=Qk s o;have q:=Qk q o;clear B u t o p;go_wp2
 go_ret;exact⟨Z,E.out⟩
abbrev Qjp (c a:Int):Value:=.tuple #[.agg #[Iv 0,Nv,Nv,Iv 0],Qbw c a]
def Qej (c0 a0:Int) (n:Nat) (fu pg:Int) (c a:Int):Prop:=(c0≠0/\c=c0/\a=a0)\/(c0=0/\(200<n\/fu<0\/20000<fu\/pg<0\/64<pg)/\c=1/\a=-1)
theorem Qej.ne {c0 a0:Int}{fu pg c a:Int}(h:Qej c0 a0 n fu pg c a):c≠0:=by
 rcases h with ⟨h,rfl,-⟩|⟨-,-,rfl,-⟩
 ·exact h
 ·decide
theorem QiI {ml:Nat}{fu pg c a c0 a0:Int}(J:∀ wx,Below w.heap.size w wx->Calls prog 66 #[.agg #[.slice pm ml cm]] wx fun e w'=>e=.returned (Qbw c0 a0)/\Below wx.heap.size wx w') (o:n<1152921504606846976) (I:Qej c0 a0 n fu pg c a) :
 Calls prog 32 #[.agg #[.slice pm ml cm],.slice pi n ci,Iv fu,Iv pg] w fun e w'=>e=.returned (.tuple #[.pointer none,Qbw c a])/\Below w.heap.size w w':=by
 have q:=Qc J;have t:=Qc I;have i:=Qc ((((Bxs.start w).new #[.slice pm ml cm] 24)).new #[Iv 0,Iv 0] 32);clear J I o;go_enter func32,ntmps32
 go_upto_region 1 with fail
 rw[World.size_alloc] at i
 have x:=Qc (q.out _ i.out.bel);generalize (w.alloc (.cells #[.slice pm ml cm] 24)).alloc (.cells #[Iv 0,Iv 0] 32)=V at i x |-;generalize w.heap.size+1=Y at i |-;generalize w.heap.size=X at i |-;have W:V.cell? ⟨X,0,none⟩=some (.slice pm ml cm):=i.out.cell (a:=[_]) 0 _ Z;go_upto_region 2 with (go_at_call 66;refine x.out.mono ?_;rintro e' Q ⟨rfl,L⟩)
 have f:=Qc ((i.out.below L).new #[Iv c0,Iv a0] 32);clear x L i W q;generalize Q.alloc (.cells #[Iv c0,Iv a0] 32)=j at f |-;generalize Q.heap.size=F at f |-;have y:j.cell? ⟨F,0,none⟩=some (Iv c0):=f.out.cell (a:=[]) 0 _ Z;have C:j.cell? ⟨F,1,none⟩=some (Iv a0):=f.out.cell (a:=[]) 1 _ Z;have M:=f.out.cell (a:=[_]) 0 _ Z;have K:=f.out.cell (a:=[_]) 1 _ Z;have O:=f.out.free (a:=[_]) 0;have P:=f.out.free (a:=[_]) 1
 have l:Hid (∀ c a:Int,(((j.setCell ⟨Y,0,none⟩ (Iv c)).setCell ⟨Y,1,none⟩ (Iv a)).cell? ⟨Y,0,none⟩=some (Iv c)/\((j.setCell ⟨Y,0,none⟩ (Iv c)).setCell ⟨Y,1,none⟩ (Iv a)).cell? ⟨Y,1,none⟩=some (Iv a))/\Below w.heap.size w ((j.setCell ⟨Y,0,none⟩ (Iv c)).setCell ⟨Y,1,none⟩ (Iv a))):=fun c a=>by
  have k:=(f.out.set (a:=[_]) 0 (Iv c)).set (a:=[_]) 1 (Iv a);exact⟨⟨k.cell (a:=[_]) 0 _ Z,k.cell (a:=[_]) 1 _ Z⟩,k.bel⟩
 by_cases h:c0=0
 ·subst h
  have E:Hid ((200<n\/fu<0\/20000<fu\/pg<0\/64<pg)/\c=1/\a=-1):=by
   rcases t.out with ⟨b,-⟩|⟨-,b⟩
   ·exact absurd Z b
   ·exact b
  have D:=Qc (l.out 1 (-1));clear t;by_cases o:200<n
  ·have d1:decide ((n:Int)>200)=true:=Xt (by omega);clear l o;go_upto_region 5 with fail
   go_wp2
   exact Xy (v:=.tuple #[.pointer none,Qbw c a]) (by rw[E.out.2.1,E.out.2.2];simp[results,results32,go_sem,D.out.1.1,D.out.1.2,Qbw]) Z ⟨Z,D.out.2⟩
  have d1:decide ((n:Int)>200)=false:=Xu (by omega);by_cases r:fu<0
  ·have T:decide (fu<0)=true:=Xt r;clear l o r;go_upto_region 5 with fail
   go_wp2
   exact Xy (v:=.tuple #[.pointer none,Qbw c a]) (by rw[E.out.2.1,E.out.2.2];simp[results,results32,go_sem,D.out.1.1,D.out.1.2,Qbw]) Z ⟨Z,D.out.2⟩
  have T:decide (fu<0)=false:=Xu r;by_cases b:20000<fu
  ·have d3:decide (fu>20000)=true:=Xt b;clear l o r b;go_upto_region 5 with fail
   go_wp2
   exact Xy (v:=.tuple #[.pointer none,Qbw c a]) (by rw[E.out.2.1,E.out.2.2];simp[results,results32,go_sem,D.out.1.1,D.out.1.2,Qbw]) Z ⟨Z,D.out.2⟩
  have d3:decide (fu>20000)=false:=Xu b;have N:=Qc (Ql6 j pg (by have:=E.out.1;omega));clear o r b D;go_upto_region 7 with (go_at_call 67;refine N.out.mono ?_;rintro e' H ⟨rfl,R⟩)
  have g:=Qc ((f.out.below R).new #[Iv 1,Iv (-1)] 32);clear R y C M K O P l N f;generalize H.alloc (.cells #[Iv 1,Iv (-1)] 32)=m at g |-;generalize H.heap.size=G at g |-;have k0:m.cell? ⟨G,0,none⟩=some (Iv 1):=g.out.cell (a:=[]) 0 _ Z;have k1:m.cell? ⟨G,1,none⟩=some (Iv (-1)):=g.out.cell (a:=[]) 1 _ Z;have M:=g.out.cell (a:=[_,_]) 0 _ Z;have K:=g.out.cell (a:=[_,_]) 1 _ Z;have O:=g.out.free (a:=[_,_]) 0;have P:=g.out.free (a:=[_,_]) 1
  have U:Hid ((((m.setCell ⟨Y,0,none⟩ (Iv 1)).setCell ⟨Y,1,none⟩ (Iv (-1))).cell? ⟨Y,0,none⟩=some (Iv 1)/\((m.setCell ⟨Y,0,none⟩ (Iv 1)).setCell ⟨Y,1,none⟩ (Iv (-1))).cell? ⟨Y,1,none⟩=some (Iv (-1)))/\Below w.heap.size w ((m.setCell ⟨Y,0,none⟩ (Iv 1)).setCell ⟨Y,1,none⟩ (Iv (-1)))) :=
   have k:=(g.out.set (a:=[_,_]) 0 (Iv 1)).set (a:=[_,_]) 1 (Iv (-1));show _ from ⟨⟨k.cell (a:=[_,_]) 0 _ Z,k.cell (a:=[_,_]) 1 _ Z⟩,k.bel⟩
  go_upto_region 8 with fail
  go_region
  all_goals
   go_wp2_with fail
   have s:=U.out;generalize (m.setCell ⟨Y,0,none⟩ (Iv 1)).setCell ⟨Y,1,none⟩ (Iv (-1))=p at s |-;obtain⟨⟨B,z⟩,d⟩:=s
   have A:p.drew.cell? ⟨Y,0,none⟩=some (Iv 1):=B;have u:p.drew.cell? ⟨Y,1,none⟩=some (Iv (-1)):=z;exact Xy (v:=.tuple #[.pointer none,Qbw c a]) (by rw[E.out.2.1,E.out.2.2];simp[results,results32,go_sem,A,u,Qbw]) Z ⟨Z,⟨d.os,d.tape,d.output,d.size,d.block⟩⟩
 ·have d0:(c0 != 0)=true:=bne_iff_ne.2 h
  have E:Hid (c=c0/\a=a0):=by
   rcases t.out with ⟨-,b,S⟩|⟨b,-⟩
   ·exact⟨b,S⟩
   ·exact absurd b h
  have D:=Qc (l.out c0 a0);clear h l t;go_upto_region 3 with fail
  go_region
  all_goals
   go_wp2_with fail
   have s:=D.out;generalize (j.setCell ⟨Y,0,none⟩ (Iv c0)).setCell ⟨Y,1,none⟩ (Iv a0)=p at s |-;obtain⟨⟨B,z⟩,d⟩:=s
   have A:p.drew.cell? ⟨Y,0,none⟩=some (Iv c0):=B;have u:p.drew.cell? ⟨Y,1,none⟩=some (Iv a0):=z;exact Xy (v:=.tuple #[.pointer none,Qbw c a]) (by rw[E.out.1,E.out.2];simp[results,results32,go_sem,A,u,Qbw]) Z ⟨Z,⟨d.os,d.tape,d.output,d.size,d.block⟩⟩
theorem Qfv {ml:Nat}{fu pg c a c0 a0:Int}(q:∀ wx,Below w.heap.size w wx->Calls prog 66 #[.agg #[.slice pm ml cm]] wx fun e w'=>e=.returned (Qbw c0 a0)/\Below wx.heap.size wx w') (x:n<1152921504606846976) (j:Qej c0 a0 n fu pg c a) :
 Calls prog 30 #[.agg #[.slice pm ml cm],.slice pi n ci,Iv fu,Iv pg] w fun e w'=>e=.returned (Qjp c a)/\Below w.heap.size w w':=by
 have d:=((((Bxs.start w).new #[.slice pm ml cm] 24)).new #[Iv 0,Nv,Nv,Iv 0] 44).new #[Iv 0,Iv 0] 32;rw[World.size_alloc,World.size_alloc] at d
 have d:=Qc d;have k:Hid (∀ wx,Below w.heap.size w wx->Calls prog 32 #[.agg #[.slice pm ml cm],.slice pi n ci,Iv fu,Iv pg] wx fun e w'=>e=.returned (.tuple #[.pointer none,Qbw c a])/\Below wx.heap.size wx w'):=fun wx y=>QiI (fun I m=>q I (y.trans (m.mono y.size))) x j;have L:(c != 0)=true:=bne_iff_ne.2 j.ne;have P:decide (c=0)=false:=Xu j.ne;clear q x j;go_enter func30,ntmps30
 go_upto_region 1 with fail
 generalize ((w.alloc (.cells #[.slice pm ml cm] 24)).alloc (.cells #[Iv 0,Nv,Nv,Iv 0] 44)).alloc (.cells #[Iv 0,Iv 0] 32)=u at d |-;generalize w.heap.size+1+1=h at d |-;generalize w.heap.size+1=f at d |-;generalize w.heap.size=X at d |-;have k:=Qc (k.out u d.out.bel);have C:u.cell? ⟨X,0,none⟩=some (.slice pm ml cm):=d.out.cell (a:=[_,_]) 0 _ Z;go_upto_region 2 with (go_at_call 32;refine k.out.mono ?_;rintro R p ⟨rfl,r⟩)
 have b:=Qc ((d.out.below r).new #[Iv c,Iv a] 32);clear d k C r;generalize p.alloc (.cells #[Iv c,Iv a] 32)=l at b |-;generalize p.heap.size=F at b |-;have c0:l.cell? ⟨F,0,none⟩=some (Iv c):=b.out.cell (a:=[]) 0 _ Z;have K:l.cell? ⟨F,1,none⟩=some (Iv a):=b.out.cell (a:=[]) 1 _ Z;have Q:=b.out.cell (a:=[_,_]) 0 _ Z;have V:=b.out.cell (a:=[_,_]) 1 _ Z;have r2:=b.out.cell (a:=[_,_]) 2 _ Z;have r3:=b.out.cell (a:=[_,_]) 3 _ Z;have W:=b.out.free (a:=[_,_]) 0;have z1:=b.out.free (a:=[_,_]) 1;have M:=b.out.free (a:=[_,_]) 2;have U:=b.out.free (a:=[_,_]) 3;have S:=b.out.cell (a:=[_]) 0 _ Z;have O:=b.out.cell (a:=[_]) 1 _ Z;have T:=b.out.free (a:=[_]) 0;have N:=b.out.free (a:=[_]) 1;have o:¬ f=h:=fun e=>by have:=b.out.nd;simp[e] at this
 have s:¬ h=f:=fun e=>o e.symm;have H:¬ F=f:=fun e=>by have:=b.out.nd;simp[e] at this
 have J:¬ F=h:=fun e=>by have:=b.out.nd;simp[e] at this
 go_upto_region 3 with fail
 go_region
 all_goals
  go_wp2_with fail
  have t:=(((((b.out.set (a:=[_,_]) 0 (Iv 0)).set (a:=[_,_]) 1 (Nv)).set (a:=[_,_]) 2 (Nv)).set (a:=[_,_]) 3 (Iv 0)).set (a:=[_]) 0 (Iv c)).set (a:=[_]) 1 (Iv a);generalize ((((((l.setCell ⟨f,0,none⟩ (Iv 0)).setCell ⟨f,1,none⟩ (Nv)).setCell ⟨f,2,none⟩ (Nv)).setCell ⟨f,3,none⟩ (Iv 0)).setCell ⟨h,0,none⟩ (Iv c)).setCell ⟨h,1,none⟩ (Iv a))=i at t |-;have g:=t.drew;have D:i.drew.cell? ⟨f,0,none⟩=some (Iv 0):=g.cell (a:=[_,_]) 0 _ Z;have A:i.drew.cell? ⟨f,1,none⟩=some (Nv):=g.cell (a:=[_,_]) 1 _ Z;have z:i.drew.cell? ⟨f,2,none⟩=some (Nv):=g.cell (a:=[_,_]) 2 _ Z;have G:i.drew.cell? ⟨f,3,none⟩=some (Iv 0):=g.cell (a:=[_,_]) 3 _ Z;have E:i.drew.cell? ⟨h,0,none⟩=some (Iv c):=g.cell (a:=[_]) 0 _ Z;have B:i.drew.cell? ⟨h,1,none⟩=some (Iv a):=g.cell (a:=[_]) 1 _ Z;exact Xy (v:=Qjp c a) (by simp[results,results30,go_sem,D,A,z,G,E,B,Qbw]) Z ⟨Z,g.bel⟩
theorem Lay.flat {α:Type}{A:Lay α}{o:Nat}{l:List α}(h:A.list.In w O l [.slice (some ⟨g,o,none⟩) n c]) (d:∀ (x:α) (ds:List Value),A.In w O x ds->∀ u∈ds,u.oneCell'=true) :
 ∃ ds:List Value,ds.length=l.length*A.size/\(∀ (j:Nat) (u:Value),ds[j]?=some u->w.cell? ((⟨g,o,none⟩:Addr).add j)=some u)/\(∀ u∈ds,u.oneCell'=true)/\∀ (i:Nat) (x:α),l[i]?=some x->A.In w O x ((ds.drop (i*A.size)).take A.size):=by
 have r:∀ k,k<=l.length->∃ ds:List Value,ds.length=k*A.size/\(∀ (j:Nat) (u:Value),ds[j]?=some u->w.cell? ⟨g,o+j,none⟩=some u)/\(∀ u∈ds,u.oneCell'=true)/\∀ (i:Nat) (x:α),i<k->l[i]?=some x->A.In w O x ((ds.drop (i*A.size)).take A.size):=by
  intro k
  induction k with
  | zero=>exact fun _=>⟨[],by simp,fun j u a=>by simp at a,fun u b=>by simp at b,fun i x H=>by omega⟩
  | succ k ih =>
    intro L;obtain⟨ds,p,q,v,t⟩:=ih (by omega)
    obtain⟨x,m⟩:∃ x,l[k]?=some x:=⟨_,Zg (by omega)⟩
    obtain⟨J,K,z,e,_,_,I,B⟩:=Yf h m
    injection e with e
    injection e with e e2
    subst e;subst e2;have s:=A.len B;refine⟨ds++z,by rw[List.length_append,p,s,Nat.add_mul];omega,fun j u a=>?_,fun u b=>?_,fun i y H f=>?_⟩
    ·rw[List.getElem?_append] at a
     split at a
     ·exact q j u a
     ·rename_i F
      have E:j - ds.length<z.length:=(Zi a).1;have D:=I (j - ds.length) (by omega);rw[a] at D
      rw[<-D]
      congr 2
      omega
    ·rcases List.mem_append.1 b with b | b
     ·exact v u b
     ·exact d x z B u b
    ·by_cases C:i=k
     ·subst C;rw[m] at f
      injection f with f
      subst f;rw[List.drop_append,List.drop_of_length_le (by omega),p,Nat.sub_self,List.drop_zero,List.nil_append,XO (by omega)]
      exact B
     ·have G:(i+1)*A.size<=k*A.size:=Xp _ (by omega);rw[Nat.add_mul] at G
      rw[List.drop_append_of_le_length (by omega),List.take_append_of_le_length (by simp;omega)]
      exact t i y (by omega) f
 obtain⟨ds,p,q,v,t⟩:=r l.length Ze
 exact⟨ds,p,fun j u a=>by rw[Go.WideShapes.add_plain];exact q j u a,v,fun i x m=>t i x (Zi m).1 m⟩
theorem Qc3 {α:Type}{P:α->List Value->Prop}{l l2:List α}{xs:List Value}(b:xs.length=l.length*s)
 (f:∀ (i:Nat) (x:α),l[i]?=some x->P x ((xs.drop (i*s)).take s)) (e:∀ (i:Nat) (x:α),l2[i]?=some x->P x ((ds.drop (i*s)).take s)) :
 ∀ (i:Nat) (x:α),(l++l2)[i]?=some x->P x (((xs++ds).drop (i*s)).take s):=by
 intro i y a;rw[List.getElem?_append] at a
 split at a
 ·rename_i c
  have d:(i+1)*s<=l.length*s:=Xp _ c;rw[Nat.add_mul] at d
  rw[List.drop_append_of_le_length (by omega),List.take_append_of_le_length (by simp;omega)]
  exact f i y a
 ·rename_i c
  have d:l.length*s<=i*s:=Xp _ (by omega)
  have:=e (i - l.length) y a
  rw[Nat.sub_mul] at this
  rw[List.drop_append,List.drop_of_length_le (by omega),List.nil_append,b]
  exact this
theorem QeB {xs:List Value}(h:w.ownsRow 0 e s (.slice (some ⟨g,0,none⟩) N cap) N xs) (l:w'.heap[g]?=w.heap[g]?):w'.ownsRow 0 e s (.slice (some ⟨g,0,none⟩) N cap) N xs:=by
 obtain⟨d,f⟩:=h
 refine⟨d,?_⟩
 rcases f with k | ⟨m,c,b,i,a,j,r⟩
 ·exact .inl k
 ·injection i with e1 _ e2
  injection e1 with e1
  injection e1 with e1 _
  subst e1;subst e2;exact .inr ⟨g,cap,b,Z,a,l.trans j,r⟩
def TRq (w:World) (O Q:Nat->Prop) (v:Value) (L:List (TT 6)):Prop :=
 ∃ xs,w.ownsRow 0 105 3 v L.length xs/\(∀ g,v.ownBlock=some g->O g)/\∀ i x,L[i]?=some x->(Lay.tt 6).In w Q x ((xs.drop (i*3)).take 3)
section
variable {w w':World}{O O' Q Q':Nat->Prop}{v:Value}{L:List (TT 6)}
theorem TRq.keep (h:TRq w O Q v L) (c:∀ k,k<w.heap.size->v.ownBlock=some k\/Q k->w'.heap[k]?=w.heap[k]?) (o:∀ k,v.ownBlock=some k->O' k) (m:∀ k,Q k->k<w.heap.size->Q' k):TRq w' O' Q' v L:=by
 obtain⟨p,⟨j,l⟩,u,n⟩:=h
 refine⟨p,⟨j,?_⟩,o,fun i x f=>(Lay.tt 6).keep (fun k s q=>c k q (.inr s)) m (n i x f)⟩
 rcases l with e | ⟨g,a,b,rfl,t,d,r⟩
 ·exact Or.inl e
 ·exact Or.inr ⟨g,a,b,Z,t,(c g (XC d) (.inl Z)).trans d,r⟩
theorem TRq.own (h:TRq w O Q v L)(b:v.ownBlock=some g):O g:=by
 obtain⟨e,d,a,c⟩:=h
 exact a g b
theorem TRq.block (h:TRq w O Q v L)(b:v.ownBlock=some g):∃ c,w.heap[g]?=some (.cells c 105 (0,0)):=by
 obtain⟨l,⟨i,d⟩,j,k⟩:=h
 rcases d with ⟨rfl,_⟩|⟨m,e,a,rfl,_,f,r⟩
 ·simp[Value.ownBlock] at b
 ·simp[Value.ownBlock] at b;subst b;exact⟨a,f⟩
theorem TRq.lt (h:TRq w O Q v L)(b:v.ownBlock=some g):g<w.heap.size:=by
 obtain⟨c,a⟩:=h.block b
 exact XC a
theorem TRq.form (h:TRq w O Q v L):∃ a cap,v=.slice a L.length cap/\L.length<=cap/\TRd w Q a L/\∃ xs,w.ownsRow 0 105 3 (.slice a L.length cap) L.length xs:=by
 obtain⟨xs,d,D,n⟩:=h
 obtain⟨B,m⟩:=id d
 rcases m with ⟨rfl,k⟩|⟨g,cap,y,rfl,_,q,x,C,E,p⟩
 ·have:L=[]:=Xf.1 k
  subst this;exact⟨none,0,Z,Ze,fun i t b=>by simp at b,xs,d⟩
 ·refine⟨some ⟨g,0,none⟩,cap,Z,x,fun i t b=>?_,xs,d⟩
  obtain⟨s,A,e,r,l⟩:=n i t b
  have z:i<L.length:=(Zi b).1
  have c:∀ j u,j<3->((xs.drop (i*3)).take 3)[j]?=some u->w.cell? ⟨g,i*3+j,none⟩=some u:=fun j u o f=>by
   rw[XR,Xs o,List.getElem?_drop,<-p,XR,Xs (by omega),Array.getElem?_toList] at f
   exact Qb q _ u f
  rw[e] at c
  exact⟨g,s,A,Z,c 0 _ (by omega) Z,c 1 _ (by omega) Z,c 2 _ (by omega) Z,r,l⟩
end
abbrev QeO (c:Int):List PanicEntry:=[{ v:=.iface 304 (Iv c),recovered:=false }]
def SAt (w:World) (b:Nat) (O A:Nat->Prop) (s:JSt):Prop :=
 ∃ pm cm h a1 c1 a2 c2 a3 c3 vL,w.heap[b]?=some (.cells #[.slice pm s.m.length cm,Pv h 0,Iv s.f.regs,.slice a1 s.f.params.length c1,.slice a2 s.f.results.length c2,.slice a3 s.f.blocks.length c3,vL] 279 (0,0)) /\
  (QaN 6).In w (fun g=>¬ A g) s.m [.slice pm s.m.length cm]/\(ZS 6).In w (fun g=>¬ A g) s.f [Iv s.f.regs,.slice a1 s.f.params.length c1,.slice a2 s.f.results.length c2,.slice a3 s.f.blocks.length c3] /\
  (Qp w h s.H/\O h)/\TRq w O (fun g=>¬ A g) vL s.L/\O b/\∀ k,O k->A k
structure SRd (w:World) (b:Nat) (A:Nat->Prop) (s:JSt) (pm:Option Addr) (cm h:Nat) (a1:Option Addr) (c1:Nat) (a2:Option Addr) (c2:Nat) (a3:Option Addr) (c3:Nat) (aL:Option Addr) (cL:Nat):Prop where
 blk:w.heap[b]?=some (.cells #[.slice pm s.m.length cm,Pv h 0,Iv s.f.regs,.slice a1 s.f.params.length c1,.slice a2 s.f.results.length c2,.slice a3 s.f.blocks.length c3,.slice aL s.L.length cL] 279 (0,0))
 mod:(QaN 6).In w (fun g=>¬ A g) s.m [.slice pm s.m.length cm]
 fn:(ZS 6).In w (fun g=>¬ A g) s.f [Iv s.f.regs,.slice a1 s.f.params.length c1,.slice a2 s.f.results.length c2,.slice a3 s.f.blocks.length c3]
 held:Qp w h s.H
 row:TRd w (fun g=>¬ A g) aL s.L
 le:s.L.length<=cL
section
variable {w w':World}{b:Nat}{O O' A A':Nat->Prop}{s:JSt}
theorem SAt.keep (h:SAt w b O A s) (c:∀ k,k<w.heap.size->O k\/¬ A k->w'.heap[k]?=w.heap[k]?) (l:∀ k,O k->k<w.heap.size->O' k) (j:∀ k,¬ A k->k<w.heap.size->¬ A' k) (x:∀ k,O' k->A' k):SAt w' b O' A' s:=by
 obtain⟨z,B,g,r,p,t,v,u,y,C,i,q,D,⟨m,n⟩,f,o,E⟩:=h
 refine⟨z,B,g,r,p,t,v,u,y,C,(c b (XC i) (.inl o)).trans i,(QaN 6).keep (fun k a d=>c k d (.inr a)) j q,(ZS 6).keep (fun k a d=>c k d (.inr a)) j D,
  ⟨m.keep (c g m.lt (.inl n)),l g n m.lt⟩,f.keep (fun k d a=>c k d (a.imp (fun e=>f.own e) id)) (fun k a=>l k (f.own a) (f.lt a)) j,l b o (XC i),x⟩
theorem SAt.below (h:SAt w b O A s) (k:Below w.heap.size w w'):SAt w' b O A s:=by
 have d:∀ k,O k->A k:=by obtain⟨r,t,n,j,e,l,p,m,q,x,o,f,z,⟨y,u⟩,i,v,a⟩:=h;exact a
 exact h.keep (fun g c _=>k.block g c) (fun _ h _=>h) (fun _ h _=>h) d
theorem SAt.sub (h:SAt w b O A s):∀ k,O k->A k:=by obtain⟨l,m,j,t,d,v,r,i,f,c,q,e,u,⟨g,n⟩,o,p,a⟩:=h;exact a
theorem SAt.read (h:SAt w b O A s):∃ pm cm h a1 c1 a2 c2 a3 c3 aL cL,SRd w b A s pm cm h a1 c1 a2 c2 a3 c3 aL cL:=by
 obtain⟨pm,cm,e,a1,c1,a2,c2,a3,c3,k,f,c,i,⟨d,m⟩,g,n,l⟩:=h
 obtain⟨aL,cL,rfl,a,j,_⟩:=g.form
 exact⟨pm,cm,e,a1,c1,a2,c2,a3,c3,aL,cL,f,c,i,d,j,a⟩
variable {pm:Option Addr}{cm h:Nat}{a1:Option Addr}{c1:Nat}{a2:Option Addr}{c2:Nat}{a3:Option Addr}{c3:Nat}{aL:Option Addr}{cL:Nat}
theorem SRd.below (k:SRd w b A s pm cm h a1 c1 a2 c2 a3 c3 aL cL) (e:Below w.heap.size w w'):SRd w' b A s pm cm h a1 c1 a2 c2 a3 c3 aL cL :=
 ⟨(e.block b (XC k.blk)).trans k.blk,Ya k.mod e,Ya k.fn e,k.held.below e,k.row.below e,k.le⟩
theorem SRd.cells (k:SRd w b A s pm cm h a1 c1 a2 c2 a3 c3 aL cL) :
 w.cell? ⟨b,0,none⟩=some (.slice pm s.m.length cm)/\w.cell? ⟨b,1,none⟩=some (Pv h 0)/\w.cell? ⟨b,2,none⟩=some (Iv s.f.regs)/\w.cell? ⟨b,3,none⟩=some (.slice a1 s.f.params.length c1)/\w.cell? ⟨b,4,none⟩=some (.slice a2 s.f.results.length c2)/\w.cell? ⟨b,5,none⟩=some (.slice a3 s.f.blocks.length c3)/\w.cell? ⟨b,6,none⟩=some (.slice aL s.L.length cL) :=
 ⟨Qb k.blk 0 _ Z,Qb k.blk 1 _ Z,Qb k.blk 2 _ Z,Qb k.blk 3 _ Z,Qb k.blk 4 _ Z,Qb k.blk 5 _ Z,Qb k.blk 6 _ Z⟩
end
def STo (wA w:World) (b:Nat) (O A:Nat->Prop) (s:JSt):Prop :=
 ∃ N:Nat->Prop,(∀ k,N k->wA.heap.size<=k/\k<w.heap.size)/\SAt w b (fun k=>O k\/N k) (fun k=>A k\/N k) s/\Qz O (fun k=>O k\/N k) wA w
section
variable {w wA wB:World}{b:Nat}{O A:Nat->Prop}{s s':JSt}
theorem STo.same (h:SAt w b O A s):STo w w b O A s :=
 ⟨fun _=>False,fun _ h=>h.elim,h.keep (fun _ _ _=>rfl) (fun _ h _=>.inl h) (fun _ h _=>by simpa using h) (fun k a=>a.imp (h.sub k) id),⟨Z,Z,Z,Ze,fun _ _ _=>rfl,fun k a=>.inl (by simpa using a)⟩⟩
theorem STo.after (h:STo wA w b O A s) (a:Below wB.heap.size wB wA):STo wB w b O A s:=by
 obtain⟨N,f,i,c⟩:=h
 have:=a.size
 exact⟨N,fun k d=>⟨Zt a.size (f k d).1,(f k d).2⟩,i,⟨c.os.trans a.os,c.tape.trans a.tape,c.output.trans a.output,Zt a.size c.size,fun k d g=>(c.block k (by omega) g).trans (a.block k d),fun k d=>(c.own k d).imp id fun e=>Zt a.size e⟩⟩
theorem STo.join {N:Nat->Prop}(f:∀ k,N k->wA.heap.size<=k/\k<w.heap.size) (c:Qz O (fun k=>O k\/N k) wA w) (g:STo w wB b (fun k=>O k\/N k) (fun k=>A k\/N k) s'):STo wA wB b O A s':=by
 obtain⟨M,i,l,d⟩:=g
 have j:=c.size;have m:=d.size;refine⟨fun k=>N k\/M k,fun k a=>?_,?_,?_⟩
 ·rcases a with a | a
  ·have:=f k a;omega
  ·have:=i k a;omega
 ·exact l.keep (fun _ _ _=>rfl) (fun k a _=>by simpa[or_assoc] using a) (fun k a _=>by simpa[or_assoc,not_or,and_assoc] using a) (fun k a=>by have:=l.sub k (by simpa[or_assoc] using a);simpa[or_assoc] using this)
 ·refine⟨d.os.trans c.os,d.tape.trans c.tape,d.output.trans c.output,Zt j m,fun k a h=>(d.block k (by omega) (fun e=>?_)).trans (c.block k a h),fun k a=>?_⟩
  ·rcases e with e | e
   ·exact h e
   ·have:=f k e;omega
  ·rcases a with a | a | a
   ·exact .inl a
   ·exact .inr (f k a).1
   ·exact .inr (Zt j (i k a).1)
theorem SAt.setH (L:∀ k,A k->k<w.heap.size) (h:SAt w b O A s):∃ hh,w.cell? ⟨b,1,none⟩=some (Pv hh 0)/\Qp w hh s.H/\∀ w' H',Qp w' hh H'->Qz (fun k=>k=hh) (fun k=>k=hh) w w'->STo w w' b O A { s with H:=H' }:=by
 obtain⟨B,C,hh,u,r,v,y,x,z,F,i,t,J,⟨p,n⟩,j,E,o⟩:=h
 refine⟨hh,Qb i 1 _ Z,p,fun w' H' I d=>?_⟩
 obtain⟨K,f⟩:∃ c,w.heap[hh]?=some (.cells c 303 (0,0)):=by
  obtain⟨-,q⟩:=p
  obtain⟨c,q,-⟩:=q
  exact⟨c,q⟩
 have l:b≠hh:=Q8 i f (by decide);have m:∀ k,¬ A k->k≠hh:=fun k a e=>a (by subst e;exact o _ n)
 refine⟨fun _=>False,fun _ h=>h.elim,⟨B,C,hh,u,r,v,y,x,z,F,(d.block b (XC i) l).trans i,(QaN 6).keep (fun k a g=>d.block k g (m k a)) (fun _ h _=>by simpa using h) t,(ZS 6).keep (fun k a g=>d.block k g (m k a)) (fun _ h _=>by simpa using h) J,
  ⟨I,.inl n⟩,j.keep (fun k g a=>d.block k g ?_) (fun k a=>.inl (j.own a)) (fun _ h _=>by simpa using h),.inl E,fun k a=>a.imp (o k) id⟩,⟨d.os,d.tape,d.output,d.size,fun k a G=>d.block k a (fun e=>G (by subst e;exact n)),fun k a=>.inl (by simpa using a)⟩⟩
 rcases a with a | a
 ·obtain⟨c,D⟩:=j.block a
  exact Q8 D f (by decide)
 ·exact m k a
theorem SAt.pushL (hA:∀ k,A k->k<wA.heap.size) (h:SAt wA b O A s):∃ aL cL xs,wA.cell? ⟨b,6,none⟩=some (.slice aL s.L.length cL)/\wA.frozen? ⟨b,6,none⟩=false/\s.L.length<=cL/\wA.ownsRow 0 105 3 (.slice aL s.L.length cL) s.L.length xs /\
 ∀ w9 g cap2 (l:List (TT 6)) ds,ds.length=l.length*3->w9.ownsRow 0 105 3 (.slice (some ⟨g,0,none⟩) (s.L.length+l.length) cap2) (s.L.length+l.length) (xs++ds)->wA.grownBy w9 (Value.slice aL s.L.length cL).ownBlock->((Value.slice aL s.L.length cL).ownBlock=some g\/g=wA.heap.size)->g<w9.heap.size ->
  (∀ i x,l[i]?=some x->(Lay.tt 6).In wA (fun g=>¬ A g) x ((ds.drop (i*3)).take 3)) ->
  w9.cell? ⟨b,6,none⟩=some (.slice aL s.L.length cL)/\w9.frozen? ⟨b,6,none⟩=false/\STo wA (w9.setCell ⟨b,6,none⟩ (.slice (some ⟨g,0,none⟩) (s.L.length+l.length) cap2)) b O A { s with L:=s.L++l }:=by
 obtain⟨pm,cm,u,X,R,a2,c2,a3,c3,vL,o,S,k3,⟨M,k5⟩,r,J,F⟩:=h
 obtain⟨aL,cL,rfl,z,-,-⟩:=r.form
 have t:∀ {j},(Value.slice aL s.L.length cL).ownBlock=some j->O j/\∃ c,wA.heap[j]?=some (.cells c 105 (0,0)):=fun {j} d=>⟨r.own d,r.block d⟩;obtain⟨xs,I,q2,q3⟩:=r
 obtain⟨ch,n⟩:∃ c,wA.heap[u]?=some (.cells c 303 (0,0)):=by
  obtain⟨-,q⟩:=M
  obtain⟨c,q,-⟩:=q
  exact⟨c,q⟩
 have E:=XC o;have w:=XC n
 have p:∀ j,(Value.slice aL s.L.length cL).ownBlock=some j->b≠j:=fun j d=>by
  obtain⟨c,hc⟩:=(t d).2
  exact Q8 o hc (by decide)
 refine⟨aL,cL,xs,Qb o 6 _ Z,Qj o 6,z,I,fun w9 g cap2 l ds aa U m H W Q=>?_⟩
 have T:=m.size;have B:=(m.block b E (fun e=>p b e.symm Z)).trans o
 have D:b≠g:=by
  rcases H with h | h
  ·exact p g h
  ·omega
 have f:∀ k,¬ A k->k<wA.heap.size->¬ (A k\/(wA.heap.size<=k/\k<w9.heap.size)):=fun k a N e=>by rcases e with e | e;exact a e;omega
 have G:Qz O (fun x=>O x\/(wA.heap.size<=x/\x<w9.heap.size)) wA (w9.setCell ⟨b,6,none⟩ (.slice (some ⟨g,0,none⟩) (s.L.length+l.length) cap2)):=by
  refine⟨m.os,m.tape,m.output,by simp;omega,fun k a K=>?_,fun k a=>a.imp id fun h=>h.1⟩
  rw[Xd _ _ _ _ (fun e=>K (by subst e;exact J)),m.block k a (fun e=>K (t e.symm).1)]
 have v:∀ k,¬ A k->k<wA.heap.size->(w9.setCell ⟨b,6,none⟩ (.slice (some ⟨g,0,none⟩) (s.L.length+l.length) cap2)).heap[k]?=wA.heap[k]?:=fun k a N=>G.block k N (fun e=>a (F k e));refine⟨Qb B 6 _ Z,Qj B 6,fun x=>wA.heap.size<=x/\x<w9.heap.size,fun k a=>by rw[World.size_setCell];exact a,⟨pm,cm,u,X,R,a2,c2,a3,c3,.slice (some ⟨g,0,none⟩) (s.L.length+l.length) cap2,?_,(QaN 6).keep v f S,(ZS 6).keep v f k3,⟨M.keep ?_,.inl k5⟩,?_,.inl J,fun k a=>a.imp (F k) id⟩,G⟩
 ·rw[Qh B];rfl
 ·rw[Xd _ _ _ _ (show u≠b from Q8 n o (by decide)),m.block u w (fun e=>by obtain⟨c',y⟩:=(t e.symm).2;exact Q8 n y (by decide) Z)]
 ·refine⟨xs++ds,?_,fun k a=>?_,?_⟩
  ·rw[List.length_append]
   exact QeB U (Xd _ _ _ _ (show g≠b from fun e=>D e.symm))
  ·simp[Value.ownBlock] at a
   subst a;rcases H with h | h
   ·exact .inl (t h).1
   ·exact .inr ⟨by omega,W⟩
  ·refine Qc3 (s:=3) (P:=fun x V=>(Lay.tt 6).In _ _ x V) I.1 (fun i x C=>?_) (fun i x C=>?_)
   ·exact(Lay.tt 6).keep v f (q3 i x C)
   ·exact(Lay.tt 6).keep v f (Q i x C)
theorem SAt.same6 {v:Value}(h:SAt w b O A s) (d:w.cell? ⟨b,6,none⟩=some v) (k:Nat):(w.setCell ⟨b,6,none⟩ v).heap[k]?=w.heap[k]?:=by
 obtain⟨m,n,l,p,g,q,o,j,i,f,a,-⟩:=h
 have e:=(Qb a 6 _ Z).symm.trans d;simp only[Option.some.injEq] at e
 by_cases c:k=b
 ·subst c;rw[Qh a,a,<-e];rfl
 ·exact Xd _ _ _ _ c
end
end Go.Proofs.YtjhdpajpibdnaafGreat
