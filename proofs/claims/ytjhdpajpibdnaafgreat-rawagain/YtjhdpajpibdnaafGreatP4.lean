import Derived.Test.YtjhdpajpibdnaafGreatP3
import Derived.Deep.Upon
import Derived.SizedLaws
set_option maxHeartbeats 16000000
set_option maxRecDepth 100000
namespace Go.Proofs.YtjhdpajpibdnaafGreat
open Go.ChangeShapes Go.WideShapes Go.ChangeAt Go.RowKit _root_.Go.Proofs.Tryz
set_option linter.unusedSimpArgs false
set_option linter.unusedVariables false
variable {w w' w6 w1 w2:World}{n b c k m rc ac X j B i cm g N d f fi cap bp q R pages id bi cc funcs s ci rl al ca ri vl most cR cA G:Nat}{O Q O':Nat→Prop}{l xs regs inp:List Int}{p a rg ag pm pi pa pR pA ra aa:Option Addr}{t e:TypeId}{v:Value}{P:Program}{L bs:List Bool}{x ya xc xk fr xa xb xn yb:Int}{ds cs:List Value}{ops:Array Oper}
theorem WIn.cells {w:World}(h:WIn w O l (.slice p n c)):∀ i,i<l.length->∃ g o,p=some ⟨g,o,none⟩/\w.cell? ⟨g,o+i,none⟩=some (Iv (l.getD i 0)):=fun i b=>by
 obtain⟨q,d,e,h⟩:=h
 cases e
 obtain⟨k,o,a,-,-,f⟩:=h i b
 exact⟨k,o,a,f⟩
def QnA (w6:World) (Z cb co:Nat) (pb po:Option Addr) (lb lo:List Int) (t:Tmp) (v:Value) (w:World):Prop :=
 match ([(10,Qjf w6.heap.size lb),(13,Qjf w6.heap.size lo)]:List (Tmp × (Value->World->Prop))).lookup t with
 | some p=>p v w
 | none=>v=(([(3,.pointer (some ⟨Z,0,none⟩)),(8,.pointer (some ⟨Z,1,none⟩)),(9,.slice pb lb.length cb),(11,.pointer (some ⟨Z,2,none⟩)),(12,.slice po lo.length co),(14,.pointer (some ⟨Z,1,none⟩))]:List (Tmp × Value)).lookup t).getD undef
theorem wo2 {Z r k:Nat}{u o:Option Addr}{i lo:List Int}(E:w6.cell? ⟨Z,1,none⟩=some (.slice u i.length r)) (H:w6.cell? ⟨Z,2,none⟩=some (.slice o lo.length k)) (F:Hid (∀ wx,Below w6.heap.size w6 wx->Calls prog 48 #[.slice u i.length r] wx fun e w'=>Qcn wx i e w')) (G:Hid (∀ wx,Below w6.heap.size w6 wx->Calls prog 48 #[.slice o lo.length k] wx fun e w'=>Qcn wx lo e w')){Q:Exit->Act->World->Prop}
 (a:Act) (m:Nat) (C:a.tmps.size=m) (s:17<=m) (f:a.tmps.getD 3 undef=Pv Z 0)
 (hend:∀ ops vs w',(Qjf w6.heap.size i) (vs 10) w'->(Qjf w6.heap.size lo) (vs 13) w'->vs 14=Pv Z 1->Below w6.heap.size w6 w'->wpList prog ops Q (Qan 7 ((Tryz.f37.body.bind (Qi 2)).getD .skip)) (QM a vs [8,9,10,11,12,13,14]) w') :
 Code.wp prog ((Tryz.f37.body.bind (Qi 2)).getD .skip) Q a w6:=by
 conv=>arg 2;whnf
 refine Qg 7 (QnA w6 Z r k u o i lo) (fun w=>Below w6.heap.size w6 w) (fun w w'=>Below w.heap.size w w') (outs:=[3]) (gs:=[]) (bs:=[true,true,true,true,true,true,true]) (by kernel_rfl) (n:=17) C s (by kernel_rfl) (by kernel_rfl) ?hR ?hG (QI Zr 1) ⟨f,Y⟩ ?hA ?hend
 case hR =>
  intro t v w w' B h;unfold QnA at h |-;split at h
  ·rename_i p d
   simp only[List.lookup_cons,List.lookup_nil] at d
   split at d
   ·cases d;exact h.below B
   ·split at d
    ·cases d;exact h.below B
    ·cases d
  ·exact h
 case hG=>exact Y
 case hend=>exact fun ops vs w' b c=>hend ops vs w' (c 10 (by kernel_rfl)) (c 13 (by kernel_rfl)) (c 14 (by kernel_rfl)) b
 case hA =>
  repeat
   refine⟨fun a w b c K z=>?_,?_⟩
   focus first
    | obtain⟨j,-⟩:=c
      conv at j=>whnf;rhs;whnf
      have J:=Qk E b;have L:=Qk H b;go_simp;exact z _ _ Zr b Yz
    | obtain⟨j,-⟩:=c
      conv at j=>whnf;rhs;whnf
      go_simp;refine Xm (F.out w b) ?_;rintro D I ⟨A,q,rfl,l,y,f,g⟩;go_simp;exact z _ _ g (b.trans (g.mono b.size)) ⟨A,q,Yz,l,y,fun x hx=>Zt b.size (f x hx)⟩
    | obtain⟨j,-⟩:=c
      conv at j=>whnf;rhs;whnf
      go_simp;refine Xm (G.out w b) ?_;rintro D I ⟨A,q,rfl,l,y,f,g⟩;go_simp;exact z _ _ g (b.trans (g.mono b.size)) ⟨A,q,Yz,l,y,fun x hx=>Zt b.size (f x hx)⟩
  trivial
section
variable {w w' w2:World}{b most:Nat}{m:List (MFunc 6)}{M M':RM}{g g1:WG}
def QjI (lo:Nat) (M:RM) (v:Value) (w:World):Prop:=∃ vb vo,v=.agg #[Iv M.fin,vb,vo,Iv M.fuel]/\Qjf lo M.back vb w/\Qjf lo M.out vo w
theorem Qcp (S:WAt w b most m M g) (ho:M.out.length<=1000000) (hb:M.back.length<=1000000) :
 Calls prog 37 #[Pv b 0] w fun e w'=>∃ v,e=.returned v/\QjI w.heap.size M v w'/\Below w.heap.size w w':=by
 obtain⟨po,co,eo⟩:=QaZ S.out
 obtain⟨pb,cb,eb,-⟩:=S.back
 have L:=Qc (ZP w (.cells #[Iv 0,Nv,Nv,Iv 0] 44));have BR:=Qc (Qe w #[Iv 0,Nv,Nv,Iv 0] 44);have z:=S.below L.out;have q5:=Qb z.box 5 _ Yz;have q6:(w.alloc (.cells #[Iv 0,Nv,Nv,Iv 0] 44)).cell? ⟨b,6,none⟩=some g.vb:=Qb z.box 6 _ Yz;have q7:(w.alloc (.cells #[Iv 0,Nv,Nv,Iv 0] 44)).cell? ⟨b,7,none⟩=some g.vo:=Qb z.box 7 _ Yz;have q8:=Qb z.box 8 _ Yz;rw[eb] at q6
 rw[eo] at q7
 have HB:=Qc z.back;have HO:=Qc z.out;rw[eb] at HB
 rw[eo] at HO
 clear S z eo eb;go_enter func37,ntmps37
 go_upto_region 1 with fail
 generalize w.alloc (.cells #[Iv 0,Nv,Nv,Iv 0] 44)=I at L BR q5 q6 q7 q8 HB HO |-;generalize hR:w.heap.size=R at BR |-;have HR:=Qc hR;clear hR;have K:=Qc (ZP I (.cells #[Iv M.fin,.slice pb M.back.length cb,.slice po M.out.length co,Iv M.fuel] 44));have G:=Qc (Qe I #[Iv M.fin,.slice pb M.back.length cb,.slice po M.out.length co,Iv M.fuel] 44);go_upto_region 2 with fail
 have A:Hid (R≠I.heap.size):=by show _≠_;have:=XC BR.out;omega
 have E:Hid (w.heap.size<=I.heap.size):=L.out.size;generalize I.alloc (.cells #[Iv M.fin,.slice pb M.back.length cb,.slice po M.out.length co,Iv M.fuel] 44)=J at K G |-;generalize I.heap.size=Z at G A E |-;have CB:Hid (∀ r,Below J.heap.size J r->Calls prog 48 #[.slice pb M.back.length cb] r fun e w'=>Qcn r M.back e w'):=fun r bx=>QcH (WIn.cells (WIn.keep (fun k _ f=>bx.block k f) (fun _ h _=>h) (WIn.keep (fun k _ f=>K.out.block k f) (fun _ h _=>h) HB.out))) hb;have CO:Hid (∀ r,Below J.heap.size J r->Calls prog 48 #[.slice po M.out.length co] r fun e w'=>Qcn r M.out e w'):=fun r bx=>QcH (WIn.cells (WIn.keep (fun k _ f=>bx.block k f) (fun _ h _=>h) (WIn.keep (fun k _ f=>K.out.block k f) (fun _ h _=>h) (HO.out.lin (O:=fun _=>True) (fun _ _=>trivial))))) ho;have H:=Qc (L.out.trans (K.out.mono L.out.size));have Q:=Qc (Blk.below BR.out K.out);refine wo2 (Qb G.out 1 _ Yz) (Qb G.out 2 _ Yz) CB CO _ _ Yz (Xg (by kernel_rfl)) Yz ?_;rintro ae vs o ⟨i,j,u,T,N,W⟩ ⟨l,a,y,U,aa,P⟩ s b5;show wpList _ ae _ [_,_,_] (QM _ vs [8,9,10,11,12,13,14]) o;simp only[QM,Act.put,List.setIfInBounds_toArray,List.set_cons_zero,List.set_cons_succ,u,y,s]
 have c:=Blk.below G.out b5;have af:=Qc (Blk.below Q.out b5);have B5:=Qc (H.out.trans (b5.mono H.out.size));have ad:Hid (Z<J.heap.size):=XC G.out;have F:=Qc (Xh N W);have C:=Qc (Xh aa P);have X:=Qc (Xh T U);have k0:=Qb c 0 _ Yz;have k1:=Qb c 1 _ Yz;have k2:=Qb c 2 _ Yz;have k3:=Qb c 3 _ Yz;have y0:=Qj c 0;have y1:=Qj c 1;have y2:=Qj c 2;have y3:=Qj c 3;have D:=Qh (Qh c 1 (.slice i M.back.length j)) 2 (.slice l M.out.length a);have D:Hid (((o.setCell ⟨Z,1,none⟩ (.slice i M.back.length j)).setCell ⟨Z,2,none⟩ (.slice l M.out.length a)).heap[Z]?=some (.cells #[Iv M.fin,.slice i M.back.length j,.slice l M.out.length a,Iv M.fuel] 44 (0,0))):=D.trans (by simp);have B:Hid (∀ k,k≠Z->((o.setCell ⟨Z,1,none⟩ (.slice i M.back.length j)).setCell ⟨Z,2,none⟩ (.slice l M.out.length a)).heap[k]?=o.heap[k]?):=fun k f=>by rw[Xd _ _ _ _ f,Xd _ _ _ _ f]
 have ag:Hid (o.heap.size=((o.setCell ⟨Z,1,none⟩ (.slice i M.back.length j)).setCell ⟨Z,2,none⟩ (.slice l M.out.length a)).heap.size):=by show _=_;simp
 have V:Hid (Below w.heap.size w ((o.setCell ⟨Z,1,none⟩ (.slice i M.back.length j)).setCell ⟨Z,2,none⟩ (.slice l M.out.length a))):=(B5.out.setCell (p:=⟨Z,1,none⟩) E.out _).setCell (p:=⟨Z,2,none⟩) E.out _;clear u y s T N W U aa P b5 CB CO c G q5 q6 q7 q8 HB HO L K;go_upto_region 3 with fail
 generalize (o.setCell ⟨Z,1,none⟩ (.slice i M.back.length j)).setCell ⟨Z,2,none⟩ (.slice l M.out.length a)=w6 at D B ag V |-;clear k0 k1 k2 k3 y0 y1 y2 y3;have d:=Qc ((B.out R A.out).trans af.out);have e0:=Qb D.out 0 _ Yz;have e1:=Qb D.out 1 _ Yz;have e2:=Qb D.out 2 _ Yz;have e3:=Qb D.out 3 _ Yz;have r0:=Qb d.out 0 _ Yz;have r1:=Qb d.out 1 _ Yz;have r2:=Qb d.out 2 _ Yz;have r3:=Qb d.out 3 _ Yz;have z0:=Qj d.out 0;have z1:=Qj d.out 1;have z2:=Qj d.out 2;have z3:=Qj d.out 3;have ah:¬ R=Z:=A.out;go_wp2_with fail
 have X9:=Qjq d.out (Iv M.fin) (.slice i M.back.length j) (.slice l M.out.length a) (Iv M.fuel);have q:w.heap.size<=R:=by rw[HR.out];exact Ze
 have B9:=(((V.out.setCell (p:=⟨R,0,none⟩) q (Iv M.fin)).setCell (p:=⟨R,1,none⟩) q (.slice i M.back.length j)).setCell (p:=⟨R,2,none⟩) q (.slice l M.out.length a)).setCell (p:=⟨R,3,none⟩) q (Iv M.fuel);have O9:∀ k,k≠R->((((w6.setCell ⟨R,0,none⟩ (Iv M.fin)).setCell ⟨R,1,none⟩ (.slice i M.back.length j)).setCell ⟨R,2,none⟩ (.slice l M.out.length a)).setCell ⟨R,3,none⟩ (Iv M.fuel)).heap[k]?=w6.heap[k]?:=fun k f=>by rw[Xd _ _ _ _ f,Xd _ _ _ _ f,Xd _ _ _ _ f,Xd _ _ _ _ f]
 generalize ((((w6.setCell ⟨R,0,none⟩ (Iv M.fin)).setCell ⟨R,1,none⟩ (.slice i M.back.length j)).setCell ⟨R,2,none⟩ (.slice l M.out.length a)).setCell ⟨R,3,none⟩ (Iv M.fuel))=w9 at X9 B9 O9 |-
 have n:∀ x,J.heap.size<=x->w9.heap[x]?=o.heap[x]?:=fun x t=>by
  have h1:=ad.out;have h2:=XC Q.out;exact(O9 x (by omega)).trans (B.out x (by omega))
 have f0:=Qb X9 0 _ Yz;have f1:=Qb X9 1 _ Yz;have f2:=Qb X9 2 _ Yz;have f3:=Qb X9 3 _ Yz;have ac:=H.out.size;exact Xy (v:=.agg #[Iv M.fin,.slice i M.back.length j,.slice l M.out.length a,Iv M.fuel]) (by simp[results,results37,go_sem,f0,f1,f2,f3]) Yz ⟨_,Yz,⟨_,_,Yz,⟨i,j,Yz,X.out.1,Q0 F.out.1 (fun x t=>n x (F.out.2 x t)),fun x t=>Zt ac (F.out.2 x t)⟩,⟨l,a,Yz,X.out.2,Q0 C.out.1 (fun x t=>n x (C.out.2 x t)),fun x t=>Zt ac (C.out.2 x t)⟩⟩,B9⟩
end
def Qhs {α:Type}(A:Lay α) (w w':World) (l:List α) (e:Ending):Prop:=∃ a' c',e=.returned (.slice a' l.length c')/\A.list.In w' (Qcs w.heap.size) l [.slice a' l.length c']/\Below w.heap.size w w'
def iv (l:List Int):List Value:=l.map (fun x=>Value.int .i64 x)
theorem QkA {lo:Nat}(h:w.ownsRow lo e 1 v l.length (iv l)) (b:∀ x∈l,I64 x):intsL.In w (Qcs lo) l [v] :=
 Qap.lay (A:=Lay.int) (e:=e) (xs:=iv l) ⟨h,fun i x a=>by
  have c:Lay.int.size=1:=rfl;rw[c,XL]
  have f:((iv l).drop i).take 1=[Iv x]:=by
   obtain⟨d,e⟩:=Zi a
   unfold iv;rw[<-List.map_drop,List.drop_eq_getElem_cons d]
   simp[e]
  rw[f]
  exact⟨Z,b x (Zm a)⟩⟩
theorem Qj2 (h:intsL.In w O l [.slice a m c]):∀ x∈l,I64 x:=by
 intro x e;obtain⟨i,d⟩:=List.mem_iff_getElem?.1 e
 obtain⟨g,o,f,_,_,_,_,b⟩:=Yf h d
 exact b.2
theorem Qj0 (h:intsL.In w O l [.slice a m c]) (n:0<l.length) :
 ∃ ad,a=some ad/\ad.block<w.heap.size/\∀ j v,(iv l)[j]?=some v->w.cell? (ad.add j)=some v:=by
 obtain⟨g,o,e,_,d,_⟩:=ZH h n
 refine⟨⟨g,o,none⟩,e,d,fun j v i=>?_⟩
 have b:j<l.length:=by have:=(Zi i).1;simpa[iv] using this
 obtain⟨q,p,f,_,_,k⟩:=ZH h b
 rw[e] at f
 cases f
 rw[show (⟨g,o,none⟩:Addr).add j=⟨g,o+j,none⟩ from by unfold Addr.add;split<;>simp_all,k,<-i]
 simp[iv,List.getD,b]
theorem QcG (l:List Int):(iv l).length=l.length:=by simp[iv]
theorem QmZ (l:List Int):∀ v∈iv l,v.oneCell'=true:=by
 intro v a;obtain⟨x,_,rfl⟩:=List.mem_map.1 a
 rfl
theorem underIs:prog.underlying 76=some (.slice 3):=by kernel_rfl
theorem infoI:(prog.info? 3).map (fun i=>(i.zero,i.size,i.bytes))=some (some (Iv 0),1,8):=by kernel_rfl
theorem infoI1:(prog.info? 3).map (·.size)=some 1:=by kernel_rfl
theorem QaV (l:List Int) (p:Option Addr) (c:Nat) (w:World) (i:intsL.In w All l [.slice p l.length c]) (x:l.length<=4294967296) :
 Calls prog 231 #[.slice p l.length c] w fun e w'=>Qhs Lay.int w w' l e:=by
 have t:Hid _:=i;have A:Hid _:=Qj2 i;clear i;have q:=fun s=>run_make_row' (P:=prog) 76 3 (Iv 0) 8 underIs infoI Z .i64 .i64 l.length (by omega) (by omega) s
 have d:(w.alloc (.cells (madeCells #[Iv 0] l.length) 3)).heap[w.heap.size]?=some (.cells (madeCells #[Iv 0] l.length).toList.toArray 3 (0,0)):=by
  rw[Array.toArray_toList];exact Qe w _ _
 have b:(iv l).length=Nat.min l.length l.length:=by rw[QcG];exact(Nat.min_self _).symm
 have h:Hid (0<(iv l).length->(some ⟨w.heap.size,0,none⟩:Option Addr)=some ⟨w.heap.size,0,none⟩/\∃ k,p=some k/\∀ j v,(iv l)[j]?=some v->(w.alloc (.cells (madeCells #[Iv 0] l.length) 3)).cell? (k.add j)=some v):=by
  intro r;rw[QcG] at r
  obtain⟨k,e,n,z⟩:=Qj0 t.out r
  exact⟨Z,k,e,fun j v u=>(XU (w:=w) (a:=k.add j) (Below.heap_alloc _ _ _ (by unfold Addr.add;split<;>exact n))).trans (z j v u)⟩
 have f:0+(iv l).length<=(madeCells #[Iv 0] l.length).toList.length:=by rw[QcG,toList_madeCells_one];simp
 have m:Hid (Below w.heap.size w (w.alloc (.cells (madeCells #[Iv 0] l.length) 3))):=(Below.refl _ w).alloc Ze _;go_enter func231,ntmps231
 go_wp2_with (refine wpList_copy_splice Z (.tmp 7) (.tmp 8) 76 76 Z 3 underIs infoI1 _ _ l.length l.length l.length c Z Z w.heap.size 0 (madeCells #[Iv 0] l.length).toList 3 d (iv l) b h.out f (QmZ l) w.heap.size w m.out Ze ?_)
 ·intro w' o g;clear h f m d b
  have R:Hid (Qhs Lay.int w w' l (.returned (.slice (some ⟨w.heap.size,0,none⟩) l.length l.length))):=by
   have y:splice (madeCells #[Iv 0] l.length).toList 0 (iv l)=iv l:=by
    rw[toList_madeCells_one];simp[splice,QcG]
   rw[y] at o
   refine⟨_,_,Z,QkA ⟨by rw[QcG,XL],Or.inr ⟨w.heap.size,l.length,(iv l).toArray,Z,Ze,o.out,Ze,by unfold maxLen;omega,by simp[QcG],?_⟩⟩ A.out,g⟩
   rw[XL,<-QcG l];simp
  clear o g q;go_wp2
  go_ret;exact R.out
theorem QaM {rest:List Oper}{o:Oper}{a:Act}{Q:Exit->Act->World->Prop}(c:o.guard=none) (s x:Operand) (t:TypeId)
 (e:o.op=.call { callee:=.builtin .append,args:=#[s,x],argTypes:=#[t,t] }) (v d:Value) (f:a.eval s=v) (i:a.eval x=d) (b:(Builtin.append_ #[t,t] o.type #[v,d]).run P w=.ok v w)
 (h:wpList P ops Q rest (a.put o.dst v) w):wpList P ops Q (o::rest) a w:=by
 refine wpList_plain c fun K g=>?_;unfold Oper.wp;simp[execOp,e,resolve,invoke,builtin,f,i,b,Result.andThen]
 exact g _ _ h
abbrev FV:Value:=.func (.func 261) #[] #[]
theorem Qji (n:Nat) (H:QiV 261 n) (l m:List (TT n)) (a b:Option Addr) (c d:Nat) (w:World) (G:LIn w All l a) (F:LIn w All m b) (ab:l.length<=100000) (v:∀ x∈l,x.count<=100000) :
 Calls prog 260 #[.slice a l.length c,.slice b m.length d,FV] w fun e w'=>ZL e (l=m)/\Below w.heap.size w w':=by
 have IH:Hid (QiV 261 n):=H;have hl:Hid (LIn w All l a):=G;have hm:Hid (LIn w All m b):=F;have X:Hid (∀ x∈l,x.count<=100000):=v;clear H G F v;by_cases s:l.length=m.length
 ·have J:((l.length:Int) != (m.length:Int))=false:=by simp;omega
  have E:Hid (l.length=m.length):=s;clear s;go_enter func260,ntmps260
  go_wp2_with fail
  go_loopw [17] (fun i wr=>∃ q:Nat,q<=l.length/\i=Iv q/\(∀ j,j<q->l[j]?=m[j]?)/\Below w.heap.size w wr) (fun i _=>l.length - (intOf i).toNat)
  case atStart=>exact⟨0,Xb _,Z,fun j hj=>by omega,Zr⟩
  case round =>
   obtain⟨q,hq,rfl,u,D⟩:=hrel
   have A:Hid (∀ j,j<q->l[j]?=m[j]?):=u;have B:Hid (Below w.heap.size w wr):=D;clear u D;by_cases O:q<l.length
   ·have K:l[q]?=some l[q]:=Zg O;have U:q<m.length:=by have:=E.out;omega
    have L:m[q]?=some m[q]:=Zg U;generalize l[q]=x at K;generalize m[q]=y at L;obtain⟨g,o,V,W,rfl,_,S,d1,d2,hk⟩:=LIn.at (hl.out.below B.out) K
    obtain⟨g',o',Q,T,rfl,_,P,d4,d5,I⟩:=LIn.at (hm.out.below B.out) L
    have C:Hid (∀ z,Below wr.heap.size wr z->Calls prog 261 #[Tv x V W,Tv y Q T] z fun e w'=>ZL e (x=y)/\Below z.heap.size z w') :=
     fun z D=>IH.out x y V Q W T _ (hk.below D) (I.below D) (X.out x (Zm K))
    have k:Hid (l[q]?=some x):=K;have f:Hid (m[q]?=some y):=L;have hg:g<wr.heap.size:=Xi wr ⟨g,o+q*3,none⟩ S;have ad:g'<wr.heap.size:=Xi wr ⟨g',o'+q*3,none⟩ P;clear hk I K L;simp only[Tv] at C
    generalize x.kind=kx at C S;generalize x.r=rx at C d1;generalize x.len=lx at C d2;generalize y.kind=ky at C P;generalize y.r=ry at C d4;generalize y.len=ly at C d5;have ae:(0:Int)<=q:=by omega
    have aa:(q:Int)<l.length:=by omega
    have ac:(q:Int)<m.length:=by omega
    go_wp2_with fail
    have N:Below wr.heap.size wr ((wr.alloc (.cells #[Iv kx,Iv rx,.slice V lx W] 105)).alloc (.cells #[Iv ky,Iv ry,.slice Q ly T] 105)):=((Below.refl _ wr).alloc Ze _).alloc (by simp) _;refine(C.out _ N).mono ?_
    rintro r w5 ⟨⟨p,rfl,M⟩,b5⟩;have HB:Hid (Below w.heap.size w w5):=(B.out.trans (N.mono B.out.size)).trans (b5.mono (Zt B.out.size N.size));clear C b5 B S d1 d2 P d4 d5 N
    cases p with
    | true =>
      have t:x=y:=M.1 Z
      have A2:Hid (∀ j,j<q+1->l[j]?=m[j]?):=fun j hj=>by
       by_cases e:j=q
       ·subst e;rw[k.out,f.out,t]
       ·exact A.out j (by omega)
      clear M t k f A;go_wp2
      go_roundw
      case rel=>exact⟨q+1,by omega,by go_num,A2.out,HB.out⟩
      case measure=>simp[intOf];omega
    | false =>
      have t:Hid (¬ l=m):=fun h=>by
       have h1:=k.out;rw[h,f.out] at h1
       have:=M.2 (Xn h1).symm
       cases this
      clear M k f A;go_wp2
      go_ret;exact⟨ZL.no t.out,HB.out⟩
   ·have R:Hid (l=m):=by
     have:=E.out
     refine List.ext_getElem? (fun i=>?_);by_cases hi:i<q
     ·exact A.out i hi
     ·rw[Xk (by omega),Xk (by omega)]
    have aa:¬ (q:Int)<l.length:=by omega
    clear A;go_wp2
    go_ret;exact⟨ZL.yes R.out,B.out⟩
 ·have J:((l.length:Int) != (m.length:Int))=true:=by simp;omega
  have E:Hid (l.length≠m.length):=s;clear s;go_enter func260,ntmps260
  go_wp2
  go_ret;exact⟨ZL.no (fun h=>E.out (by rw[h])),Zr⟩
theorem same_any:∀ n,QiV 261 n:=by
 intro n
 induction n with
 | zero=>intro t;exact Empty.elim t
 | succ n ih =>
   intro t u a b c d w A D J;have i:∀ x∈t.2.2,x.count<=100000:=fun x L=>by have:=t.count_kid L;omega
   have f:t.2.2.length<=100000:=by have:=t.len_lt_count;rw[t.len_eq] at this;omega
   have C:Hid (∀ g,Below w.heap.size w g->Calls prog 260 #[.slice a t.2.2.length c,.slice b u.2.2.length d,FV] g fun e G=>ZL e (t.2.2=u.2.2)/\Below g.heap.size g G) :=
    fun g y=>Qji n ih t.2.2 u.2.2 a b c d g (A.below y) (D.below y) f i
   rw[TT.eq_iff]
   simp only[Tv,TT.len_eq] at C |-
   generalize t.2.2.length=p at C |-;generalize u.2.2.length=q at C |-;generalize (t.2.2=u.2.2)=E at C |-;generalize t.kind=k;generalize t.r=r;generalize u.kind=s;generalize u.r=o;clear i f J A D ih t u;by_cases m:k=s
   ·subst m;by_cases j:r=o
    ·subst j;go_enter func261,ntmps261
     go_wp2_with fail
     have l:Below w.heap.size w ((w.alloc (.cells #[Iv k,Iv r,.slice a p c] 105)).alloc (.cells #[Iv k,Iv r,.slice b q d] 105)):=((Below.refl _ w).alloc Ze _).alloc (by simp) _;refine(C.out _ l).mono ?_
     rintro e H ⟨⟨v,rfl,z⟩,F⟩;have B:Hid (Below w.heap.size w H):=l.trans (F.mono l.size);have V:Hid (v=true↔E):=z;clear F C z l
     cases v
     all_goals
      go_wp2
      go_ret
     ·exact⟨ZL.no (fun h=>by have:=V.out.2 h.2.2;cases this),B.out⟩
     ·exact⟨ZL.yes (by have:=V.out;simpa using this),B.out⟩
    ·have K:(r==o)=false:=by simpa using j
     have R:Hid (¬ r=o):=j;clear j;go_enter func261,ntmps261
     go_wp2_with fail
     go_ret;exact⟨ZL.no (fun h=>R.out h.2.1),((Below.refl _ w).alloc Ze _).alloc (by simp) _⟩
   ·have I:(k==s)=false:=by simpa using m
    have R:Hid (¬ k=s):=m;clear m;go_enter func261,ntmps261
    go_wp2_with fail
    go_ret;exact⟨ZL.no (fun h=>R.out h.1),((Below.refl _ w).alloc Ze _).alloc (by simp) _⟩
section
variable {α:Type}{A:Lay α}{e:TypeId}{w w':World}{lo g n q s:Nat}{l:List α}{xs:List Value}{x:α}{ds:List Value}
theorem Qap.start (o:A.size=s) (h:w.ownsRow lo e s (.slice (some ⟨g,0,none⟩) m m) m xs):Qap A e w lo (.slice (some ⟨g,0,none⟩) 0 m) (l.take 0) []:=by
 subst o;obtain⟨t,k⟩:=h
 rcases k with ⟨a,_⟩|⟨r,j,c,a,n,q,p,f,b,d⟩
 ·simp at a
 ·simp only[Value.slice.injEq,Option.some.injEq,Addr.mk.injEq,and_true,true_and] at a
  obtain⟨rfl,rfl⟩:=a
  exact⟨⟨by simp,.inr ⟨g,m,c,Z,n,q,Xb _,f,b,by simp⟩⟩,fun i x h=>by simp at h⟩
theorem Qap.blk (h:Qap A e w lo (.slice (some ⟨g,0,none⟩) q n) l xs) (k:A.size=s):∃ c,Blk w g c e/\c.size=n*s:=by
 subst k;obtain⟨u,j⟩:=h.own
 rcases j with ⟨a,_⟩|⟨t,i,d,a,r,p,m,o,b,f⟩
 ·simp at a
 ·simp only[Value.slice.injEq,Option.some.injEq,Addr.mk.injEq,and_true,true_and] at a
  obtain⟨rfl,-,rfl⟩:=a
  exact⟨d,p,b⟩
theorem Qap.fillq (h:Qap A e w lo (.slice (some ⟨g,0,none⟩) q n) (l.take q) xs) (d:A.size=s) (j:q<l.length) (i:l.length=n) (b:l[q]?=some x) (f:A.In w (fun k=>lo<=k/\k≠g) x ds) (c:w'=w.setCells g (0+q*s) ds) :
 ∃ xs',Qap A e w' lo (.slice (some ⟨g,0,none⟩) (q+1) n) (l.take (q+1)) xs':=by
 subst d c;have a:(l.take q).length=q:=by simp;omega
 have T:l.take (q+1)=l.take q++[x]:=by rw[XV,b];rfl
 have:=Qap.fill (l:=l.take q) (g:=g) (n:=n) (by rw[a];exact h) f (by omega)
 rw[a] at this
 rw[T,XK]
 exact⟨_,this⟩
theorem Qap.done (h:Qap A e w lo (.slice (some ⟨g,0,none⟩) q n) (l.take q) xs) (a:q=l.length):A.list.In w (Qcs lo) l [.slice (some ⟨g,0,none⟩) l.length n]:=by
 have:=h.lay
 subst a;rw[List.take_length] at this
 exact this
end
theorem QbN {z:Value}{s:Nat}(h:(prog.info? t).map (fun i=>(i.zero,i.size,i.bytes))=some (some z,s,b)):∃ i,prog.info? t=some i/\i.zero=some z/\i.size=s/\i.bytes=b:=by
 obtain⟨i,a,e⟩:=Option.map_eq_some_iff.1 h
 simp only[Prod.mk.injEq] at e
 exact⟨i,a,e⟩
theorem infoIns:(prog.info? 78).map (fun i=>(i.zero,i.size,i.bytes))=some (some (.agg #[Iv 0,Iv 0,Iv 0,Iv 0,Iv 0,Iv 0,Nv,Nv]),8,96):=by kernel_rfl
theorem infoBlock:(prog.info? 86).map (fun i=>(i.zero,i.size,i.bytes))=some (some (.agg #[Iv 0,Nv,Nv,Iv 0,Iv 0,Iv 0,Nv,Nv,Iv 0,Nv,Nv,Nv]),12,208):=by kernel_rfl
theorem infoFunc:(prog.info? 89).map (fun i=>(i.zero,i.size,i.bytes))=some (some (.agg #[Iv 0,Nv,Nv,Nv]),4,80):=by kernel_rfl
section
open Go.Deep
def Wt {H:Type}(P:Program) (t:TypeId) (d:DataW H):Prop:=∀ n∈d.weights P t,n<=reachBytes
def Qy (P:Program) (t:TypeId){α:Type}(A:Lay α) (n:Nat) (Bd:α->Prop):Prop :=
 P.cellsOf t=A.size/\∀ {H:Type} {enc:TypeId × Value->H} {w:World} {base:Nat} {spare:Nat->Bool} {held:Bool} {fuel:Nat} {cs:List Value} {x:DataW H × List MemPlace},
  fuel<=n->DataW.trod enc P w base spare held fuel t cs=some x->Wt P t x.1->∃ d,A.In w (fun _=>True) d cs/\Bd d
theorem Qy.int (n:Nat) (h:P.underlying t=some (.int .i64)) (b:P.cellsOf t=1):Qy P t Lay.int n (fun _=>True) :=
 ⟨b,fun _ c _=>by
  obtain⟨k,e,_,a⟩:=DataW.trod_int h c
  exact⟨k,⟨e,Go.bounds_i64 a⟩,Y⟩⟩
theorem Qbi {H:Type}{P:Program}{e:TypeId}:∀ {l:List (DataW H)}{d:DataW H},d∈l->∀ n∈d.weights P e,n∈DataW.weightsAll P e l
 | d0::l,d,h,n,hn=>by
   simp only[DataW.weightsAll,List.mem_append]
   rcases List.mem_cons.1 h with rfl | h
   ·exact .inl hn
   ·exact .inr (Qbi h n hn)
theorem Qy.list {α:Type}{A:Lay α}{Bd:α->Prop}(h:P.underlying t=some (.slice e)) (hc:P.cellsOf t=1) (W:Qy P e A n Bd) (F:0<A.size) (T:0<P.bytesOf e):Qy P t A.list n (fun l=>l.length<1152921504606846976) :=
 ⟨hc,fun {H ae w v S ab aa cs x} hf h' U=>by
  rcases DataW.trod_slice h h' with ⟨N,_⟩|⟨a,s,Q,c,g,q,rfl,N,ex,hb,hl,hm,X,M,_,_⟩
  ·exact⟨[],by rw[N];exact Yg A _ _ _ _,by simp⟩
  ·have af:(c.length+g.length)*P.bytesOf e<=reachBytes:=U _ (by rw[ex];simp[DataW.weights,h])
   have ad:s<1152921504606846976:=by
    have h1:c.length*1<=(c.length+g.length)*P.bytesOf e:=Nat.mul_le_mul (by omega) T;have h2:reachBytes<1152921504606846976:=by decide
    omega
   have B:∀ i,i<s->∃ y,c[i]?=some y/\Wt P e y.1:=fun i E=>by
    refine⟨c[i]'(by omega),Zg (by omega),fun k hk=>U k ?_⟩
    rw[ex]
    simp only[DataW.weights,h,List.mem_cons,List.mem_append]
    exact .inr (.inl (Qbi (List.mem_map_of_mem (List.getElem_mem (by omega))) k hk))
   obtain⟨l,R,V⟩:=QjK (P:=fun i (d:α)=>∃ f,w.cells? v (a.add (i*A.size)) A.size=some f/\A.In w (fun _=>True) d f) s (fun i E=>by
    have K:=M i E;obtain⟨y,hy,O⟩:=B i E
    rw[hy,W.1] at K
    rw[Option.bind_eq_some_iff] at K
    obtain⟨f,r,J⟩:=K
    obtain⟨d,G,_⟩:=W.2 (by omega) J O
    exact⟨d,f,r,G⟩)
   refine⟨l,⟨some a,Q,by rw[N,R],fun i x hx=>?_⟩,by omega⟩
   obtain⟨f,r,G⟩:=V i x hx
   obtain⟨_,ac,m⟩:=World.cells?_some r
   obtain⟨b,C,D⟩:=a
   have p:D=none:=by
    have E:0<l.length:=Nat.lt_of_le_of_lt (Xb i) (Zi hx).1;obtain⟨I,u,L⟩:=V 0 l[0] (Zg E)
    have o:0<I.length:=by rw[A.len L];exact F
    have:=(World.cells?_some u).2.2 0 F
    rw[Zg o] at this
    simpa[Addr.add] using World.cell?_spot this
   subst p
   have z:∀ j,j<A.size->w.cell? ⟨b,C+i*A.size+j,none⟩=f[j]?:=fun j hj=>by
    have:=m j hj
    rw[Go.WideShapes.add_plain,Go.WideShapes.add_plain] at this
    exact this
   refine⟨b,C,f,Z,Y,?_,z,G⟩
   have o:0<f.length:=by rw[A.len G];exact F
   have:=z 0 F
   rw[Zg o] at this
   exact Xi w _ this⟩
def QH (P:Program) (fs:Array Field):Nat->Nat->{α:Type}->Lay α->Nat->(α->Prop)->Prop:=fun i o α A n Bd =>
 ∀ (H:Type) (enc:TypeId × Value->H) (w:World) (base:Nat) (spare:Nat->Bool) (held:Bool) (fuel:Nat) (cs:List Value) (xs:List (DataW H × List MemPlace)),
  fuel<=n->cs.length=o+A.size->xs.length=fs.size->(∀ (j:Nat) (f:Field),fs[j]?=some f->DataW.trod enc P w base spare held fuel f.type ((cs.drop f.offset).take (P.cellsOf f.type))=xs[j]?) ->
  (∀ (j:Nat) (f:Field) x,fs[j]?=some f->xs[j]?=some x->Wt P f.type x.1)->∃ d,A.In w (fun _=>True) d (cs.drop o)/\Bd d
theorem QH.last {fs:Array Field}{o:Nat}{f:Field}{α:Type}{A:Lay α}{k:α->Prop}(a:fs[i]?=some f) (t:f.offset=o) (j:Qy P f.type A n k):QH P fs i o A n k:=by
 intro H s w l b e c u y p x z h m;have g:=h i f a;have v:i<fs.size:=(Array.getElem?_eq_some_iff.1 a).1;rw[Zg (by omega),t,j.1] at g
 obtain⟨d,q,r⟩:=j.2 p g (m i f _ a (Zg (by omega)))
 refine⟨d,?_,r⟩
 rwa [XO (by simp;omega)] at q
theorem QH.cons {fs:Array Field}{o:Nat}{f:Field}{α β:Type}{A:Lay α}{B:Lay β}{q:α->Prop}{r:β->Prop}(b:fs[i]?=some f) (u:f.offset=o) (m:Qy P f.type A n q) (y:QH P fs (i+1) (o+A.size) B n r):QH P fs i o (A.pair B) n (fun x=>q x.1/\r x.2):=by
 intro H z w k c s p G E j F D h l;have g:=h i f b;have J:i<fs.size:=(Array.getElem?_eq_some_iff.1 b).1;rw[Zg (by omega),u,m.1] at g
 obtain⟨d,C,t⟩:=m.2 j g (l i f _ b (Zg (by omega)))
 have I:(A.pair B).size=A.size+B.size:=rfl;obtain⟨e,v,a⟩:=y _ _ _ _ _ _ _ _ _ j (by omega) D h l
 refine⟨(d,e),⟨_,_,?_,C,v⟩,t,a⟩
 rw[<-List.drop_drop,List.take_append_drop]
theorem Qy.struct {fs:Array Field}{α:Type}{A:Lay α}{l:α->Prop}(h:P.underlying t=some (.struct fs)) (o:P.cellsOf t=A.size) (v:QH P fs 0 0 A n l):Qy P t A n l :=
 ⟨o,fun {H B w g e p i G x} I u s=>by
  obtain⟨F,m,rfl,D,a,c,b⟩:=DataW.trod_struct h u
  obtain⟨d,C,q⟩:=v _ _ _ _ _ _ _ _ _ (by omega) (by rw[a,o];omega) c b (fun j f y z r k E=>s k (by
   rw[D]
   simp only[DataW.weights,h]
   exact DataW.weights_mem_each (j:=j) (t:=f.type) (d:=y.1) (by simp[z]) (by simp[r]) k E))
  exact⟨d,by simpa using C,q⟩⟩
theorem Qy.via {α β:Type}{A:Lay α}{f:β->α}{a:α->Prop}(h:Qy P t A n a) (g:α->β) (b:∀ d,f (g d)=d):Qy P t (A.via f) n (fun x=>a (f x)) :=
 ⟨h.1,fun k j c=>by
  obtain⟨d,e,i⟩:=h.2 k j c
  exact⟨g d,by show A.In _ _ (f (g d)) _;rw[b];exact e,by show a (f (g d));rw[b];exact i⟩⟩
theorem own:ownKnob prog.godebug=none:=by kernel_rfl
theorem laidOut:laidOutB prog=true:=by kernel_rfl
theorem fieldsT:∃ f0 f1 f2:Field,prog.underlying 105=some (.struct #[f0,f1,f2]) /\
 (f0.offset=0/\prog.cellsOf f0.type=1/\prog.underlying f0.type=some (.int .i64))/\(f1.offset=1/\prog.cellsOf f1.type=1/\prog.underlying f1.type=some (.int .i64)) /\
 (f2.offset=2/\prog.cellsOf f2.type=1/\f2.type=80) :=
 ⟨_,_,_,underlying105,⟨Z,by kernel_rfl,by kernel_rfl⟩,⟨Z,by kernel_rfl,by kernel_rfl⟩,⟨Z,by kernel_rfl,Z⟩⟩
theorem Qmm (n:Nat):Qy prog 105 (Lay.tt n) n (fun _=>True) :=
 ⟨by kernel_rfl,fun {H k w g d f b u x} o m s=>by
  obtain⟨r,y,v,e,q,h,i⟩:=fieldsT
  obtain⟨t,a,c,p,j,l⟩:=QmA (ti:=0) underlying80 e (by kernel_rfl) q h i n b o m
  exact⟨t,⟨a,c,p,j,l⟩,Y⟩⟩
theorem QaR (n:Nat):Qy prog 3 Lay.int n (fun _=>True):=Qy.int n underlying3 (by kernel_rfl)
theorem Ql6 (n:Nat):Qy prog 2 Lay.int n (fun _=>True):=Qy.int n underlying2 (by kernel_rfl)
theorem QfW (n:Nat):Qy prog 80 (Qp n) n (fun l=>l.length<1152921504606846976):=Qy.list underlying80 (by kernel_rfl) (Qmm n) (by show 0<3;decide) (by rw[show prog.bytesOf 105=40 from by kernel_rfl];decide)
end
def Qic {α:Type}(A:Lay α) (w w':World) (x:α) (e:Ending):Prop:=∃ ds:List Value,e=.returned (.agg ds.toArray)/\A.In w' (Qcs w.heap.size) x ds/\Below w.heap.size w w'
theorem Qm3 (a:World) (z:Array Value) (t:TypeId)(b:cs.length=z.size):(a.alloc (.cells z t)).there a.heap.size 0 cs.toArray.size/\Blk ((a.alloc (.cells z t)).setCells a.heap.size 0 cs) a.heap.size cs.toArray t/\Below a.heap.size a ((a.alloc (.cells z t)).setCells a.heap.size 0 cs):=by
 have c:=Blk.new a z t;refine⟨Blk.there c (by simp[b]),?_,?_⟩
 ·have d:Blk (a.alloc (.cells z t)) a.heap.size ([]++z.toList).toArray t:=c;exact Blk.sets cs [] z.toList _ (by simpa using b) d
 ·exact QJ Ze cs _ _ 0 (Zd a _)
theorem Blk.setsA {c:Array Value}(h:Blk w R c t) (a:List Value) (b:a.length=c.size):Blk (w.setCells R 0 a) R a.toArray t:=Blk.sets a [] c.toList w (by simpa using b) h
theorem infoType0:(prog.info? 105).map (fun i=>(i.zero,i.size,i.bytes))=some (some (.agg #[Iv 0,Iv 0,Nv]),3,40):=by kernel_rfl
theorem Qbt {z:Value}(h:(prog.info? t).map (fun i=>(i.zero,i.size,i.bytes))=some (some z,s,b)):(prog.info? t).map (·.size)=some s:=by
 obtain⟨i,c,-,a,-⟩:=QbN h
 rw[c];simp[a]
theorem Qb4 {fn:Func}{R:Ending->World->Prop}{a:Act}{t:Tmp}{b l:TypeId}{c:Array Value}{d:TypeDesc}(g:fn.results=#[.cell t b]) (f:a.tmps.getD t undef=Pv B 0) (m:a.defers=[]) (i:Blk w B c l)
 (j:prog.underlying b=some d) (h:d.isRow=true) (hi:(prog.info? b).map (·.size)=some c.size) (k:R (.returned (.agg c)) w):bodyPost prog fn R .ret a w:=by
 refine Xy ?_ m k;have e:=run_loadVar_mid (P:=prog) w B 0 b c.toList d (Blk.range (by simpa using i)) j h (by simpa using hi);simp only[Array.toArray_toList] at e
 rw[Za] at f
 simp[results,g,f,asAddr,e]
theorem Z0 {α:Type}{A:Lay α}{F K:FuncId}{l:List α}
 (hF:F=122/\A.size=3\/F=186/\A.size=8\/F=124/\A.size=12\/F=76/\A.size=4)
 (X:Qag K) (S:A.list.In w All l [.slice p l.length c]) (hb:l.length<=4294967296) (W:∀ (w:World) (O:Nat->Prop) (x:α) (ds:List Value),A.In w O x ds->∀ v∈ds,v.oneCell'=true)
 (T:∀ x∈l,∀ ds wx,A.In wx All x ds->Calls prog K #[.agg ds.toArray] wx fun e w'=>Qic A wx w' x e) :
 Calls prog F #[.slice p l.length c,.func (.func K) #[] #[]] w fun e w'=>Qhs A w w' l e:=by
 have hl:=Qf S;have hf:=Qf T;have h1:=Qf W;have hE:∀ (args:Array Value) (w:World),(callFunc K args).run prog w=.ok (.enter K args) w:=X;clear S T W X;rcases hF with ⟨rfl,s⟩|⟨rfl,s⟩|⟨rfl,s⟩|⟨rfl,s⟩
 have V:=underlying105;have r:=Qbt infoType0;have hm:=Qf fun (wx:World) (cs:List Value) (h:cs.length=3)=>Qm3 wx #[Iv 0,Iv 0,Nv] 105 h;obtain⟨C,t,d,b,m⟩:=QbN infoType0
 obtain⟨z,y,a,f⟩:=run_make_full (P:=prog) w w.heap.size 80 105 C _ 3 underlying80 t d b .i64 .i64 l.length (by rw[m];omega) (by unfold maxLen;omega) Ze
 clear t d b m;have hg:Hid (Below w.heap.size w z):=(Below.refl _ w).grown f Ze (fun k r=>by cases r);have J:=Qf (Qap.start (l:=l) s a);clear f a;go_enter func122,ntmps122
 rotate_left
 have V:=underlying78;have r:=Qbt infoIns;have hm:=Qf fun (wx:World) (cs:List Value) (h:cs.length=8)=>Qm3 wx #[Iv 0,Iv 0,Iv 0,Iv 0,Iv 0,Iv 0,Nv,Nv] 78 h;obtain⟨C,t,d,b,m⟩:=QbN infoIns
 obtain⟨z,y,a,f⟩:=run_make_full (P:=prog) w w.heap.size 79 78 C _ 8 underlying79 t d b .i64 .i64 l.length (by rw[m];omega) (by unfold maxLen;omega) Ze
 clear t d b m;have hg:Hid (Below w.heap.size w z):=(Below.refl _ w).grown f Ze (fun k r=>by cases r);have J:=Qf (Qap.start (l:=l) s a);clear f a;go_enter func186,ntmps186
 rotate_left
 have V:=underlying86;have r:=Qbt infoBlock;have hm:=Qf fun (wx:World) (cs:List Value) (h:cs.length=12)=>Qm3 wx #[Iv 0,Nv,Nv,Iv 0,Iv 0,Iv 0,Nv,Nv,Iv 0,Nv,Nv,Nv] 86 h;obtain⟨C,t,d,b,m⟩:=QbN infoBlock
 obtain⟨z,y,a,f⟩:=run_make_full (P:=prog) w w.heap.size 87 86 C _ 12 underlying87 t d b .i64 .i64 l.length (by rw[m];omega) (by unfold maxLen;omega) Ze
 clear t d b m;have hg:Hid (Below w.heap.size w z):=(Below.refl _ w).grown f Ze (fun k r=>by cases r);have J:=Qf (Qap.start (l:=l) s a);clear f a;go_enter func124,ntmps124
 rotate_left
 have V:=underlying89;have r:=Qbt infoFunc;have hm:=Qf fun (wx:World) (cs:List Value) (h:cs.length=4)=>Qm3 wx #[Iv 0,Nv,Nv,Nv] 89 h;obtain⟨C,t,d,b,m⟩:=QbN infoFunc
 obtain⟨z,y,a,f⟩:=run_make_full (P:=prog) w w.heap.size 22 89 C _ 4 underlying22 t d b .i64 .i64 l.length (by rw[m];omega) (by unfold maxLen;omega) Ze
 clear t d b m;have hg:Hid (Below w.heap.size w z):=(Below.refl _ w).grown f Ze (fun k r=>by cases r);have J:=Qf (Qap.start (l:=l) s a);clear f a;go_enter func76,ntmps76
 rotate_left
 all_goals
  go_wp2_with fail
  go_loopw [13] (fun i wr=>∃ q:Nat,q<=l.length/\i=Iv q/\(∃ e xs,Qap A e wr w.heap.size (.slice (some ⟨w.heap.size,0,none⟩) q l.length) (l.take q) xs)/\Below w.heap.size w wr) (fun i _=>l.length - (intOf i).toNat)
  case atStart=>exact⟨0,Xb _,Yz,⟨_,_,J.out⟩,hg.out⟩
  case round =>
   obtain⟨q,hq,rfl,⟨e,xs,hA⟩,hB⟩:=hrel
   have I:=Qf hA;have E:=Qf hB;clear hA hB hg J y;obtain⟨D,aa⟩:∃ D,D=wr:=⟨_,Yz⟩
   subst aa;by_cases Q:q<l.length
   rotate_left
   ·have H:¬ (q:Int)<l.length:=by omega
    have R:Hid (Qhs A w D l (.returned (.slice (some ⟨w.heap.size,0,none⟩) l.length l.length))):=⟨_,_,Yz,I.out.done (by omega),E.out⟩;clear I E;go_wp2
    go_ret;exact R.out
   have H:(q:Int)<l.length:=by omega
   have hx:l[q]?=some l[q]:=Zg Q;generalize l[q]=x at hx;obtain⟨g,o,ds,rfl,-,-,E3,I3⟩:=Yf (Ya hl.out E.out) hx
   have G:=A.len I3;rw[s] at G E3
   have RG:=Qf (show D.rangeAt g (o+q*_) ds from fun j v hj=>(E3 j (by rw[<-G];exact(Zi hj).1)).trans hj);have TO:=Qf (all_oneCell_toArray (h1.out _ _ _ _ I3));obtain⟨M1,M2,M3⟩:=hm.out D ds G
   have HM:=Qf M1;have M:=Qf (r.trans (congrArg some G.symm));have CC:=Qf (hf.out x (Zm hx) ds _ (Ya I3 M3));have B2:=Qf M2;have N:=Qf M3;have HX:=Qf hx;clear M1 M2 M3 E3 I3 hx G;go_upto_region 5 with (first | (refine wpList_load_mid Yz _ (.tmp 16) Yz g _ Yz ds _ RG.out V Yz M.out ?_) | (refine wpList_store_mid Yz _ (.tmp 7) (.tmp 17) Yz D.heap.size 0 ds.toArray Yz Yz HM.out M.out TO.out ?_))
   clear HM RG TO;generalize World.setCells _ _ _ _=w3 at B2 N CC |-;generalize D.heap.size=Z at B2 |-;have RZ:Hid (w3.rangeAt Z 0 ds):=Blk.range B2.out;clear B2;go_wp2_with (refine wpList_load_mid Yz _ (.tmp 7) Yz Z 0 Yz ds _ RZ.out V Yz M.out ?_)
   refine CC.out.mono ?_;rintro _ w8 ⟨d2,rfl,I8,B8⟩;have u:=A.len I8;rw[s] at u
   have b8:=N.out.trans (B8.mono N.out.size);have B:=I.out.below b8;obtain⟨cg,L,U⟩:=B.blk s
   have s1:=(I.out.lo_le (g:=w.heap.size) Yz).2;have s2:=N.out.size;have NX:=Qf (B.fillq s Q Yz HX.out (Yc I8 (fun k r _=>⟨by have:_<=k:=r;omega,by have:_<=k:=r;omega⟩)) Yz);have BX:=Qf (QJ Ze d2 _ _ (q*A.size) (E.out.trans (b8.mono E.out.size)));have TO:=Qf (all_oneCell_toArray (h1.out _ _ _ _ I8));have M:=Qf (r.trans (congrArg some u.symm));have HT:=Qf (Blk.there (o:=q*A.size) (n:=d2.length) L (by rw[U,u,s];omega));clear u b8 B L U I8 B8 CC RZ N I E hl hf h1 hm s1 s2;rw[XK] at NX
   rw[s] at BX HT
   go_wp2_with (refine wpList_store_mid Yz _ (.tmp 23) (.tmp 22) Yz w.heap.size _ d2.toArray Yz Yz HT.out M.out TO.out ?_)
   go_roundw
   case rel=>exact⟨q+1,by omega,by go_num,(by obtain⟨_,h⟩:=NX.out;exact⟨_,_,h⟩),BX.out⟩
   case measure=>simp[intOf];omega
structure Bxs (w wx:World) (l:List (Nat × Array Value × TypeId)):Prop where
 bel:Below w.heap.size w wx
 ge:∀ b∈l,w.heap.size<=b.1
 box:∀ b∈l,Blk wx b.1 b.2.1 b.2.2
 nd:(l.map (·.1)).Nodup
section
variable {w wx w':World}{l a z:List (Nat × Array Value × TypeId)}{B:Nat}{c:Array Value}{t:TypeId}
theorem Bxs.start (w:World):Bxs w w []:=⟨Zr,fun _ h=>by simp at h,fun _ h=>by simp at h,by simp⟩
theorem Bxs.below (h:Bxs w wx l) (k:Below wx.heap.size wx w'):Bxs w w' l:=⟨h.bel.trans (k.mono h.bel.size),h.ge,fun b a=>(h.box b a).below k,h.nd⟩
theorem Bxs.drewN (h:Bxs w wx l) (n:Nat):Bxs w (wx.drewN n) l:=h.below (QI Zr n)
theorem Bxs.drew (h:Bxs w wx l):Bxs w wx.drew l:=h.drewN 1
theorem Bxs.add (h:Bxs w wx l) (d:Blk wx B c t) (f:w.heap.size<=B) (g:∀ b∈l,b.1≠B):Bxs w wx ((B,c,t)::l) :=
 ⟨h.bel,fun b a=>by rcases List.mem_cons.1 a with rfl | e;exact f;exact h.ge b e,fun b a=>by rcases List.mem_cons.1 a with rfl | e;exact d;exact h.box b e,by
  simp only[List.map_cons,List.nodup_cons]
  refine⟨fun e=>?_,h.nd⟩
  obtain⟨b,a,e⟩:=List.mem_map.1 e
  exact g b a e⟩
theorem Bxs.new (h:Bxs w wx l) (c:Array Value) (t:TypeId):Bxs w (wx.alloc (.cells c t)) ((wx.heap.size,c,t)::l) :=
 (h.below (Zd _ _)).add (Blk.new _ _ _) h.bel.size (fun b a e=>by have:=(h.box b a).lt;omega)
theorem Bxs.made (h:Bxs w wx l) (k:Below wx.heap.size wx w') (d:Blk w' B c t) (f:wx.heap.size<=B):Bxs w w' ((B,c,t)::l) :=
 (h.below k).add d (Zt h.bel.size f) (fun b a e=>by have:=(h.box b a).lt;omega)
theorem Bxs.at (h:Bxs w wx (a++(B,c,t)::z)):Blk wx B c t:=h.box (B,c,t) (by simp)
theorem Bxs.cell (h:Bxs w wx (a++(B,c,t)::z)) (i:Nat) (v:Value) (b:c[i]?=some v):wx.cell? ⟨B,i,none⟩=some v:=Qb h.at i v b
theorem Bxs.free (h:Bxs w wx (a++(B,c,t)::z)) (i:Nat):wx.frozen? ⟨B,i,none⟩=false:=Qj h.at i
theorem Bxs.set (h:Bxs w wx (a++(B,c,t)::z)) (i:Nat) (v:Value):Bxs w (wx.setCell ⟨B,i,none⟩ v) (a++(B,c.setIfInBounds i v,t)::z):=by
 have f:∀ b∈a++z,b.1≠B:=fun b d e=>by
  have j:=h.nd;rw[List.map_append,List.map_cons,List.nodup_append] at j
  obtain⟨-,g,k⟩:=j
  rw[List.nodup_cons] at g
  rcases List.mem_append.1 d with d | d
  ·exact k b.1 (List.mem_map_of_mem d) B (by simp) e
  ·exact g.1 (List.mem_map.2 ⟨b,d,e⟩)
 refine⟨h.bel.setCell (p:=⟨B,i,none⟩) (h.ge (B,c,t) (by simp)) v,fun b d=>?_,fun b d=>?_,?_⟩
 ·simp only[List.mem_append,List.mem_cons] at d
  rcases d with d | rfl | d
  ·exact h.ge b (by simp[d])
  ·exact h.ge (B,c,t) (by simp)
  ·exact h.ge b (by simp[d])
 ·simp only[List.mem_append,List.mem_cons] at d
  rcases d with d | rfl | d
  ·exact(Xd _ _ _ _ (f b (by simp[d]))).trans (h.box b (by simp[d]))
  ·have:=Qh h.at i v
   simpa using this
  ·exact(Xd _ _ _ _ (f b (by simp[d]))).trans (h.box b (by simp[d]))
 ·have:=h.nd
  simpa using this
end
def NuI (lo:Nat) (l:List Int) (v:Value) (w:World):Prop:=∃ p c,v=.slice p l.length c/\intsL.In w (Qcs lo) l [v]
theorem NuI.below {lo:Nat}(b:Below w.heap.size w w') (h:NuI lo l v w):NuI lo l v w':=by
 obtain⟨p,c,rfl,h⟩:=h
 exact⟨p,c,Z,Ya h b⟩
theorem NuI.move {lo a:Nat}(h:NuI lo l v w) (d:∀ k,lo<=k->w'.heap[k]?=w.heap[k]?) (e:a<=lo):NuI a l v w':=by
 obtain⟨p,c,rfl,h⟩:=h
 exact⟨p,c,Z,intsL.keep (fun k b _=>d k b) (fun k b _=>Zt e b) h⟩
theorem Qll {F:FuncId}(hF:F=232/\(∃ n,cs=[Iv n])\/F=187/\∃ a b c d e f,cs=[Iv a,Iv b,Iv c,Iv d,Iv e,Iv f])
 {j l:List Int}    (C:intsL.In w All j [.slice pR j.length cR]) (E:intsL.In w All l [.slice pA l.length cA]) (b1:j.length<=4294967296) (b2:l.length<=4294967296) :
 Calls prog F #[.agg (cs++[Value.slice pR j.length cR,Value.slice pA l.length cA]).toArray] w fun e w'=>∃ u v,e=.returned (.agg (cs++[u,v]).toArray)/\NuI w.heap.size j u w'/\NuI w.heap.size l v w'/\Below w.heap.size w w':=by
 have D:=Qf C;have hg:=Qf E;clear C E;obtain⟨o,H⟩:∃ o,cs.length=o:=⟨_,Z⟩
 obtain⟨z,r⟩:∃ o,cs.length+1=o:=⟨_,Z⟩
 rcases hF with ⟨rfl,n,rfl⟩|⟨rfl,n1,n2,n3,n4,n5,n6,rfl⟩
 have p:=Qf (((Bxs.start w).new #[Iv n,.slice pR j.length cR,.slice pA l.length cA] 82).new #[Iv 0,Nv,Nv] 82);have T:=underlying82;have s:(prog.info? 82).map (·.size)=some 3:=by kernel_rfl
 go_enter func232,ntmps232
 rotate_left
 have p:=Qf (((Bxs.start w).new #[Iv n1,Iv n2,Iv n3,Iv n4,Iv n5,Iv n6,.slice pR j.length cR,.slice pA l.length cA] 78).new #[Iv 0,Iv 0,Iv 0,Iv 0,Iv 0,Iv 0,Nv,Nv] 78);have T:=underlying78;have s:(prog.info? 78).map (·.size)=some 8:=by kernel_rfl
 go_enter func187,ntmps187
 all_goals
  go_upto_region 1 with fail
  generalize World.alloc (World.alloc w _) _=q at p |-;have N:q.cell? ⟨w.heap.size,o,none⟩=some (.slice pR j.length cR):=p.out.cell (a:=[_]) o _ (by subst H;rfl);have P:q.cell? ⟨w.heap.size,z,none⟩=some (.slice pA l.length cA):=p.out.cell (a:=[_]) z _ (by subst r;rfl);simp only[List.length_cons,List.length_nil,Nat.zero_add,Nat.reduceAdd] at H r
  refine Qg 7 (Ql0 [(5,NuI q.heap.size j),(8,NuI q.heap.size l)] [(1,Pv w.heap.size 0),(3,Pv w.heap.size o),(4,.slice pR j.length cR),(6,Pv w.heap.size z),(7,.slice pA l.length cA),(9,Pv w.heap.size o)]) (fun G=>Below q.heap.size q G) (fun w w'=>Below w.heap.size w w') (by kernel_rfl) (outs:=[1]) (gs:=[]) (bs:=[true,true,true,true,true,true,true]) (n:=12) Z Ze (by kernel_rfl) (by kernel_rfl) ?hR ?hG (QI Zr 1) ⟨Z,Y⟩ ?hA ?hend
  case hR=>exact fun t v w w' D h=>h.keep ⟨NuI.below D,NuI.below D,Y⟩
  case hG=>exact Y
  case hA =>
   subst H r
   repeat
    refine⟨fun a G g i K W=>?_,?_⟩
    focus
     obtain⟨k0,-⟩:=i
     conv at k0=>whnf;rhs;whnf
     have c0:=Qk N g;have c1:=Qk P g;have hw:=p.out.bel.trans (g.mono p.out.bel.size);go_simp
     first
      | with_reducible refine Xm (QaV _ _ _ G (Ya D.out hw) b1) ?_
        rintro e w9 ⟨R,X,rfl,h9,B⟩;exact W _ _ B (g.trans (B.mono g.size)) ⟨R,X,Z,Yc h9 (fun k i _=>Zt g.size i)⟩
      | with_reducible refine Xm (QaV _ _ _ G (Ya hg.out hw) b2) ?_
        rintro e w9 ⟨R,X,rfl,h9,B⟩;exact W _ _ B (g.trans (B.mono g.size)) ⟨R,X,Z,Yc h9 (fun k i _=>Zt g.size i)⟩
      | exact W _ _ Zr g Z
   trivial
  case hend =>
   rintro U x y g i;have M:NuI _ _ (x 5) y:=i 5 (by kernel_rfl);have J:NuI _ _ (x 8) y:=i 8 (by kernel_rfl);obtain⟨p5,c5,S,-⟩:=id M
   obtain⟨p8,c8,V,-⟩:=id J
   rw[S] at M
   rw[V] at J
   have e9:x 9=Pv w.heap.size o:=i 9 (by kernel_rfl);have L:=p.out.below g;have c0:=Qk N g;have c1:=Qk P g;have z0:=L.free (a:=[_]) o;have z1:=L.free (a:=[_]) z;have I:=(L.set (a:=[_]) o (.slice p5 j.length c5)).set (a:=[_]) z (.slice p8 l.length c8);have O:=Qf (I.at (a:=[_]));have e1:∀ o,(w.alloc o).heap.size=w.heap.size+1:=fun o=>by simp
   have A:=I.at (a:=[]);have m:=(p.out.at (a:=[])).lt;rw[e1] at A m
   replace A:=Qf A;replace m:=Qf m;clear e1;have E6:=Qf I.bel;have K5:=Qf M;have K8:=Qf J
   have hO:Hid (∀ k,q.heap.size<=k->((y.setCell ⟨w.heap.size,o,none⟩ (.slice p5 j.length c5)).setCell ⟨w.heap.size,z,none⟩ (.slice p8 l.length c8)).heap[k]?=y.heap[k]?):=fun k h=>by
    have:=(p.out.at (a:=[_])).lt
    rw[Xd _ _ _ _ (show k≠w.heap.size by omega),Xd _ _ _ _ (show k≠w.heap.size by omega)]
   subst H r;show wpList _ U _ [_,_,_] (QM _ x [3,4,5,6,7,8,9]) y;simp only[QM,Act.put,List.setIfInBounds_toArray,List.set_cons_zero,List.set_cons_succ,S,V,e9]
   clear M J i S V e9 L I p D hg N P g;go_upto_region 2 with fail
   generalize World.setCell (World.setCell y _ _) _ _=w6 at O A E6 hO |-;have Q:=O.out;simp only[List.setIfInBounds_toArray,List.set_cons_zero,List.set_cons_succ] at Q
   have RZ:=Qf (Blk.range Q);clear O Q;go_wp2_with (first | (refine wpList_load_mid Z _ (.tmp 1) Z w.heap.size 0 Z _ _ RZ.out T Z s ?_) | (refine wpList_store_mid Z _ (.tmp 2) (.tmp 11) Z (w.heap.size+1) 0 _ Z Z (Blk.there A.out Ze) s (all_oneCell_toArray (Xe.1 Z)) ?_))
   have i:∀ x k,q.heap.size<=k->(w6.setCells (w.heap.size+1) 0 x).heap[k]?=y.heap[k]?:=fun x k h=>(QF (by have:=m.out;omega) x 0 w6).trans (hO.out k h);have h3:w.heap.size<=q.heap.size:=by have:=m.out;omega
   exact Qb4 (t:=2) Z Z Z (Blk.setsA A.out _ Z) T Z s ⟨_,_,Z,K5.out.move (i _) h3,K8.out.move (i _) h3,QJ (by omega) _ _ _ 0 E6.out⟩
def NuT (lo:Nat) (x:MTo) (v:Value) (w:World):Prop:=∃ a b,v=.agg #[Iv x.block,a,b]/\NuI lo x.regs a w/\NuI lo x.args b w
theorem NuT.below {lo:Nat}{x:MTo}(b:Below w.heap.size w w') (h:NuT lo x v w):NuT lo x v w':=by
 obtain⟨p,q,rfl,h,k⟩:=h
 exact⟨p,q,Z,h.below b,k.below b⟩
theorem NuI.in {lo:Nat}(h:NuI lo l v w):intsL.In w (Qcs lo) l [v]:=by obtain⟨p,c,rfl,h⟩:=h;exact h
theorem NuI.lo {lo a:Nat}(h:NuI lo l v w) (b:a<=lo):NuI a l v w:=h.move (fun _ _=>rfl) b
theorem Qld {x:MTo}(h:QhA w All x pR cR pA cA) (g:x.regs.length<=4294967296) (f:x.args.length<=4294967296):Calls prog 232 #[.agg #[Iv x.block,.slice pR x.regs.length cR,.slice pA x.args.length cA]] w fun e w'=>∃ v,e=.returned v/\NuT w.heap.size x v w'/\Below w.heap.size w w' :=
 (Qll (cs:=[Iv x.block]) (.inl ⟨Z,_,Z⟩) h.regs h.args g f).mono fun e w' ⟨u,v,a,b,c,d⟩=>⟨_,a,⟨u,v,Z,b,c⟩,d⟩
theorem QlH {x:ZC}{i:EP}(h0:EIn w All x i) (y:x.small) :
 Calls prog 188 #[.agg #[Iv x.op,Iv x.a,Iv x.yes.block,.slice i.pYR x.yes.regs.length i.cYR,.slice i.pYA x.yes.args.length i.cYA,Iv x.no.block,.slice i.pNR x.no.regs.length i.cNR,.slice i.pNA x.no.args.length i.cNA,.slice i.pA x.args.length i.cA]] w fun e w'=>Qic endL w w' x e:=by
 have H:=Qf h0;have P:x.yes.regs.length<=4294967296:=by have:=y.1.1;omega
 have W:x.yes.args.length<=4294967296:=by have:=y.1.2;omega
 have G:x.no.regs.length<=4294967296:=by have:=y.2.1.1;omega
 have I:x.no.args.length<=4294967296:=by have:=y.2.1.2;omega
 have J:x.args.length<=4294967296:=by have:=y.2.2;omega
 clear h0 y;have l:=Qf (((Bxs.start w).new #[Iv x.op,Iv x.a,Iv x.yes.block,.slice i.pYR x.yes.regs.length i.cYR,.slice i.pYA x.yes.args.length i.cYA,Iv x.no.block,.slice i.pNR x.no.regs.length i.cNR,.slice i.pNA x.no.args.length i.cNA,.slice i.pA x.args.length i.cA] 84).new #[Iv 0,Iv 0,Iv 0,Nv,Nv,Iv 0,Nv,Nv,Nv] 84);go_enter func188,ntmps188
 go_upto_region 1 with fail
 generalize World.alloc (World.alloc w _) _=m at l |-;refine Qg 10 (Ql0 [(5,NuT m.heap.size x.yes),(8,NuT m.heap.size x.no),(11,NuI m.heap.size x.args)] [(1,Pv w.heap.size 0),(3,Pv w.heap.size 2),(4,.agg #[Iv x.yes.block,.slice i.pYR x.yes.regs.length i.cYR,.slice i.pYA x.yes.args.length i.cYA]),(6,Pv w.heap.size 5),(7,.agg #[Iv x.no.block,.slice i.pNR x.no.regs.length i.cNR,.slice i.pNA x.no.args.length i.cNA]),(9,Pv w.heap.size 8),(10,.slice i.pA x.args.length i.cA),(12,Pv w.heap.size 2)]) (fun N=>Below m.heap.size m N) (fun w w'=>Below w.heap.size w w') (by kernel_rfl) (outs:=[1]) (gs:=[]) (bs:=[true,true,true,true,true,true,true,true,true,true]) (n:=16) Z Ze (by kernel_rfl) (by kernel_rfl) ?hR ?hG (QI Zr 1) ⟨Z,Y⟩ ?hA ?hend
 case hR=>exact fun t v w w' F h=>h.keep ⟨NuT.below F,NuT.below F,NuI.below F,Y⟩
 case hG=>exact Y
 case hA =>
  have u:=fun j=>l.out.cell (a:=[_]) j
  repeat
   refine⟨fun a N b d K E=>?_,?_⟩
   focus
    obtain⟨k0,-⟩:=d
    conv at k0=>whnf;rhs;whnf
    have c2:=Qk (u 2 _ Z) b;have c3:=Qk (u 3 _ Z) b;have c4:=Qk (u 4 _ Z) b;have c5:=Qk (u 5 _ Z) b;have c6:=Qk (u 6 _ Z) b;have c7:=Qk (u 7 _ Z) b;have c8:=Qk (u 8 _ Z) b;have f:=l.out.bel.trans (b.mono l.out.bel.size);go_simp
    first
     | with_reducible refine Xm (Qld (H.out.yes.below f) P W) ?_
       rintro e w9 ⟨v9,rfl,⟨V,X,rfl,M,A⟩,g⟩;exact E _ _ g (b.trans (g.mono b.size)) ⟨V,X,Z,M.lo b.size,A.lo b.size⟩
     | with_reducible refine Xm (Qld (H.out.no.below f) G I) ?_
       rintro e w9 ⟨v9,rfl,⟨V,X,rfl,M,A⟩,g⟩;exact E _ _ g (b.trans (g.mono b.size)) ⟨V,X,Z,M.lo b.size,A.lo b.size⟩
     | with_reducible refine Xm (QaV _ _ _ N (Ya H.out.args f) J) ?_
       rintro e w9 ⟨p9,c9,rfl,A,g⟩;exact E _ _ g (b.trans (g.mono b.size)) ⟨p9,c9,Z,Yc A (fun k d _=>Zt b.size d)⟩
     | exact E _ _ Zr b Z
  trivial
 case hend =>
  rintro R B s b d;obtain⟨y1,y2,e5,L,U⟩:NuT _ _ (B 5) s:=d 5 (by kernel_rfl)
  obtain⟨n1,n2,e8,S,O⟩:NuT _ _ (B 8) s:=d 8 (by kernel_rfl)
  have D:NuI _ _ (B 11) s:=d 11 (by kernel_rfl);have z:B 12=Pv w.heap.size 2:=d 12 (by kernel_rfl);obtain⟨q1,d1,rfl,-⟩:=id L
  obtain⟨q2,d2,rfl,-⟩:=id U
  obtain⟨q3,d3,rfl,-⟩:=id S
  obtain⟨q4,d4,rfl,-⟩:=id O
  obtain⟨q5,d5,p,-⟩:=id D
  rw[p] at D
  have c:=l.out.below b;have z2:=c.free (a:=[_]) 2;have z3:=c.free (a:=[_]) 3;have z4:=c.free (a:=[_]) 4;have z5:=c.free (a:=[_]) 5;have z6:=c.free (a:=[_]) 6;have z7:=c.free (a:=[_]) 7;have z8:=c.free (a:=[_]) 8;have c2:=c.cell (a:=[_]) 2 _ Z;have c3:=c.cell (a:=[_]) 3 _ Z;have c4:=c.cell (a:=[_]) 4 _ Z;have c5:=c.cell (a:=[_]) 5 _ Z;have c6:=c.cell (a:=[_]) 6 _ Z;have c7:=c.cell (a:=[_]) 7 _ Z;have c8:=c.cell (a:=[_]) 8 _ Z;have r:=((((((c.set (a:=[_]) 2 (Iv x.yes.block)).set (a:=[_]) 3 (.slice q1 x.yes.regs.length d1)).set (a:=[_]) 4 (.slice q2 x.yes.args.length d2)).set (a:=[_]) 5 (Iv x.no.block)).set (a:=[_]) 6 (.slice q3 x.no.regs.length d3)).set (a:=[_]) 7 (.slice q4 x.no.args.length d4)).set (a:=[_]) 8 (.slice q5 x.args.length d5);simp only[List.setIfInBounds_toArray,List.set_cons_zero,List.set_cons_succ] at r
  generalize f:World.setCell _ _ _=w6 at r;have e1:∀ o,(w.alloc o).heap.size=w.heap.size+1:=fun o=>by simp
  have C:=r.at (a:=[]);have RZ:=Qf (Blk.range (r.at (a:=[_])));have Q:=(l.out.at (a:=[])).lt;have aa:=(l.out.at (a:=[_])).lt;rw[e1] at C Q
  replace C:=Qf C;have E6:=Qf r.bel;have T:=Qf (show EIn s (Qcs m.heap.size) x ⟨q1,d1,q2,d2,q3,d3,q4,d4,q5,d5⟩ from ⟨⟨L.in,U.in,H.out.yes.bnd⟩,⟨S.in,O.in,H.out.no.bnd⟩,D.in,H.out.bnd⟩)
  have hO:Hid (∀ k,m.heap.size<=k->w6.heap[k]?=s.heap[k]?):=fun k h=>by
   rw[<-f]
   iterate 7 rw[Xd _ _ _ _ (show k≠w.heap.size by omega)]
  show wpList _ R _ [_,_,_,_,_] (QM _ B [3,4,5,6,7,8,9,10,11,12]) s;simp only[QM,Act.put,List.setIfInBounds_toArray,List.set_cons_zero,List.set_cons_succ,e5,e8,p,z]
  clear e5 e8 p z c r b l H e1 L U S O D d;replace f:=Qf f;go_upto_region 2 with fail
  rw[f.out]
  clear f c2 c3 c4 c5 c6 c7 c8 z2 z3 z4 z5 z6 z7 z8;have hu:=underlying84;have q:(prog.info? 84).map (·.size)=some 9:=by kernel_rfl
  go_wp2_with (first | (refine wpList_load_mid Z _ (.tmp 1) Z w.heap.size 0 Z _ _ RZ.out hu Z q ?_) | (refine wpList_store_mid Z _ (.tmp 2) (.tmp 15) Z (w.heap.size+1) 0 _ Z Z (Blk.there C.out Ze) q (all_oneCell_toArray (Xe.1 Z)) ?_))
  exact Qb4 (t:=2) Z Z Z (Blk.setsA C.out _ Z) hu Z q ⟨_,Z,QgN (T.out.keep (fun k d _=>(QF (by have:_<=k:=d;omega) _ 0 w6).trans (hO.out k d)) (fun k d _=>by have:_<=k:=d;show _<=k;omega)),QJ (by omega) _ _ _ 0 E6.out⟩
def Qmg (n:Nat):Prop:=∀ (t:TT n) (ds:List Value) (w:World),(Lay.tt n).In w All t ds->t.count<=100000->Calls prog 123 #[.agg ds.toArray] w fun e w'=>Qic (Lay.tt n) w w' t e
theorem Qmt (w:World) (O:Nat->Prop) (x:TT n) (b:List Value) (h:(Lay.tt n).In w O x b):∀ v∈b,v.oneCell'=true:=by
 obtain⟨a,c,rfl,-⟩:=h
 exact Xe.1 Z
theorem enters1:Qag 123:=fun _ _=>by kernel_rfl
theorem enters2:Qag 187:=fun _ _=>by kernel_rfl
theorem enters3:Qag 125:=fun _ _=>by kernel_rfl
theorem enters4:Qag 77:=fun _ _=>by kernel_rfl
theorem cOwnType_:∀ n,Qmg n:=by
 intro n
 induction n with
 | zero=>intro t;exact Empty.elim t
 | succ n ih =>
   intro t B w s R;have v:∀ x∈t.2.2,x.count<=100000:=fun x z=>by have:=t.count_kid z;omega
   have E:t.2.2.length<=100000:=by have:=t.len_lt_count;rw[t.len_eq] at this;omega
   obtain⟨p,c,rfl,s,j⟩:=s
   have e:Hid _:=Qfd (c:=c) s.list j.2;clear s;simp only[TT.len_eq]
   have g:=Qf (((Bxs.start w).new #[Iv t.kind,Iv t.r,.slice p t.2.2.length c] 105).new #[Iv 0,Iv 0,Nv] 105);have u:∀ o,(w.alloc o).heap.size=w.heap.size+1:=fun o=>by simp
   have b:Hid (w.heap.size+1<((w.alloc (.cells #[Iv t.kind,Iv t.r,.slice p t.2.2.length c] 105)).alloc (.cells #[Iv 0,Iv 0,Nv] 105)).heap.size):=by have:=(g.out.at (a:=[])).lt;rw[u] at this;exact this
   go_enter func123,ntmps123
   go_upto_region 1 with fail
   generalize World.alloc (World.alloc w _) _=P at g b |-;have C:=g.out.cell (a:=[_]) 2 _ Z;have J:=Qf (Z0 (A:=Lay.tt n) (.inl ⟨Z,Z⟩) enters1 (Ya e.out g.out.bel) (by omega) Qmt (fun x z B M h=>ih x B M h (v x z)));go_wp2_with fail
   refine J.out.mono ?_;rintro _ y ⟨l,q,rfl,F,G⟩;have m:=g.out.below G;have C:=m.cell (a:=[_]) 2 _ Z;have Q:=m.free (a:=[_]) 2;have i:=m.set (a:=[_]) 2 (.slice l t.2.2.length q);simp only[List.setIfInBounds_toArray,List.set_cons_zero,List.set_cons_succ] at i
   have f:=i.at (a:=[]);rw[u] at f
   replace f:=Qf f;have K:=Qf i.bel;have L:=Qf (Blk.range (i.at (a:=[_])));have D:Hid (∀ k,P.heap.size<=k->(y.setCell ⟨w.heap.size,2,none⟩ (.slice l t.2.2.length q)).heap[k]?=y.heap[k]?):=fun k h=>Xd _ _ _ _ (show k≠w.heap.size by have:=b.out;omega);have O:=Qf F;clear J m i g F G e u;go_upto_region 2 with fail
   generalize World.setCell y _ _=I at f K L D |-;clear C Q;have H:=underlying105;have d:=Qbt infoType0;go_wp2_with (first | (refine wpList_load_mid Z _ (.tmp 1) Z w.heap.size 0 Z _ _ L.out H Z d ?_) | (refine wpList_store_mid Z _ (.tmp 2) (.tmp 7) Z (w.heap.size+1) 0 _ Z Z (Blk.there f.out Ze) d (all_oneCell_toArray (Xe.1 Z)) ?_))
   have S:=b.out;have N:=QW (Lay.keep (Qp n) (w':=I.setCells (w.heap.size+1) 0 [Iv t.kind,Iv t.r,.slice l t.2.2.length q]) (O':=Qcs w.heap.size) (fun k e _=>(QF (by have:_<=k:=e;omega) _ 0 I).trans (D.out k e)) (fun k e _=>by have:_<=k:=e;show _<=k;omega) O.out);exact Qb4 (t:=2) Z Z Z (Blk.setsA f.out _ Z) H Z d ⟨_,Z,⟨l,q,by rw[TT.len_eq],N.1,j⟩,QJ (by omega) _ _ _ 0 K.out⟩
theorem Qdl {α:Type}{A:Lay α}{lo:Nat}{x:α}(h:A.In w (Qcs lo) x ds){p:Addr}(a:p.block<lo) (v:Value):A.In (w.setCell p v) (Qcs lo) x ds:=Lay.setCell h (fun e=>by have:lo<=p.block:=e;omega) v
theorem Qbz {α:Type}{A:Lay α}{lo hi:Nat}{x:α}(h:A.In w (Qcs hi) x ds) (b:lo<=hi):A.In w (Qcs lo) x ds:=Yc h (fun k a _=>Zt b a)
theorem Qno (w:World) (O:Nat->Prop) (x:Qs) (a:List Value) (h:insL.In w O x a):∀ v∈a,v.oneCell'=true:=by
 obtain⟨i,rfl,-⟩:=Qeh h
 exact Xe.1 Z
theorem Qmx (w:World) (O:Nat->Prop) (x:ZC) (a:List Value) (h:endL.In w O x a):∀ v∈a,v.oneCell'=true:=by
 obtain⟨i,rfl,-⟩:=Qer h
 exact Xe.1 Z
theorem Qnc (w:World) (O:Nat->Prop) (x:MBlock n) (a:List Value) (h:(Zn n).In w O x a):∀ v∈a,v.oneCell'=true:=by
 obtain⟨i,rfl,-⟩:=Qcd h
 exact Xe.1 Z
theorem Qnd (w:World) (O:Nat->Prop) (x:MFunc n) (a:List Value) (h:(ZS n).In w O x a):∀ v∈a,v.oneCell'=true:=by
 obtain⟨i,rfl,-⟩:=Qda h
 exact Xe.1 Z
theorem QcJ {l:List (TT n)}(h:(Qp n).In w All l [.slice p l.length c]) (a:Qc5 l):Calls prog 122 #[.slice p l.length c,.func (.func 123) #[] #[]] w fun e w'=>Qhs (Lay.tt n) w w' l e :=
 Z0 (.inl ⟨Z,Z⟩) enters1 h (by have:=a.1;omega) Qmt (fun x d b f h=>cOwnType_ n x b f h (a.2 x d))
theorem Qlx {l:List Qs}(h:insL.list.In w All l [.slice p l.length c]) (t:l.length<=100000) (g:∀ x∈l,x.small):Calls prog 186 #[.slice p l.length c,.func (.func 187) #[] #[]] w fun e w'=>Qhs insL w w' l e :=
 Z0 (.inr (.inl ⟨Z,Z⟩)) enters2 h (by omega) Qno (fun x j r s h=>by
  obtain⟨i,rfl,f⟩:=Qeh h
  refine(Qll (cs:=[Iv x.op,Iv x.a,Iv x.b,Iv x.c,Iv x.k,Iv x.n]) (.inr ⟨Z,_,_,_,_,_,_,Z⟩) f.regs f.args (by have:=(g x j).1;omega) (by have:=(g x j).2;omega)).mono ?_
  rintro e w' ⟨u,v,rfl,⟨a,c,rfl,m⟩,⟨b,d,rfl,o⟩,q⟩;exact⟨_,Z,QmP m o f.bnd,q⟩)
theorem QiT {x:MBlock n}(h:(Zn n).In w All x ds) (hs:x.small):Calls prog 125 #[.agg ds.toArray] w fun e w'=>Qic (Zn n) w w' x e:=by
 obtain⟨i,rfl,hb⟩:=Qcd h
 have H:=Qf hb;have K:=Qf hs;clear h hb hs;have A:=Qf (((Bxs.start w).new #[Iv x.regs,.slice i.pP x.params.length i.cP,.slice i.pC x.code.length i.cC,Iv x.fin.op,Iv x.fin.a,Iv x.fin.yes.block,.slice i.e.pYR x.fin.yes.regs.length i.e.cYR,.slice i.e.pYA x.fin.yes.args.length i.e.cYA,Iv x.fin.no.block,.slice i.e.pNR x.fin.no.regs.length i.e.cNR,.slice i.e.pNA x.fin.no.args.length i.e.cNA,.slice i.e.pA x.fin.args.length i.e.cA] 86).new #[Iv 0,Nv,Nv,Iv 0,Iv 0,Iv 0,Nv,Nv,Iv 0,Nv,Nv,Nv] 86);have X:∀ o,(w.alloc o).heap.size=w.heap.size+1:=fun o=>by simp
 have b:=Qf ((A.out.at (a:=[])).lt);rw[X] at b
 go_enter func125,ntmps125
 go_upto_region 1 with fail
 generalize World.alloc (World.alloc w _) _=r at A b |-;have c1:=A.out.cell (a:=[_]) 1 _ Z;have C1:=Qf (QcJ (Ya H.out.params A.out.bel) K.out.2.1);go_wp2_with fail
 refine C1.out.mono ?_;rintro _ w4 ⟨m,s,rfl,I1,B4⟩;have Q:=A.out.below B4;replace c1:=Q.cell (a:=[_]) 1 _ Z;have z1:=Q.free (a:=[_]) 1;have D:=Qf (Q.set (a:=[_]) 1 (.slice m x.params.length s));have J1:=Qf (Qdl I1 (p:=⟨w.heap.size,1,none⟩) (by have:=b.out;show w.heap.size<_;omega) (.slice m x.params.length s));have b5:=Qf B4.size;clear Q C1 I1 B4 A;go_upto_region 2 with fail
 generalize C:World.setCell w4 _ _=w5 at D J1 |-;have z:Hid (r.heap.size<=w5.heap.size):=by show _<=_;rw[<-C];simpa using b5.out
 clear C b5 c1 z1;have c2:=D.out.cell (a:=[_]) 2 _ Z;have C2:=Qf (Qlx (Ya H.out.code D.out.bel) K.out.1 K.out.2.2.2);go_wp2_with fail
 refine C2.out.mono ?_;rintro _ w6 ⟨g,j,rfl,I2,M⟩;have P:=D.out.below M;replace c2:=P.cell (a:=[_]) 2 _ Z;have z2:=P.free (a:=[_]) 2;have l:=P.set (a:=[_]) 2 (.slice g x.code.length j);have W:w.heap.size<r.heap.size:=by have:=b.out;omega
 have K1:=Qf (Qdl (Ya J1.out M) (p:=⟨w.heap.size,2,none⟩) W (.slice g x.code.length j));have K2:=Qf (Qdl (Qbz I2 z.out) (p:=⟨w.heap.size,2,none⟩) W (.slice g x.code.length j));have b7:=Qf (Zt z.out M.size);simp only[List.setIfInBounds_toArray,List.set_cons_zero,List.set_cons_succ] at l
 replace l:=Qf l;clear P C2 I2 M D J1;go_upto_region 3 with fail
 generalize G:World.setCell w6 _ _=w7 at l K1 K2 |-;have J:Hid (r.heap.size<=w7.heap.size):=by show _<=_;rw[<-G];simpa using b7.out
 clear G b7 c2 z2 z;have hE:=Qf (Qlu (l.out.at (a:=[_])) 3 9 Z);have C3:=Qf (QlH (H.out.fin.below l.out.bel) K.out.2.2.1);have hu:=underlying84;have L:(prog.info? 84).map (·.size)=some 9:=by kernel_rfl
 have W:w.heap.size<r.heap.size:=by have:=b.out;omega
 go_wp2_with (refine wpList_load_mid Z _ (.tmp 11) Z w.heap.size 3 Z _ _ hE.out hu Z L ?_)
 refine C3.out.mono ?_;rintro _ f ⟨c,rfl,O,R⟩;have B:=endL.len O;have he:=Qf (all_oneCell_toArray (Qmx _ _ _ _ O));have N:=l.out.below R;have HB:=N.at (a:=[_]);have HT:=Qf (Blk.there (o:=3) (n:=c.toArray.size) HB (by rw[List.size_toArray,B];exact Ze));have HK:=Qf (L.trans (congrArg some B.symm));have HZ:=Blk.sets c [Iv x.regs,.slice m x.params.length s,.slice g x.code.length j] _ f (by rw[B];rfl) HB;have T:=N.at (a:=[]);rw[X] at T
 have S:Hid (Blk (f.setCells w.heap.size 3 c) (w.heap.size+1) _ _):=(QF (by omega) c 3 f).trans T;have E6:=Qf (QJ Ze c f w 3 N.bel);have RZ:=Qf (Blk.range HZ);have hO:Hid (∀ k,r.heap.size<=k->(f.setCells w.heap.size 3 c).heap[k]?=f.heap[k]?):=fun k h=>QF (by omega) c 3 f;have L1:=Qf (Ya K1.out R);have L2:=Qf (Ya K2.out R);have L3:=Qf (Qbz O J.out);have V:=H.out.bnd;clear N HB HZ T C3 K1 K2 O R hE l H K J X;go_upto_region 4 with (refine wpList_store_mid Z _ (.tmp 14) (.tmp 13) Z w.heap.size 3 c.toArray Z Z HT.out HK.out he.out ?_)
 generalize World.setCells f _ _ _=w9 at S E6 RZ hO |-;have E:=underlying86;have y:([Iv x.regs,.slice m x.params.length s,.slice g x.code.length j]++c:List Value).length=12:=by rw[List.length_append,B];rfl
 have d:=Qf ((Qbt infoBlock).trans (congrArg some y.symm));have u:=Qf y;have F:=Qf (all_oneCell_toArray (cs:=[Iv x.regs,.slice m x.params.length s,.slice g x.code.length j]++c) (fun v hv=>(List.mem_append.1 hv).elim (fun h=>Xe.1 (rfl:([Iv x.regs,.slice m x.params.length s,.slice g x.code.length j]:List Value).all (·.oneCell')=true) v h) (Qmx _ _ _ _ L3.out v)));generalize I:([Iv x.regs,.slice m x.params.length s,.slice g x.code.length j]++c:List Value)=q at RZ d u F;replace I:=Qf I;clear y HT HK he B;go_wp2_with (first | (refine wpList_load_mid Z _ (.tmp 1) Z w.heap.size 0 Z q _ RZ.out E Z d.out ?_) | (refine wpList_store_mid Z _ (.tmp 2) (.tmp 15) Z (w.heap.size+1) 0 q.toArray Z Z (Blk.there S.out (by rw[List.size_toArray,u.out];exact Ze)) d.out F.out ?_))
 have hk:∀ k,r.heap.size<=k->(w9.setCells (w.heap.size+1) 0 q).heap[k]?=f.heap[k]?:=fun k h=>(QF (by have:=b.out;omega) _ 0 w9).trans (hO.out k h);have U:w.heap.size<=r.heap.size:=by omega
 replace I:=I.out;subst I;refine Qb4 (t:=2) Z Z Z (Blk.setsA S.out _ u.out) E Z d.out ⟨_,Z,?_,QJ (by omega) _ _ _ 0 E6.out⟩;exact QgA (Lay.keep _ (fun k h _=>hk k h) (fun k h _=>Zt U h) L1.out) (Lay.keep _ (fun k h _=>hk k h) (fun k h _=>Zt U h) L2.out) (Lay.keep _ (fun k h _=>hk k h) (fun k h _=>Zt U h) L3.out) V
theorem QkL {x:MFunc n}(h:(ZS n).In w All x ds) (hs:x.small):Calls prog 77 #[.agg ds.toArray] w fun e w'=>Qic (ZS n) w w' x e:=by
 obtain⟨i,rfl,V⟩:=Qda h
 have H:=Qf V;have u:=Qf hs;clear h V hs;have f:=Qf (((Bxs.start w).new #[Iv x.regs,.slice i.pP x.params.length i.cP,.slice i.pR x.results.length i.cR,.slice i.pB x.blocks.length i.cB] 89).new #[Iv 0,Nv,Nv,Nv] 89);have P:∀ o,(w.alloc o).heap.size=w.heap.size+1:=fun o=>by simp
 have b:=Qf ((f.out.at (a:=[])).lt);rw[P] at b
 go_enter func77,ntmps77
 go_upto_region 1 with fail
 generalize World.alloc (World.alloc w _) _=m at f b |-;have c1:=f.out.cell (a:=[_]) 1 _ Z;have C1:=Qf (QcJ (Ya H.out.params f.out.bel) u.out.2.1);go_wp2_with fail
 refine C1.out.mono ?_;rintro _ w4 ⟨p1,d1,rfl,I1,Q⟩;have E:=f.out.below Q;replace c1:=E.cell (a:=[_]) 1 _ Z;have z1:=E.free (a:=[_]) 1;have l:=Qf (E.set (a:=[_]) 1 (.slice p1 x.params.length d1));have S:=Qf (Qdl I1 (p:=⟨w.heap.size,1,none⟩) (by have:=b.out;show w.heap.size<_;omega) (.slice p1 x.params.length d1));have b5:=Qf Q.size;clear E C1 I1 Q f;go_upto_region 2 with fail
 generalize j:World.setCell w4 _ _=w5 at l S |-;have c:Hid (m.heap.size<=w5.heap.size):=by show _<=_;rw[<-j];simpa using b5.out
 clear j b5 c1 z1;have c2:=l.out.cell (a:=[_]) 2 _ Z;have X:=Qf (QcJ (Ya H.out.results l.out.bel) u.out.2.2.1);go_wp2_with fail
 refine X.out.mono ?_;rintro _ w6 ⟨N,O,rfl,I2,z⟩;have D:=l.out.below z;replace c2:=D.cell (a:=[_]) 2 _ Z;have z2:=D.free (a:=[_]) 2;have v:=Qf (D.set (a:=[_]) 2 (.slice N x.results.length O));have q:w.heap.size<m.heap.size:=by have:=b.out;omega
 have T:=Qf (Qdl (Ya S.out z) (p:=⟨w.heap.size,2,none⟩) q (.slice N x.results.length O));have R:=Qf (Qdl (Qbz I2 c.out) (p:=⟨w.heap.size,2,none⟩) q (.slice N x.results.length O));have b7:=Qf (Zt c.out z.size);clear D X I2 z l S;go_upto_region 3 with fail
 generalize r:World.setCell w6 _ _=w7 at v T R |-;have s:Hid (m.heap.size<=w7.heap.size):=by show _<=_;rw[<-r];simpa using b7.out
 clear r b7 c2 z2 c;have c3:=v.out.cell (a:=[_]) 3 _ Z;have C3:=Qf (Z0 (A:=Zn n) (.inr (.inr (.inl ⟨Z,Z⟩))) enters3 (Ya H.out.blocks v.out.bel) (by have:=u.out.1;omega) Qnc (fun y hy ds wx h=>QiT h (u.out.2.2.2 y hy)));go_wp2_with fail
 refine C3.out.mono ?_;rintro _ w8 ⟨G,B,rfl,I3,F⟩;have C:=v.out.below F;replace c3:=C.cell (a:=[_]) 3 _ Z;have z3:=C.free (a:=[_]) 3;have g:=C.set (a:=[_]) 3 (.slice G x.blocks.length B);simp only[List.setIfInBounds_toArray,List.set_cons_zero,List.set_cons_succ] at g
 have K:=g.at (a:=[]);rw[P] at K
 have I:=Qf K;have E6:=Qf g.bel;have RZ:=Qf (Blk.range (g.at (a:=[_])));have L1:=Qf (Qdl (Ya T.out F) (p:=⟨w.heap.size,3,none⟩) q (.slice G x.blocks.length B));have L2:=Qf (Qdl (Ya R.out F) (p:=⟨w.heap.size,3,none⟩) q (.slice G x.blocks.length B));have L3:=Qf (Qdl (Qbz I3 s.out) (p:=⟨w.heap.size,3,none⟩) q (.slice G x.blocks.length B));have M:=H.out.bnd;clear C g K C3 T R I3 F v H u s P;go_upto_region 4 with fail
 generalize World.setCell w8 _ _=J at I E6 RZ L1 L2 L3 |-;clear c3 z3;have hu:=underlying89;have d:=Qbt infoFunc;go_wp2_with (first | (refine wpList_load_mid Z _ (.tmp 1) Z w.heap.size 0 Z _ _ RZ.out hu Z d ?_) | (refine wpList_store_mid Z _ (.tmp 2) (.tmp 15) Z (w.heap.size+1) 0 _ Z Z (Blk.there I.out Ze) d (all_oneCell_toArray (Xe.1 Z)) ?_))
 have U:∀ W k,m.heap.size<=k->(J.setCells (w.heap.size+1) 0 W).heap[k]?=J.heap[k]?:=fun W k h=>QF (by have:=b.out;omega) _ 0 J;have L:w.heap.size<=m.heap.size:=by omega
 exact Qb4 (t:=2) Z Z Z (Blk.setsA I.out _ Z) hu Z d ⟨_,Z,QiQ (Lay.keep _ (fun k h _=>U _ k h) (fun k h _=>Zt L h) L1.out) (Lay.keep _ (fun k h _=>U _ k h) (fun k h _=>Zt L h) L2.out) (Lay.keep _ (fun k h _=>U _ k h) (fun k h _=>Zt L h) L3.out) M,QJ (by omega) _ _ _ 0 E6.out⟩
theorem Qgn (m:List (MFunc n)) (p:Option Addr) (c:Nat) (w:World) (h:(QaN n).In w All m [.slice p m.length c]) (g:Qbe m) :
 Calls prog 47 #[.agg #[.slice p m.length c]] w fun e w'=>∃ v,e=.returned v/\(∃ a' c',v=.agg #[.slice a' m.length c']/\(QaN n).In w' (Qcs w.heap.size) m [.slice a' m.length c'])/\Below w.heap.size w w':=by
 have H:=Qf h;have q:=Qf g;clear h g;have d:=Qf (((Bxs.start w).new #[.slice p m.length c] 24).new #[Nv] 24);have l:∀ o,(w.alloc o).heap.size=w.heap.size+1:=fun o=>by simp
 have b:=Qf ((d.out.at (a:=[])).lt);rw[l] at b
 go_enter func47,ntmps47
 go_upto_region 1 with fail
 generalize World.alloc (World.alloc w _) _=B at d b |-;have J:=d.out.cell (a:=[_]) 0 _ Z;have u:=Qf (Z0 (A:=ZS n) (.inr (.inr (.inr ⟨Z,Z⟩))) enters4 (Ya H.out d.out.bel) (by have:=q.out.1;omega) Qnd (fun y x F G h=>QkL h (q.out.2 y x)));go_wp2_with fail
 refine u.out.mono ?_;rintro _ L ⟨i,j,rfl,s,r⟩;have k:=d.out.below r;have f:=k.at (a:=[]);rw[l] at f
 have K:=Qb f 0 _ Z;have I:=Qj f 0;have C:w.heap.size+1<B.heap.size:=b.out;have z:=Qf (Qh f 0 (.slice i m.length j));have E:=Qf (Qdl s (p:=⟨w.heap.size+1,0,none⟩) C (.slice i m.length j));have D:=Qf (k.bel.setCell (p:=⟨w.heap.size+1,0,none⟩) (by show w.heap.size<=w.heap.size+1;omega) (.slice i m.length j));clear k u s r d f l H q b;go_wp2
 exact Qb4 (t:=2) Z Z Z z.out underlying24 Z (by kernel_rfl) ⟨_,Z,⟨i,j,Z,Qbz E.out (by omega)⟩,D.out⟩
abbrev Qcf (be:Nat) (pm:Option Addr) (ml cm:Nat) (pi:Option Addr) (il ci most k:Nat):Array Value :=
 #[Pv be 0,.slice pm ml cm,.slice pi il ci,Iv most,.slice (some ⟨k,0,none⟩) 1 1,Iv 0,Nv,Nv,Iv 0,.bool false]
theorem WAt.begin {a:World}{e:Nat}{m:List (MFunc 6)}{d b lo:Nat}(C:Qdu a e bp (fun x=>d<=x/\x<b) (Est.new pages)) (I:(QaN 6).In a (fun x=>b<=x) m [.slice pm m.length cm])
 (G:intsL.In a (fun x=>b<=x) inp [.slice pi inp.length ci]) (H:inp.length<=ci) (N:b<=a.heap.size) (L:d<=b) (D:lo<=a.heap.size) :
 ∃ g,WAt (((a.alloc (.cells #[Iv 0,Iv 0,Iv 0,Nv] 132)).alloc (.cells #[Pv a.heap.size 0] 130)).alloc (.cells (Qcf e pm m.length cm pi inp.length ci most (a.heap.size+1)) 68)) (a.heap.size+1+1) most m (RM.start inp pages) g/\(∀ x,g.A x->d<=x)/\g.lo=lo/\g.lk=b:=by
 have t:=ZP a (.cells #[Iv 0,Iv 0,Iv 0,Nv] 132);have r:=t.trans ((ZP (a.alloc (.cells #[Iv 0,Iv 0,Iv 0,Nv] 132)) (.cells #[Pv a.heap.size 0] 130)).mono t.size);have n:=Qe a #[Iv 0,Iv 0,Iv 0,Nv] 132;have o:=Qe (a.alloc (.cells #[Iv 0,Iv 0,Iv 0,Nv] 132)) #[Pv a.heap.size 0] 130;have q:(a.alloc (.cells #[Iv 0,Iv 0,Iv 0,Nv] 132)).heap.size=a.heap.size+1:=by simp
 generalize a.alloc (.cells #[Iv 0,Iv 0,Iv 0,Nv] 132)=v at *;rw[q] at o
 have u:(v.alloc (.cells #[Pv a.heap.size 0] 130)).heap.size=a.heap.size+1+1:=by simp[q]
 replace n:(v.alloc (.cells #[Pv a.heap.size 0] 130)).heap[a.heap.size]?=_:=(Below.heap_alloc _ _ _ (by omega)).trans n;generalize v.alloc (.cells #[Pv a.heap.size 0] 130)=l at *;have j:=r.trans ((ZP l (.cells (Qcf e pm m.length cm pi inp.length ci most (a.heap.size+1)) 68)).mono r.size);have s:=Qe l (Qcf e pm m.length cm pi inp.length ci most (a.heap.size+1)) 68;rw[u] at s
 have B:(l.alloc (.cells (Qcf e pm m.length cm pi inp.length ci most (a.heap.size+1)) 68)).heap.size=a.heap.size+1+1+1:=by simp[u]
 replace n:(l.alloc (.cells (Qcf e pm m.length cm pi inp.length ci most (a.heap.size+1)) 68)).heap[a.heap.size]?=_:=(Below.heap_alloc _ _ _ (by omega)).trans n;replace o:(l.alloc (.cells (Qcf e pm m.length cm pi inp.length ci most (a.heap.size+1)) 68)).heap[a.heap.size+1]?=_:=(Below.heap_alloc _ _ _ (by omega)).trans o;generalize l.alloc (.cells (Qcf e pm m.length cm pi inp.length ci most (a.heap.size+1)) 68)=z at *;clear t r q u;obtain⟨F,E⟩:∃ F,a.heap.size=F:=⟨_,Z⟩
 rw[E] at n o s B |-
 let ow:Nat->Nat:=fun x=>if x=F+1+1 then 1 else if d<=x/\x<b then 2 else if x=F+1 then 3 else if x=F then 5 else 0
 have w:∀ x,b<=x->x<F->ow x=0:=fun x K M=>by
  show (if x=F+1+1 then 1 else if d<=x/\x<b then 2 else if x=F+1 then 3 else if x=F then 5 else 0)=0;rw[Xr (by omega),Xr (by omega),Xr (by omega),Xr (by omega)]
 have y:∀ x,ow x≠0->d<=x/\x<F+1+1+1:=fun x h=>by
  have h:(if x=F+1+1 then 1 else if d<=x/\x<b then 2 else if x=F+1 then 3 else if x=F then 5 else 0)≠0:=h;split at h
  ·omega
  ·split at h
   ·omega
   ·split at h
    ·omega
    ·split at h
     ·omega
     ·exact absurd Z h
 refine⟨⟨ow,e,bp,pm,cm,pi,ci,.slice (some ⟨F+1,0,none⟩) 1 1,Nv,Nv,⟨F,Nv⟩,[],lo,b⟩,⟨s,?_,?_,?_,H,?_,⟨none,0,Z,fun i J=>by simp[RM.start] at J⟩,⟨Z,.inl ⟨Z,Z⟩⟩,?_,Xs Z,fun x c=>?_,fun x c=>by simp[Value.ownBlock] at c,fun x c=>?_,?_⟩,fun x c=>(y x c).1,Z,Z⟩
 ·have k:=C.step (P:=fun _=>False) (P':=fun _=>False) (w':=z) ⟨j.os,j.tape,j.output,j.size,fun x c _=>j.block x c,fun _ h=>h.elim⟩ (fun _ _ h=>h);refine⟨k.1.mono (fun x c _=>?_),k.2⟩
  show (if x=F+1+1 then 1 else if d<=x/\x<b then 2 else if x=F+1 then 3 else if x=F then 5 else 0)=2;rw[Xr (by omega),Xs c]
 ·exact(QaN 6).keep (fun k f p=>j.block k p) (fun k f p=>⟨w k f (by omega),f,by show k<F+1+1;omega⟩) I
 ·exact intsL.keep (fun k f p=>j.block k p) (fun k f p=>⟨w k f (by omega),f,by show k<F+1+1;omega⟩) G
 ·exact⟨Z,.inr ⟨F+1,1,#[Pv F 0],Z,Xb _,o,Ze,by unfold maxLen;omega,Z,Z⟩⟩
 ·refine⟨⟨⟨n,⟨Z,.inl ⟨Z,Z⟩⟩⟩,?_,fun k f=>by simp[Value.ownBlock] at f⟩,Y⟩
  show (if F=F+1+1 then 1 else if d<=F/\F<b then 2 else if F=F+1 then 3 else if F=F then 5 else 0)=5;rw[Xr (by omega),Xr (by omega),Xr (by omega),Xs Z]
 ·have:x=F+1:=by simpa[Value.ownBlock] using c.symm
  subst this;show (if F+1=F+1+1 then 1 else if d<=F+1/\F+1<b then 2 else if F+1=F+1 then 3 else if F+1=F then 5 else 0)=3;rw[Xr (by omega),Xr (by omega),Xs Z]
 ·rw[B];exact(y x c).2
 ·show lo<=z.heap.size;omega
def Qik (w:World) (m:List (MFunc 6)) (inp:List Int) (most pages:Nat) (e:Ending) (w':World):Prop :=
 ∃ b g,e=.returned (.tuple #[Pv b 0,Qbw 0 0])/\WAt w' b most m (RM.start inp pages) g/\(∀ x,g.A x->w.heap.size<=x)/\w.heap.size<=b/\(g.lo=w.heap.size/\w.heap.size<=g.lk)/\Below w.heap.size w w'
theorem QgE {m:List (MFunc 6)}(hM:(QaN 6).In w All m [.slice pm m.length cm]) (hs:Qbe m) (hI:intsL.In w All inp [.slice pi inp.length ci]) (o:∀ x∈inp,Qna x) (hi:inp.length<=200) (hf:most<=20000) (hp:pages<=64){a0:Int}
 (CV:∀ wx,Below w.heap.size w wx->Calls prog 66 #[.agg #[.slice pm m.length cm]] wx fun e w'=>e=.returned (Qbw 0 a0)/\Below wx.heap.size wx w') :
 Calls prog 32 #[.agg #[.slice pm m.length cm],.slice pi inp.length ci,Iv (most:Int),Iv (pages:Int)] w fun e w'=>Qik w m inp most pages e w':=by
 have HM:=Qc hM;have HS:=Qc hs;have HI:=Qc hI;have ab:=Qc o;have HL:=Qc (Xh hi (Xh hf hp));have u:=Qc (Qj1 w (.cells #[.slice pm m.length cm] 24) (.cells #[Iv 0,Iv 0] 32));have ac:=Qc CV;have d1:decide ((inp.length:Int)>200)=false:=Xu (by omega);have d2:decide ((most:Int)<0)=false:=Xu (by omega);have d3:decide ((most:Int)>20000)=false:=Xu (by omega);clear hM hs hI o hi hf hp CV;go_enter func32,ntmps32
 go_upto_region 1 with fail
 have A:Hid (Blk ((w.alloc (.cells #[.slice pm m.length cm] 24)).alloc (.cells #[Iv 0,Iv 0] 32)) w.heap.size #[.slice pm m.length cm] 24):=QnQ w #[.slice pm m.length cm] 24 _;have L:Hid (Blk ((w.alloc (.cells #[.slice pm m.length cm] 24)).alloc (.cells #[Iv 0,Iv 0] 32)) (w.heap.size+1) #[Iv 0,Iv 0] 32):=Qme w _ #[Iv 0,Iv 0] 32;generalize (w.alloc (.cells #[.slice pm m.length cm] 24)).alloc (.cells #[Iv 0,Iv 0] 32)=w2 at u A L |-;obtain⟨Y,hY⟩:∃ Y,w.heap.size+1=Y:=⟨_,Z⟩
 have HY:Hid (w.heap.size<=Y):=by show _<=_;omega
 rw[hY] at L |-
 clear hY;have x0:=Qb A.out 0 _ Z;generalize hX:w.heap.size=X at x0 A |-;have r:=Qc (ac.out w2 u.out);go_upto_region 2 with (go_at_call 66;refine r.out.mono ?_;rintro V y ⟨rfl,K⟩)
 have B:=Qe y #[Iv 0,Iv a0] 32;have z:=Qc (K.trans ((ZP y (.cells #[Iv 0,Iv a0] 32)).mono K.size));clear K r;generalize y.alloc (.cells #[Iv 0,Iv a0] 32)=w4 at B z |-;generalize y.heap.size=F at B |-;have c0:=Qb B 0 _ Z;clear B x0;have CE:=Qc (Qko w4 pages HL.out.2.2);go_upto_region 7 with (go_at_call 67;refine CE.out.mono ?_;rintro V i ⟨be,bp,rfl,hE,G⟩)
 clear c0 CE;have B6:=Qc (G.trans ((ZP i (.cells #[Iv 0,Iv 0] 32)).mono G.size));have D:=Qc (hE.step (P:=fun _=>False) (P':=fun _=>False) (w':=i.alloc (.cells #[Iv 0,Iv 0] 32)) ⟨Z,Z,Z,by simp,fun x f _=>Below.heap_alloc _ _ _ f,fun _ h=>h.elim⟩ (fun _ _ h=>h));have j:Hid (w4.heap.size<=i.heap.size/\i.heap.size<=(i.alloc (.cells #[Iv 0,Iv 0] 32)).heap.size):=⟨G.size,by simp⟩;have I:=Qe i #[Iv 0,Iv 0] 32;clear hE G;generalize i.alloc (.cells #[Iv 0,Iv 0] 32)=n at B6 D j I |-;generalize i.heap.size=H at D j I |-;have g0:=Qb I 0 _ Z;clear I;have W:=Qc (z.out.trans (B6.out.mono z.out.size));have X6:=Qk (Qb A.out 0 _ Z) W.out;have C:=Qc (u.out.trans (W.out.mono u.out.size));go_upto_region 9 with fail
 have CO:=Qc (Qgn m pm cm n (Ya HM.out C.out) HS.out);have r:Hid (∀ wx,Below n.heap.size n wx->Calls prog 48 #[.slice pi inp.length ci] wx fun e w'=>Qcn wx inp e w'):=fun wx bx=>Qhi (Ya (Ya HI.out C.out) bx) (by have:=HL.out.1;omega);clear g0;have T:=Qc (Blk.below L.out W.out);go_wp2_with (first | (go_at_call 47;refine CO.out.mono ?_;rintro V w7 ⟨v7,rfl,⟨a7,c7,rfl,p⟩,c⟩) | (go_at_call 48;refine(r.out _ c).mono ?_;rintro V d ⟨S,Q,rfl,R,l,q,b⟩;have N:=(Qj1 d (.cells #[Iv 0,Iv 0,Iv 0,Nv] 132) (.cells #[Pv d.heap.size 0] 130)).alloc (by simp;omega) (.cells #[Pv be 0,.slice a7 m.length c7,.slice S inp.length Q,Iv (most:Int),.slice (some ⟨d.heap.size+1,0,none⟩) 1 1,Iv 0,Nv,Nv,Iv 0,.bool false] 68);have a:=Blk.below (Blk.below (Blk.below T.out c) b) N;have y0:=Qb a 0 _ Z;have y1:=Qb a 1 _ Z;have z0:=Qj a 0;have z1:=Qj a 1))
 have ae:n.heap.size<=w7.heap.size:=c.size;have af:=b.size;have E8:=(D.out.step (P:=fun _=>False) (P':=fun _=>False) (w':=w7) ⟨c.os,c.tape,c.output,c.size,fun x f _=>c.block x f,fun _ h=>h.elim⟩ (fun _ _ h=>h)).step (P:=fun _=>False) (P':=fun _=>False) (w':=d) ⟨b.os,b.tape,b.output,b.size,fun x f _=>b.block x f,fun _ h=>h.elim⟩ (fun _ _ h=>h);obtain⟨M,ag⟩:=j.out
 have M8:(QaN 6).In d (fun x=>H<=x) m [.slice a7 m.length c7]:=Ya (Yc p (fun k hk _=>by have hk:n.heap.size<=k:=hk;show H<=k;omega)) b;have I8:intsL.In d (fun x=>H<=x) inp [.slice S inp.length Q]:=QjW l ab.out (fun x f=>by have:=q x f;show H<=x;omega);have J:w.heap.size<=w4.heap.size:=Zt u.out.size z.out.size;obtain⟨g,A9,hg,O,ad⟩:=WAt.begin (most:=most) (lo:=w.heap.size) E8 M8 I8 R (by omega) M (by omega)
 have C9:=C.out.trans ((c.trans ((b.trans (N.mono b.size)).mono c.size)).mono C.out.size);have aa:w.heap.size<=d.heap.size+1+1:=by omega
 have t:w.heap.size<=g.lk:=by omega
 clear y0 y1 z0 z1 N E8 M8 I8 p l q c b CO r D;generalize ((d.alloc (.cells #[Iv 0,Iv 0,Iv 0,Nv] 132)).alloc (.cells #[Pv d.heap.size 0] 130)).alloc (.cells (Qcf be a7 m.length c7 S inp.length Q most (d.heap.size+1)) 68)=E at *
 have U:((E.setCell ⟨Y,0,none⟩ (Iv 0)).setCell ⟨Y,1,none⟩ (Iv 0)).heap[Y]?=some (.cells #[Iv 0,Iv 0] 32 (0,0)):=by
  rw[Qh (Qh a 0 _) 1 _]
  simp
 have s:Below E.heap.size E ((E.setCell ⟨Y,0,none⟩ (Iv 0)).setCell ⟨Y,1,none⟩ (Iv 0)):=⟨Z,Z,Z,by simp,fun k hk=>by
  by_cases e:k=Y
  ·subst e;exact U.trans a.symm
  ·rw[Xd _ _ _ _ e,Xd _ _ _ _ e]⟩
 have f0:=Qb U 0 _ Z;have f1:=Qb U 1 _ Z;exact Xy (v:=.tuple #[Pv (d.heap.size+1+1) 0,Qbw 0 0]) (by simp[results,results32,go_sem,f0,f1]) Z ⟨_,g,Z,A9.below s,fun x f=>Zt J (hg x f),aa,⟨O,t⟩,C9.trans (s.mono C9.size)⟩
section
variable {m:List (MFunc 6)}{op:Int->Int->Int->Option Int}{R N r:RM}{x:Qs}{most:Nat}
theorem QdK (h size:Int) (l:List Int):(R.thing h size l).fuel=R.fuel/\(R.thing h size l).back=R.back:=by
 unfold RM.thing;split<;>exact⟨Z,Z⟩
theorem Qi5 (h:R.part x=some r):r.fuel=R.fuel/\r.back=R.back:=by
 unfold RM.part at h;repeat' split at h
 all_goals first | (cases h;done) | (cases h;exact⟨Z,Z⟩)
def FuO (f:Nat) (k:List Int) (o:Option RM):Prop:=∀ N,o=some N->N.fuel=f/\N.back=k
theorem FuO.no {k:List Int}:FuO f k none:=fun N h=>by cases h
theorem FuO.some {k:List Int}(h:R.fuel=f/\R.back=k):FuO f k (some R):=fun N e=>by cases e;exact h
theorem FuO.ite {k:List Int}{c:Prop}[Decidable c] {a b:Option RM}(d:c->FuO f k a) (e:¬ c->FuO f k b):FuO f k (if c then a else b):=by
 by_cases h:c
 ·rw[Xs h];exact d h
 ·rw[Xr h];exact e h
theorem ins_fuO:FuO R.fuel R.back (RM.ins op R x):=by
 unfold RM.ins;refine FuO.ite (fun _=>.some ⟨Z,Z⟩) fun _=>FuO.ite (fun _=>?_) fun _=>FuO.ite (fun _=>FuO.ite (fun _=>.some ⟨Z,Z⟩) (fun _=>.some ⟨Z,Z⟩)) fun _=>FuO.ite (fun _=>?_) fun _=>FuO.ite (fun _=>?_) fun _=>FuO.ite (fun _=>?_) fun _=>FuO.ite (fun _=>?_) fun _=>FuO.ite (fun _=>?_) fun _=>FuO.ite (fun e=>FuO.ite (fun d=>?_) (fun _=>.some ⟨Z,Z⟩)) (fun _ N h=>Qi5 h)
 ·cases iAt R.top.v x.a with
  | none=>exact .no
  | some a =>
    cases iAt R.top.v x.b with
    | none=>exact .no
    | some b =>
      simp only
      cases op x.k a b with
      | none=>exact .some ⟨Z,Z⟩
      | some c=>exact .some ⟨Z,Z⟩
 ·cases iAt R.top.v x.a with
  | none=>exact .no
  | some a=>exact .some ⟨Z,Z⟩
 ·cases iAt R.top.v x.a with
  | none=>exact .no
  | some a=>cases QaA R.top.v x.args with
    | none=>exact .no
    | some l=>exact .some (QdK _ _ _)
 ·cases iAt R.top.v x.a with
  | none=>exact .no
  | some a=>cases iAt R.top.v x.b with
    | none=>exact .no
    | some k=>exact FuO.ite (fun _=>.some (QdK _ _ _)) (fun _=>.some ⟨Z,Z⟩)
 ·cases R.inp with
  | nil=>exact .some ⟨Z,Z⟩
  | cons k l=>exact .some ⟨Z,Z⟩
 ·cases iAt R.top.v x.a with
  | none=>exact .no
  | some a=>exact FuO.ite (fun _=>.some ⟨Z,Z⟩) (fun _=>.some ⟨Z,Z⟩)
 ·cases QaA R.top.v x.args with
  | none=>exact .no
  | some l=>exact .some ⟨Z,Z⟩
theorem QkW (h:RM.ins op R x=some r):r.fuel=R.fuel/\r.back=R.back:=ins_fuO r h
theorem Qev {t:MTo}(h:R.to t=some r):r.fuel=R.fuel/\r.back=R.back:=by
 unfold RM.to at h;split at h
 ·cases h
 ·cases h;exact⟨Z,Z⟩
theorem Qiq {e:ZC}(h:R.endd e=some r):r.fuel=R.fuel/\(r.done=true\/r.back=R.back):=by
 unfold RM.endd at h;split at h
 ·split at h
  ·cases h
  ·split at h
   ·cases h;exact⟨Z,.inl Z⟩
   ·cases h;exact⟨Z,.inr Z⟩
 ·split at h
  ·split at h
   ·cases h
   ·split at h<;>exact⟨(Qev h).1,.inr (Qev h).2⟩
  ·exact⟨(Qev h).1,.inr (Qev h).2⟩
theorem QgX (a:N.fuel<=most) (h:RM.step m op most N=some r):r.fuel<=most/\(r.done=false->r.fuel=N.fuel+1/\r.back=N.back):=by
 unfold RM.step at h;split at h
 ·cases h;exact⟨a,fun h=>by cases h⟩
 split at h
 ·cases h
 split at h
 ·cases h
 split at h
 ·have q:r.fuel=N.fuel+1/\r.back=N.back:=QkW h;exact⟨by omega,fun _=>q⟩
 ·obtain⟨q,k⟩:r.fuel=N.fuel+1/\(r.done=true\/r.back=N.back):=Qiq h
  exact⟨by omega,fun e=>⟨q,k.resolve_left (by rw[e];decide)⟩⟩
theorem rsteps_snoc:∀ (k:Nat) (R:RM),RM.steps m op most (k+1) R=(match RM.steps m op most k R with
 | none=>none
 | some N=>if N.done then some N else RM.step m op most N)
 | 0,R=>by
   simp only[RM.steps]
   split
   ·rfl
   ·cases RM.step m op most R<;>rfl
 | k+1,R=>by
   rw[RM.steps]
   split
   ·rename_i a
    rw[RM.steps,Xs a]
    simp[a]
   ·rename_i a
    rw[RM.steps,Xr a]
    cases RM.step m op most R with
    | none=>rfl
    | some R'=>exact rsteps_snoc k R'
theorem QfX (h:RM.steps m op most k R=some N) (b:N.done=true):∀ n,k<=n->RM.steps m op most n R=some N:=fun n a=>by
 obtain⟨j,rfl⟩:=Nat.le.dest a
 clear a
 induction j with
 | zero=>exact h
 | succ j ih=>rw[<-Nat.add_assoc,rsteps_snoc,ih];simp[b]
theorem Qes (H:(Qq m).1=0) (inp:List Int)(b:pages<=64) (n:Nat):∃ N,RM.steps m op most n (RM.start inp pages)=some N:=by
 obtain⟨c,a,-,h,-⟩:=Qkj (op:=op) (most:=most) H inp b n
 exact⟨a,h⟩
end
def QfQ (m:List (MFunc 6)) (most:Nat) (R0:RM):Prop:=∀ k,∃ N,RM.steps m aOp most k R0=some N
structure QeD (wL w:World) (b most:Nat) (m:List (MFunc 6)) (R0 N:RM) (g:WG) (k:Nat):Prop where
 at_:WAt w b most m N g
 far:∀ x,g.A x->wL.heap.size<=x
 bel:Below wL.heap.size wL w
 st:RM.steps m aOp most k R0=some N
 fu:N.done=false->N.fuel=k
 le:N.fuel<=most
 bk:N.done=false->N.back=[]
def boolW:Value->Bool
 | .bool b=>b
 | _=>false
def Qkg (b most:Nat) (w:World):Nat:=if boolW ((w.cell? ⟨b,9,none⟩).getD undef) then 0 else most+1 - (intOf ((w.cell? ⟨b,8,none⟩).getD undef)).toNat+1
section
variable {wL w w':World}{b most k:Nat}{m:List (MFunc 6)}{R0 N:RM}{g:WG}
theorem WAt.left (S:WAt w b most m N g):Qkg b most w=if N.done then 0 else most+1 - N.fuel+1:=by
 unfold Qkg;have c:w.cell? ⟨b,9,none⟩=some (.bool N.done):=Qb S.box 9 _ Z;have d:w.cell? ⟨b,8,none⟩=some (Iv N.fuel):=Qb S.box 8 _ Z;rw[c,d]
 by_cases a:N.done=true
 ·simp[a,boolW]
 ·simp[a,intOf,boolW]
theorem QeD.below (Z:QeD wL w b most m R0 N g k) (h:Below w.heap.size w w'):QeD wL w' b most m R0 N g k:=⟨Z.at_.below h,Z.far,Z.bel.trans (h.mono Z.bel.size),Z.st,Z.fu,Z.le,Z.bk⟩
theorem WAt.high (S:WAt w b most m N g) (h:N.back=[]):WAt w b most m N { g with lo:=w.heap.size } :=
 ⟨S.box,S.est,S.mod,S.inp,S.inpC,S.calls,by
  obtain⟨p,c,e,-⟩:=S.back
  exact⟨p,c,e,fun i a=>by rw[h] at a;exact absurd a (XG i)⟩,S.out,S.frs,S.ob,S.oc,S.oo,S.lt,Ze⟩
theorem QeD.go (n:(modFault m).1=0) (o:most<=20000) (s:QfQ m most R0) (p:ROk m 0 R0) (Z:QeD wL w b most m R0 N g k) (d:N.done=false) :
 Calls prog 34 #[Pv b 0] w fun e w'=>e=.returned (.tuple #[])/\∃ N' g',QeD wL w' b most m R0 N' g' (k+1)/\Qz g.A g'.A w w'/\(g'.lo=w.heap.size/\g'.lk=g.lk)/\(N'.done=false->N'.fuel=N.fuel+1):=by
 obtain⟨r,l⟩:=s (k+1)
 have a:=l;rw[rsteps_snoc,Z.st] at a
 simp only[d] at a
 have a:RM.step m aOp most N=some r:=by simpa using a
 have u:=Z.fu d;have f:=Z.le;have I:=Qc8 n p k Z.st;obtain⟨t,i⟩:=QgX f a
 refine(Qjy (Z.at_.high (Z.bk d)) I (by omega) n f (by omega) d a).mono ?_
 rintro e w' ⟨rfl,g',q,c⟩;refine⟨Yz,r,g',⟨q,fun x j=>?_,?_,l,fun h=>by rw[(i h).1,u],t,fun h=>by rw[(i h).2,Z.bk d]⟩,c.toStep,⟨c.lo,c.lk⟩,fun h=>(i h).1⟩
 ·rcases c.own x j with e | e
  ·exact Z.far x e
  ·have:=Z.bel.size;omega
 ·exact⟨c.os.trans Z.bel.os,c.tape.trans Z.bel.tape,c.output.trans Z.bel.output,Zt Z.bel.size c.size,fun x j=>(c.block x (by have:=Z.bel.size;omega) (fun e=>by have:=Z.far x e;omega)).trans (Z.bel.block x j)⟩
theorem QeD.end_ (Z:QeD wL w b most m R0 N g k) (a:k<=most+1) (c:N.done=true):RM.steps m aOp most (most+1) R0=some N:=QfX Z.st c _ a
def Qeg (w:World) (m:List (MFunc 6)) (inp:List Int) (most pages:Nat) (e:Ending) (w':World):Prop :=
 ∃ N v,RM.steps m aOp most (most+1) (RM.start inp pages)=some N/\N.done=true/\QjI w.heap.size N v w'/\e=.returned (.tuple #[v,Qbw 0 0])/\Below w.heap.size w w'
theorem Qj6 (hm:(modFault m).1=0) (G:most<=20000) (HS:QfQ m most (RM.start inp pages)) (I0:ROk m 0 (RM.start inp pages))
 (H:∀ wx,Below w.heap.size w wx->Calls prog 32 #[.agg #[.slice pm m.length cm],.slice pi inp.length ci,Iv (most:Int),Iv (pages:Int)] wx fun e w'=>Qik wx m inp most pages e w') :
 Calls prog 30 #[.agg #[.slice pm m.length cm],.slice pi inp.length ci,Iv (most:Int),Iv (pages:Int)] w fun e w'=>Qeg w m inp most pages e w':=by
 have d:=((((Bxs.start w).new #[.slice pm m.length cm] 24)).new #[Iv 0,Nv,Nv,Iv 0] 44).new #[Iv 0,Iv 0] 32;rw[World.size_alloc,World.size_alloc] at d
 have d:=Qc d;have HM:=Qc hm;have HI:=Qc I0;have ah:=Qc G;have ac:=Qc HS;have aa:=Qc H;clear hm I0 G HS H;go_enter func30,ntmps30
 go_upto_region 1 with fail
 generalize ((w.alloc (.cells #[.slice pm m.length cm] 24)).alloc (.cells #[Iv 0,Nv,Nv,Iv 0] 44)).alloc (.cells #[Iv 0,Iv 0] 32)=r at d |-;have ag:Hid (w.heap.size<=w.heap.size+1):=by show _<=_;omega
 have al:Hid (w.heap.size<=w.heap.size+1+1):=by show _<=_;omega
 generalize w.heap.size+1+1=h at d al |-;generalize w.heap.size+1=c at d ag |-;generalize hX:w.heap.size=X at d |-;have HX:=Qc hX;have H:=Qc (aa.out r (by rw[<-HX.out] at d;exact d.out.bel));have x0:r.cell? ⟨X,0,none⟩=some (.slice pm m.length cm):=d.out.cell (a:=[_,_]) 0 _ Yz;go_upto_region 2 with (go_at_call 32;refine H.out.mono ?_;rintro U p ⟨b,g,rfl,S4,L,ai,Q,z⟩)
 have T:=Qc ((d.out.below z).new #[Iv 0,Iv 0] 32);have Z5:Hid (QeD r (p.alloc (.cells #[Iv 0,Iv 0] 32)) b most m (RM.start inp pages) (RM.start inp pages) g 0):=⟨S4.below (ZP _ _),L,z.trans ((ZP _ _).mono z.size),Yz,fun _=>rfl,Xb _,fun _=>rfl⟩;have W:Hid (r.heap.size<=p.heap.size):=z.size;clear S4 L ai Q z H x0;have aq:=Qc d.out.bel
 have P:Hid (r.heap.size<=p.heap.size/\p.heap.size<(p.alloc (.cells #[Iv 0,Iv 0] 32)).heap.size):=by
  constructor
  ·exact W.out
  ·simp
 clear hX;generalize p.alloc (.cells #[Iv 0,Iv 0] 32)=w5 at T Z5 P |-;generalize p.heap.size=F at T P |-;have V:w5.cell? ⟨F,0,none⟩=some (Iv 0):=T.out.cell (a:=[]) 0 _ Yz;go_upto_region 4 with fail
 clear V;go_loopw [] (fun wr=>∃ N g k,QeD r wr b most m (RM.start inp pages) N g k/\k<=most+1) (fun wr=>Qkg b most wr)
 case atStart=>exact⟨_,_,_,Z5.out,Xb _⟩
 case round =>
  obtain⟨N,g',k,Z,hk⟩:=hrel
  have I:=Qc (Qff Z.at_)
  cases hd:N.done with
  | false =>
    have C:=Qc (Z.go HM.out ah.out ac.out HI.out hd);have HL:=Qc Z.at_.left;rw[hd] at I HL
    have ap:=Z.le;have ad:k+1<=most+1:=by have:=Z.fu hd;omega
    clear Z hd;go_wp2_with (first | (go_at_call 33;refine I.out.mono ?_;rintro U w' ⟨rfl,o⟩;have o:=o.symm;subst o) | (go_at_call 34;refine C.out.mono ?_;rintro U w6 ⟨rfl,N',g6,Z6,T6,-,aj⟩))
    go_roundw
    case rel=>exact⟨N',g6,_,Z6,ad⟩
    case measure =>
     rw[HL.out,Z6.at_.left]
     have h6:=Z6.le
     cases hd6:N'.done with
     | true=>simp
     | false=>have:=aj hd6;simp;omega
  | true =>
    have ak:=Qc (Z.end_ hk hd);have HD:=Qc hd
    have HK:Hid (N.out.length<=1000000/\N.back.length<=1000000):=by
     have J:=Qc8 HM.out HI.out k Z.st;exact⟨by have:=J.out.1;omega,by have:=J.out.2;omega⟩
    have CO:=Qc (Qcp Z.at_ HK.out.1 HK.out.2);have K:=Qc (d.out.below Z.bel);have am:Hid (c<wr.heap.size/\h<wr.heap.size):=⟨(K.out.at (a:=[_])).lt,(K.out.at (a:=[])).lt⟩;have af:Hid (w.heap.size<=wr.heap.size):=K.out.bel.size;rw[hd] at I
    clear Z hd hk;go_upto_region 6 with (go_at_call 33;refine I.out.mono ?_;rintro U w' ⟨rfl,o⟩;have o:=o.symm;subst o)
    go_wp2_with fail
    refine CO.out.mono ?_;rintro U w8 ⟨v,rfl,⟨vb,vo,rfl,⟨t,y,rfl,A,O,D⟩,⟨u,q,rfl,E,B,R⟩⟩,b8⟩;have f:=Qc (K.out.below b8);have r0:=f.out.cell (a:=[_]) 0 _ Yz;have r1:=f.out.cell (a:=[_]) 1 _ Yz;have r2:=f.out.cell (a:=[_]) 2 _ Yz;have r3:=f.out.cell (a:=[_]) 3 _ Yz;have z0:=f.out.free (a:=[_]) 0;have z1:=f.out.free (a:=[_]) 1;have z2:=f.out.free (a:=[_]) 2;have z3:=f.out.free (a:=[_]) 3;have s0:=f.out.cell (a:=[]) 0 _ Yz;have s1:=f.out.cell (a:=[]) 1 _ Yz;have y0:=f.out.free (a:=[]) 0;have y1:=f.out.free (a:=[]) 1;have ae:¬ c=h:=fun e=>by have:=f.out.nd;simp[e] at this
    have an:¬ h=c:=fun e=>ae e.symm;have j:=Qc (Xh A (Xh O D));have i:=Qc (Xh E (Xh B R));clear A O D E B R b8 CO I d T K Z5;go_wp2_with fail
    have l:=(((((f.out.set (a:=[_]) 0 (Iv N.fin)).set (a:=[_]) 1 (.slice t N.back.length y)).set (a:=[_]) 2 (.slice u N.out.length q)).set (a:=[_]) 3 (Iv N.fuel)).set (a:=[]) 0 (Iv 0)).set (a:=[]) 1 (Iv 0)
    have KK:∀ x,wr.heap.size<=x->((((((w8.setCell ⟨c,0,none⟩ (Iv N.fin)).setCell ⟨c,1,none⟩ (.slice t N.back.length y)).setCell ⟨c,2,none⟩ (.slice u N.out.length q)).setCell ⟨c,3,none⟩ (Iv N.fuel)).setCell ⟨h,0,none⟩ (Iv 0)).setCell ⟨h,1,none⟩ (Iv 0)).heap[x]?=w8.heap[x]?:=fun x n=>by
     have h1:=am.out;have S:x≠c:=by omega
     have n9:x≠h:=by omega
     rw[Xd _ _ _ _ n9,Xd _ _ _ _ n9,Xd _ _ _ _ S,Xd _ _ _ _ S,Xd _ _ _ _ S,Xd _ _ _ _ S]
    generalize ((((((w8.setCell ⟨c,0,none⟩ (Iv N.fin)).setCell ⟨c,1,none⟩ (.slice t N.back.length y)).setCell ⟨c,2,none⟩ (.slice u N.out.length q)).setCell ⟨c,3,none⟩ (Iv N.fuel)).setCell ⟨h,0,none⟩ (Iv 0)).setCell ⟨h,1,none⟩ (Iv 0))=s at l KK |-;have V:s.cell? ⟨c,0,none⟩=some (Iv N.fin):=l.cell (a:=[_]) 0 _ Yz;have f1:s.cell? ⟨c,1,none⟩=some (.slice t N.back.length y):=l.cell (a:=[_]) 1 _ Yz;have f2:s.cell? ⟨c,2,none⟩=some (.slice u N.out.length q):=l.cell (a:=[_]) 2 _ Yz;have f3:s.cell? ⟨c,3,none⟩=some (Iv N.fuel):=l.cell (a:=[_]) 3 _ Yz;have q0:s.cell? ⟨h,0,none⟩=some (Iv 0):=l.cell (a:=[]) 0 _ Yz;have q1:s.cell? ⟨h,1,none⟩=some (Iv 0):=l.cell (a:=[]) 1 _ Yz;have M:=af.out
    exact Xy (v:=.tuple #[.agg #[Iv N.fin,.slice t N.back.length y,.slice u N.out.length q,Iv N.fuel],Qbw 0 0]) (by simp[results,results30,go_sem,V,f1,f2,f3,q0,q1]) Yz
     ⟨N,_,ak.out,HD.out,⟨_,_,Yz,⟨t,y,Yz,j.out.1,Q0 j.out.2.1 (fun x n=>KK x (j.out.2.2 x n)),fun x n=>Zt M (j.out.2.2 x n)⟩,⟨u,q,Yz,i.out.1,Q0 i.out.2.1 (fun x n=>KK x (i.out.2.2 x n)),fun x n=>Zt M (i.out.2.2 x n)⟩⟩,Yz,l.bel⟩
end
section
variable {wL w w':World}{b bx by_ most j k s F:Nat}{m o:List (MFunc 6)}{R X0 Y0 X Y:RM}{g gx gy:WG}{O O':Nat->Prop}{ff:Array Value}{T:TypeId}
theorem WAt.other (S:WAt w b most m R g) (T:Qz O O' w w') (e:∀ x,g.A x->¬ O x) (f:∀ x,g.lk<=x->x<b->¬ O x) (h:WIn w (fun x=>(g.ow x=0/\g.lo<=x)/\¬ O x) R.back g.vb):WAt w' b most m R g:=by
 have d:∀ x,g.A x->w'.heap[x]?=w.heap[x]?:=fun x a=>T.block x (S.lt x a) (e x a);have i:=S.est.step (P:=O) (P':=O') T (fun x a=>e x (by show g.ow x≠0;have a:g.ow x=2:=a;omega));refine⟨(d b (by show g.ow b≠0;rw[S.ob];decide)).trans S.box,?_,?_,?_,S.inpC,Q0 S.calls (fun x a=>d x (by show g.ow x≠0;rw[S.oc x a];decide)),?_,Q0 S.out (fun x a=>d x (by show g.ow x≠0;rw[S.oo x a];decide)),S.frs.keep (fun _ _=>rfl) (fun x a j _=>d x (by show g.ow x≠0;omega)),S.ob,S.oc,S.oo,fun x a=>Zl (S.lt x a) T.size,Zt S.low T.size⟩
 ·exact i
 ·exact(QaN 6).keep (fun x a c=>T.block x c (f x a.2.1 a.2.2)) (fun x a _=>a) S.mod
 ·exact intsL.keep (fun x a c=>T.block x c (f x a.2.1 a.2.2)) (fun x a _=>a) S.inp
 ·exact WIn.keep (fun x a c=>T.block x c a.2) (fun x a _=>a.1) h
structure Qds (wL w:World) (bx by_ most:Nat) (m o:List (MFunc 6)) (X0 Y0 X Y:RM) (gx gy:WG) (j k s F:Nat) (ff:Array Value) (T:TypeId):Prop where
 x:QeD wL w bx most m X0 X gx j
 y:QeD wL w by_ most o Y0 Y gy k
 ap:∀ z,gx.A z->¬ gy.A z
 ys:∀ z,gy.A z->s<=z
 xs:∀ z,gx.A z->z<s\/by_<z
 bs:bx<s
 ly:s<=gy.lk
 xb:WIn w (fun z=>(gx.ow z=0/\gx.lo<=z)/\¬ gy.A z) X.back gx.vb
 yb:WIn w (fun z=>(gy.ow z=0/\gy.lo<=z)/\¬ gx.A z) Y.back gy.vb
 fb:w.heap[F]?=some (.cells ff T (0,0))
 fx:¬ gx.A F
 fy:¬ gy.A F
theorem Qds.goX (G:(modFault m).1=0) (d:most<=20000) (D:QfQ m most X0) (p:ROk m 0 X0) (Z:Qds wL w bx by_ most m o X0 Y0 X Y gx gy j k s F ff T) (E:X.done=false) :
 Calls prog 34 #[Pv bx 0] w fun e w'=>e=.returned (.tuple #[])/\∃ X' gx',Qds wL w' bx by_ most m o X0 Y0 X' Y gx' gy (j+1) k s F ff T/\(X'.done=false->X'.fuel=X.fuel+1):=by
 refine(Z.x.go G d D p E).mono ?_
 rintro e w' ⟨rfl,X',gx',i,b,⟨t,v⟩,B⟩;have H:=XC Z.y.at_.box;have n:=XC Z.fb;have f:∀ z,z<w.heap.size->¬ gx.A z->¬ gx'.A z:=fun z a h e=>(b.own z e).elim h (fun q=>by omega);refine⟨Yz,X',gx',⟨i,⟨Z.y.at_.other b (fun z u l=>Z.ap z l u) (fun z r C l=>?_) Z.yb,Z.y.far,i.bel,Z.y.st,Z.y.fu,Z.y.le,Z.y.bk⟩,fun z h c=>?_,Z.ys,fun z h=>?_,Z.bs,Z.ly,?_,?_,(b.block F n Z.fx).trans Z.fb,f F n Z.fx,Z.fy⟩,B⟩
 ·have I:=Z.ly;rcases Z.xs z l with e | e<;>omega
 ·exact f z (Z.y.at_.lt z c) (fun e=>Z.ap z e c) h
 ·rcases b.own z h with e | e
  ·exact Z.xs z e
  ·exact .inr (by omega)
 ·exact WIn.keep (fun _ _ _=>rfl) (fun z a _=>⟨a,fun c=>by
   have r:=Z.y.at_.lt z c;have C:=a.2;omega⟩) i.at_.back
 ·exact WIn.keep (fun z a g=>b.block z g a.2) (fun z a g=>⟨a.1,f z g a.2⟩) Z.yb
theorem Qds.goY (E:(modFault o).1=0) (d:most<=20000) (D:QfQ o most Y0) (t:ROk o 0 Y0) (Z:Qds wL w bx by_ most m o X0 Y0 X Y gx gy j k s F ff T) :
 Calls prog 34 #[Pv by_ 0] w fun e w'=>e=.returned (.tuple #[])/\∃ Y' gy' k',Qds wL w' bx by_ most m o X0 Y0 X Y' gx gy' j k' s F ff T:=by
 cases hd:Y.done with
 | true=>exact(QgU Z.y.at_ hd).mono fun e w' h=>⟨h.1,Y,gy,k,by rw[h.2];exact Z⟩
 | false =>
   refine(Z.y.go E d D t hd).mono ?_
   rintro e w' ⟨rfl,Y',gy',l,c,⟨B,i⟩,H⟩;have p:=XC Z.fb;have f:∀ z,z<w.heap.size->¬ gy.A z->¬ gy'.A z:=fun z a h e=>(c.own z e).elim h (fun q=>by omega);refine⟨Yz,Y',gy',k+1,⟨⟨Z.x.at_.other c (fun z C b=>Z.ap z C b) (fun z n r b=>?_) Z.xb,Z.x.far,l.bel,Z.x.st,Z.x.fu,Z.x.le,Z.x.bk⟩,l,fun z h b=>?_,fun z h=>?_,Z.xs,Z.bs,by rw[i];exact Z.ly,?_,?_,(c.block F p Z.fy).trans Z.fb,Z.fx,f F p Z.fy⟩⟩
   ·have u:=Z.ys z b;have v:=Z.bs;omega
   ·exact f z (Z.x.at_.lt z h) (Z.ap z h) b
   ·rcases c.own z h with e | e
    ·exact Z.ys z e
    ·have n:=Z.bs;have r:=Z.ly;have u:=XC Z.y.at_.box;have v:=Z.ys by_ (by show gy.ow by_≠0;rw[Z.y.at_.ob];decide);omega
   ·exact WIn.keep (fun z a g=>c.block z g a.2) (fun z a g=>⟨a.1,f z g a.2⟩) Z.xb
   ·exact WIn.keep (fun _ _ _=>rfl) (fun z a _=>⟨a,fun G=>by
     have n:=Z.x.at_.lt z G;have r:=a.2;omega⟩) l.at_.back
theorem Qds.start {b:World}(a:QeD wL w2 bx most m X0 X0 gx 0) (k:bx<w2.heap.size) (q:WIn w2 (fun z=>(gx.ow z=0/\gx.lo<=z)/\z<w2.heap.size) X0.back gx.vb)
 (S:WAt b by_ most o (RM.start inp pages) gy) (d:∀ x,gy.A x->w2.heap.size<=x) (v:w2.heap.size<=by_) (f:w2.heap.size<=gy.lk) (g:Below w2.heap.size w2 b) (u:b.heap[F]?=some (.cells ff T (0,0))) (n:¬ gx.A F) (r:¬ gy.A F) :
 Qds wL b bx by_ most m o X0 (RM.start inp pages) X0 (RM.start inp pages) gx gy 0 0 w2.heap.size F ff T:=by
 have j:=a.bel.size;refine⟨a.below g,⟨S,fun x h=>Zt j (d x h),a.bel.trans (g.mono j),Z,fun _=>rfl,Xb _,fun _=>rfl⟩,fun z h s=>?_,d,fun z h=>.inl (a.at_.lt z h),k,f,?_,?_,u,n,r⟩
 ·have:=a.at_.lt z h
  have:=d z s
  omega
 ·exact WIn.keep (fun z _ f=>g.block z f) (fun z t f=>⟨t.1,fun e=>by have:=d z e;omega⟩) q
 ·obtain⟨p,c,e,-⟩:=S.back
  exact⟨p,c,e,fun i l=>absurd l (XG i)⟩
end
theorem QhK (x:MTo) (a:Nat):x.form a true=if rangeC x.block 0 ((a:Int) - 1)=0 then handedC x.regs.length 16 x.args.length else rangeC x.block 0 ((a:Int) - 1):=by
 unfold MTo.form rangeC handedC manyC;simp only[Bool.true_eq_false,if_false]
 repeat' split
 all_goals omega
theorem QhW (x:MTo) (a:Nat):x.form a false=if x.block=0/\x.regs.length=0/\x.args.length=0 then 0 else 4:=by
 unfold MTo.form;simp only[if_true]
 repeat' split
 all_goals omega
theorem Qhn (e:ZC) (b:Nat):e.form b=if e.op<1\/3<e.op then 3 else if (e.op≠2/\e.a≠0)\/(e.op≠3/\0<e.args.length) then 4 else if 8<e.args.length then 2
 else if e.yes.form b (e.op != 3)=0 then e.no.form b (e.op==2) else e.yes.form b (e.op != 3):=by
 unfold ZC.form;have i:decide (e.op≠3)=(e.op != 3):=by by_cases h:e.op=3<;>simp[h]
 have j:decide (e.op=2)=(e.op==2):=by by_cases h:e.op=2<;>simp[h]
 rw[i,j]
 by_cases f:e.op<1\/3<e.op
 ·simp[f]
 ·rw[Xr f,Xr f]
  by_cases c:(e.op≠2/\e.a≠0)\/(e.op≠3/\0<e.args.length)
  ·rw[Xs c,Xs (c.imp (fun h=>⟨h.2,h.1⟩) (fun h=>⟨h.2,h.1⟩))]
  ·rw[Xr c,Xr (fun h=>c (h.imp (fun h=>⟨h.2,h.1⟩) (fun h=>⟨h.2,h.1⟩)))]
   by_cases d:8<e.args.length
   ·simp[d]
   ·rw[Xr d,Xr d]
    by_cases g:e.yes.form b (e.op != 3)=0
    ·simp[g]
    ·simp[g]
theorem Qly {a:Int}{b c:Nat}{i l j:Option Addr}{m d k h f e:Nat}:Rd prog 230 #[.agg #[Iv fr,.slice i m d,.slice l k h,.slice j f e],.agg #[Iv a,.slice pR b cR,.slice pA c cA],.bool false] w (Iv (if a=0/\b=0/\c=0 then 0 else 4)):=by
 unfold Rd;rcases (show a=0/\b=0/\c=0\/¬ a=0\/a=0/\(0:Int)<b\/a=0/\b=0/\(0:Int)<c by omega) with ⟨rfl,rfl,rfl⟩ | g | ⟨rfl,g⟩|⟨rfl,rfl,g⟩
 rw[Xs ⟨Z,Z,Z⟩]
 rotate_left
 all_goals
  try rw[Xr (by omega)]
  try rw[<-bne_iff_ne,bne,Bool.not_eq_true'] at g
  go_enter func230,ntmps230
  go_wp2
  go_ret;exact⟨Z,QhD _ _ _⟩
theorem Ql9 {b:Int}{d c:Nat}{o n l:Option Addr}{r j p q a k:Nat}(D:a<2305843009213693952):Rd prog 230 #[.agg #[Iv fr,.slice o r j,.slice n p q,.slice l a k],.agg #[Iv b,.slice pR d cR,.slice pA c cA],.bool true] w (Iv (if rangeC b 0 ((a:Int) - 1)=0 then handedC d 16 c else rangeC b 0 ((a:Int) - 1))):=by
 have C:Hid (∀ f:World,Calls prog 262 #[Iv b,Iv 0,Iv ((a:Int) - 1)] f fun e t=>e=.returned (Iv (rangeC b 0 ((a:Int) - 1)))/\Below f.heap.size f t):=fun f=>QaE;have s:Hid (∀ f:World,Calls prog 264 #[.slice pR d cR,Iv 16,.slice pA c cA] f fun e t=>e=.returned (Iv (handedC d 16 c))/\Below f.heap.size f t):=fun f=>Qbf;generalize rangeC b 0 ((a:Int) - 1)=v at C |-;generalize handedC d 16 c=u at s |-;have h:Blk ((w.alloc (.cells #[Iv fr,.slice o r j,.slice n p q,.slice l a k] 89)).alloc (.cells #[Iv b,.slice pR d cR,.slice pA c cA] 82)) (w.heap.size+1) #[Iv b,.slice pR d cR,.slice pA c cA] 82:=Blk.new2 _ _ _ _;have g:Hid (Below w.heap.size w ((w.alloc (.cells #[Iv fr,.slice o r j,.slice n p q,.slice l a k] 89)).alloc (.cells #[Iv b,.slice pR d cR,.slice pA c cA] 82))):=QhD _ _ _;unfold Rd;by_cases x:v=0
 ·subst x;rw[Xs Z]
  go_enter func230,ntmps230
  go_wp2_with fail
  generalize ((w.alloc (.cells #[Iv fr,.slice o r j,.slice n p q,.slice l a k] 89)).alloc (.cells #[Iv b,.slice pR d cR,.slice pA c cA] 82))=B at h g |-;refine(C.out _).mono ?_
  rintro e y ⟨rfl,i⟩;have z:=(i.block _ (XC h)).trans h;have m:Hid (Below w.heap.size w y):=g.out.trans (i.mono g.out.size);have H:=Qb z 1 _ Z;have I:=Qb z 2 _ Z;clear i C h g z;go_wp2_with fail
  refine(s.out _).mono ?_
  rintro e E ⟨rfl,A⟩;have F:Hid (Below w.heap.size w E):=m.out.trans (A.mono m.out.size);clear A s m;go_wp2
  go_ret;exact⟨Z,F.out⟩
 ·rw[Xr x]
  have G:(v==0)=false:=by simpa using x
  go_enter func230,ntmps230
  go_wp2_with fail
  generalize ((w.alloc (.cells #[Iv fr,.slice o r j,.slice n p q,.slice l a k] 89)).alloc (.cells #[Iv b,.slice pR d cR,.slice pA c cA] 82))=B at h g |-;refine(C.out _).mono ?_
  rintro e y ⟨rfl,i⟩;have m:Hid (Below w.heap.size w y):=g.out.trans (i.mono g.out.size);clear i C s h g;go_wp2
  go_ret;exact⟨Z,m.out⟩
theorem QdS {x:MTo}{g j h:Option Addr}{k d i f b e:Nat}(a:Bool)(c:b<2305843009213693952) :
 Rd prog 230 #[.agg #[Iv fr,.slice g k d,.slice j i f,.slice h b e],.agg #[Iv x.block,.slice pR x.regs.length cR,.slice pA x.args.length cA],.bool a] w (Iv (x.form b a)):=by
 cases a
 ·rw[QhW];exact Qly
 ·rw[QhK];exact Ql9 c
theorem Qkh {a r F:Int}{f c h g I:Option Addr}{i n j m o l p b q L:Nat}{A z y:Option Addr}{E s B D v t:Nat}{C O:Int}(R:¬ (a<1\/3<a)) (W:¬ ((a≠2/\r≠0)\/(a≠3/\0<q))) (S:¬ 8<q)
 (N:Hid (∀ wx:World,Calls prog 230 #[.agg #[Iv fr,.slice A E s,.slice z B D,.slice y v t],.agg #[Iv yb,.slice f i n,.slice c j m],.bool (a != 3)] wx fun e w'=>e=.returned (Iv C)/\Below wx.heap.size wx w'))
 (J:Hid (∀ wx:World,Calls prog 230 #[.agg #[Iv fr,.slice A E s,.slice z B D,.slice y v t],.agg #[Iv F,.slice h o l,.slice g p b],.bool (a==2)] wx fun e w'=>e=.returned (Iv O)/\Below wx.heap.size wx w')) :
 Rd prog 185 #[.agg #[Iv fr,.slice A E s,.slice z B D,.slice y v t],.agg #[Iv a,Iv r,Iv yb,.slice f i n,.slice c j m,Iv F,.slice h o l,.slice g p b,.slice I q L]] w (Iv (if C=0 then O else C)):=by
 obtain⟨u,x⟩:∃ u,u=(w.alloc (.cells #[Iv fr,.slice A E s,.slice z B D,.slice y v t] 89)).alloc (.cells #[Iv a,Iv r,Iv yb,.slice f i n,.slice c j m,Iv F,.slice h o l,.slice g p b,.slice I q L] 84):=⟨_,Z⟩
 have k:Blk u w.heap.size #[Iv fr,.slice A E s,.slice z B D,.slice y v t] 89:=by rw[x];exact Blk.new1 _ _ _ _ _
 have d:Blk u (w.heap.size+1) #[Iv a,Iv r,Iv yb,.slice f i n,.slice c j m,Iv F,.slice h o l,.slice g p b,.slice I q L] 84:=by rw[x];exact Blk.new2 _ _ _ _
 have K:Hid (Below w.heap.size w u):=by rw[x];exact QhD _ _ _
 unfold Rd;have g8:¬ (8:Int)<q:=by omega
 rcases (show a=1/\r=0/\q=0\/a=2/\q=0\/a=3/\r=0 by omega) with ⟨rfl,rfl,rfl⟩|⟨rfl,rfl⟩|⟨rfl,rfl⟩
 all_goals
  clear R W S;go_enter func185,ntmps185
  go_wp2_with fail
  rw[<-x]
  clear x;refine(N.out _).mono ?_
  rintro e V ⟨rfl,H⟩;replace k:=(H.block _ (XC k)).trans k;replace d:=(H.block _ (XC d)).trans d;have G:Hid (Below w.heap.size w V):=K.out.trans (H.mono K.out.size);clear H N K;by_cases M:C=0
  ·subst M;have c0:=Qb k 0 _ Z;have c1:=Qb k 1 _ Z;have X:=Qb k 2 _ Z;have c3:=Qb k 3 _ Z;have d0:=Qb d 0 _ Z;have d5:=Qb d 5 _ Z;have d6:=Qb d 6 _ Z;have d7:=Qb d 7 _ Z;clear k d;go_wp2_with fail
   refine(J.out _).mono ?_
   rintro e Q ⟨rfl,P⟩;have T:Hid (Below w.heap.size w Q):=G.out.trans (P.mono G.out.size);clear P J G;go_wp2
   go_ret;exact⟨Z,T.out⟩
  ·have U:(C==0)=false:=by simpa using M
   clear J k d;go_wp2
   go_ret;exact⟨Z,G.out⟩
theorem Qgb {a b u:Int}{f e j i z:Option Addr}{k o l n p m q d c C:Nat}{A y x:Option Addr}{E r B D t s:Nat}{v:Int}(h:(v=3/\(a<1\/3<a))\/(v=4/\¬ (a<1\/3<a)/\((a≠2/\b≠0)\/(a≠3/\0<c)))\/(v=2/\¬ (a<1\/3<a)/\¬ ((a≠2/\b≠0)\/(a≠3/\0<c))/\8<c)) :
 Rd prog 185 #[.agg #[Iv fr,.slice A E r,.slice y B D,.slice x t s],.agg #[Iv a,Iv b,Iv yb,.slice f k o,.slice e l n,Iv u,.slice j p m,.slice i q d,.slice z c C]] w (Iv v):=by
 unfold Rd;rcases (show v=3/\a<1\/v=3/\¬ a<1/\3<a\/v=4/\a=1/\b=0/\(0:Int)<c\/v=4/\a=1/\¬ b=0\/v=4/\a=2/\(0:Int)<c\/v=4/\a=3/\¬ b=0\/v=2/\a=3/\b=0/\(8:Int)<c by omega) with ⟨rfl,g⟩|⟨rfl,F,g⟩|⟨rfl,rfl,rfl,g⟩|⟨rfl,rfl,g⟩|⟨rfl,rfl,g⟩|⟨rfl,rfl,g⟩|⟨rfl,rfl,rfl,g⟩
 all_goals
  try rw[<-bne_iff_ne,bne,Bool.not_eq_true'] at g
  clear h;go_enter func185,ntmps185
  go_wp2
  go_ret;exact⟨Z,QhD _ _ _⟩
theorem Qgx {x:ZC}{e:EP}{l o m:Option Addr}{k h n j g i:Nat}(p:x.yes.regs.length<2305843009213693952/\x.yes.args.length<2305843009213693952/\x.no.regs.length<2305843009213693952/\x.no.args.length<2305843009213693952) (c:g<2305843009213693952):Rd prog 185 #[.agg #[Iv fr,.slice l k h,.slice o n j,.slice m g i],.agg #[Iv x.op,Iv x.a,Iv x.yes.block,.slice e.pYR x.yes.regs.length e.cYR,.slice e.pYA x.yes.args.length e.cYA,Iv x.no.block,.slice e.pNR x.no.regs.length e.cNR,.slice e.pNA x.no.args.length e.cNA,.slice e.pA x.args.length e.cA]] w (Iv (x.form g)):=by
 rw[Qhn]
 by_cases b:x.op<1\/3<x.op
 ·rw[Xs b];exact Qgb (.inl ⟨Z,b⟩)
 rw[Xr b]
 by_cases d:(x.op≠2/\x.a≠0)\/(x.op≠3/\0<x.args.length)
 ·rw[Xs d];exact Qgb (.inr (.inl ⟨Z,b,d⟩))
 rw[Xr d]
 by_cases f:8<x.args.length
 ·rw[Xs f];exact Qgb (.inr (.inr ⟨Z,b,d,f⟩))
 rw[Xr f]
 exact Qkh b d f (fun _=>QdS _ c) (fun _=>QdS _ c)
theorem typeFault_any:∀ n,QdZ 127 n:=by
 intro n
 induction n with
 | zero=>intro t;exact Empty.elim t
 | succ n ih =>
   intro t a c b w ht X;have IH:Hid (QdZ 127 n):=ih;clear ih;have hT:Hid (LIn w All t.2.2 a):=ht.list;have S:Hid (∀ x∈t.2.2,x.count<=100000):=fun x J=>by have:=t.count_kid J;omega
   have H:t.2.2.length<=100000:=by have:=t.len_lt_count;rw[t.len_eq] at this;omega
   have m:Hid (t.fault b=if ownC t.kind t.r t.2.2.length b≠0 then ownC t.kind t.r t.2.2.length b else Qu (TT.fault b) t.2.2):=rfl;generalize t.fault b=h at m |-;simp only[Tv,TT.len_eq]
   generalize t.2.2=l at hT S m H |-;generalize t.kind=k at m |-;generalize t.r=r at m |-;clear ht X t;generalize U:l.length=d at m H |-;have T:Hid (l.length=d):=U;clear U;rcases (show k<1\/(¬ k<1/\4<k)\/k=1\/k=2\/k=4\/k=3 by omega) with p | ⟨p,F⟩ | rfl | rfl | rfl | rfl
   ·have f:=m.out;rw[show ownC _ _ d b=3 by unfold ownC;repeat' split;all_goals omega] at f
    clear m;replace f:Hid (h=3):=by show h=3;simpa using f
    go_enter func127,ntmps127
    go_wp2_with fail
    go_ret;exact⟨by rw[f.out];rfl,(Below.refl _ w).alloc Ze _⟩
   ·have f:=m.out;rw[show ownC _ _ d b=3 by unfold ownC;repeat' split;all_goals omega] at f
    clear m;replace f:Hid (h=3):=by show h=3;simpa using f
    go_enter func127,ntmps127
    go_wp2_with fail
    go_ret;exact⟨by rw[f.out];rfl,(Below.refl _ w).alloc Ze _⟩
   ·rcases (show r≠0\/(r=0/\0<d)\/(r=0/\d=0) by omega) with p | ⟨rfl,p⟩|⟨rfl,p⟩
    ·have u:(r != 0)=true:=by simpa using p
     have f:=m.out;rw[show ownC _ _ d b=4 by unfold ownC;repeat' split;all_goals omega] at f
     clear m;replace f:Hid (h=4):=by show h=4;simpa using f
     go_enter func127,ntmps127
     go_wp2_with fail
     go_ret;exact⟨by rw[f.out];rfl,(Below.refl _ w).alloc Ze _⟩
    ·have u:(0:Int)<(d:Int):=by omega
     have f:=m.out;rw[show ownC _ _ d b=4 by unfold ownC;repeat' split;all_goals omega] at f
     clear m;replace f:Hid (h=4):=by show h=4;simpa using f
     go_enter func127,ntmps127
     go_wp2_with fail
     go_ret;exact⟨by rw[f.out];rfl,(Below.refl _ w).alloc Ze _⟩
    ·have u:¬ (0:Int)<(d:Int):=by omega
     have E:¬ (8:Int)<(d:Int):=by omega
     have f:=m.out;rw[show ownC _ _ d b=0 by unfold ownC;repeat' split;all_goals omega] at f
     clear m;have R:Hid (h=Qu (TT.fault b) l):=by show h=Qu (TT.fault b) l;simpa using f
     clear f
     have Q:Hid (h=0):=by
      have D:l=[]:=Xf.1 (T.out.trans p)
      have:=R.out
      rw[D] at this
      exact this
     subst p;clear R u E;go_enter func127,ntmps127
     go_wp2_with fail
     have B:=Bx.start w 1 0 a 0 c;generalize w.alloc (.cells #[Iv 1,Iv 0,.slice a 0 c] 105)=I at B |-;have s:Hid (Bx w I 1 0 a 0 c):=B;clear B;go_loopw [5] (fun i wr=>i=Iv 0/\Bx w wr 1 0 a 0 c) (fun _ _=>0)
     case atStart=>exact⟨Z,s.out⟩
     case round =>
      clear s;obtain⟨rfl,z⟩:=hrel
      have s:Hid (Bx w wr 1 0 a 0 c):=z;have V:wr.cell? ⟨w.heap.size,2,none⟩=some (.slice a 0 c):=Qb z.box 2 _ Z;clear z;go_wp2
      go_ret;exact⟨by rw[Q.out];rfl,s.out.bel⟩
   ·rcases (show 0<d\/(d=0/\r<0)\/(d=0/\0<=r/\b<=r)\/(d=0/\0<=r/\r<b) by omega) with p | ⟨p,F⟩|⟨p,F,P⟩|⟨p,F,P⟩
    ·have u:(0:Int)<(d:Int):=by omega
     have f:=m.out;rw[show ownC _ _ d b=4 by unfold ownC;repeat' split;all_goals omega] at f
     clear m;replace f:Hid (h=4):=by show h=4;simpa using f
     go_enter func127,ntmps127
     go_wp2_with fail
     go_ret;exact⟨by rw[f.out];rfl,(Below.refl _ w).alloc Ze _⟩
    ·have u:¬ (0:Int)<(d:Int):=by omega
     have E:¬ (8:Int)<(d:Int):=by omega
     have f:=m.out;rw[show ownC _ _ d b=1 by unfold ownC;repeat' split;all_goals omega] at f
     clear m;replace f:Hid (h=1):=by show h=1;simpa using f
     go_enter func127,ntmps127
     go_wp2_with fail
     go_ret;exact⟨by rw[f.out];rfl,(Below.refl _ w).alloc Ze _⟩
    ·have u:¬ (0:Int)<(d:Int):=by omega
     have E:¬ (8:Int)<(d:Int):=by omega
     have f:=m.out;rw[show ownC _ _ d b=1 by unfold ownC;repeat' split;all_goals omega] at f
     clear m;replace f:Hid (h=1):=by show h=1;simpa using f
     go_enter func127,ntmps127
     go_wp2_with fail
     go_ret;exact⟨by rw[f.out];rfl,(Below.refl _ w).alloc Ze _⟩
    ·have u:¬ (0:Int)<(d:Int):=by omega
     have E:¬ (8:Int)<(d:Int):=by omega
     have f:=m.out;rw[show ownC _ _ d b=0 by unfold ownC;repeat' split;all_goals omega] at f
     clear m;have R:Hid (h=Qu (TT.fault b) l):=by show h=Qu (TT.fault b) l;simpa using f
     clear f
     have Q:Hid (h=0):=by
      have D:l=[]:=Xf.1 (T.out.trans p)
      have:=R.out
      rw[D] at this
      exact this
     subst p;clear R u E;go_enter func127,ntmps127
     go_wp2_with fail
     have B:=Bx.start w 2 r a 0 c;generalize w.alloc (.cells #[Iv 2,Iv r,.slice a 0 c] 105)=I at B |-;have s:Hid (Bx w I 2 r a 0 c):=B;clear B;go_loopw [5] (fun i wr=>i=Iv 0/\Bx w wr 2 r a 0 c) (fun _ _=>0)
     case atStart=>exact⟨Z,s.out⟩
     case round =>
      clear s;obtain⟨rfl,z⟩:=hrel
      have s:Hid (Bx w wr 2 r a 0 c):=z;have V:wr.cell? ⟨w.heap.size,2,none⟩=some (.slice a 0 c):=Qb z.box 2 _ Z;clear z;go_wp2
      go_ret;exact⟨by rw[Q.out];rfl,s.out.bel⟩
   ·rcases (show 0<d\/(d=0/\r<0)\/(d=0/\0<=r/\b<=r)\/(d=0/\0<=r/\r<b) by omega) with p | ⟨p,F⟩|⟨p,F,P⟩|⟨p,F,P⟩
    ·have u:(0:Int)<(d:Int):=by omega
     have f:=m.out;rw[show ownC _ _ d b=4 by unfold ownC;repeat' split;all_goals omega] at f
     clear m;replace f:Hid (h=4):=by show h=4;simpa using f
     go_enter func127,ntmps127
     go_wp2_with fail
     go_ret;exact⟨by rw[f.out];rfl,(Below.refl _ w).alloc Ze _⟩
    ·have u:¬ (0:Int)<(d:Int):=by omega
     have E:¬ (8:Int)<(d:Int):=by omega
     have f:=m.out;rw[show ownC _ _ d b=1 by unfold ownC;repeat' split;all_goals omega] at f
     clear m;replace f:Hid (h=1):=by show h=1;simpa using f
     go_enter func127,ntmps127
     go_wp2_with fail
     go_ret;exact⟨by rw[f.out];rfl,(Below.refl _ w).alloc Ze _⟩
    ·have u:¬ (0:Int)<(d:Int):=by omega
     have E:¬ (8:Int)<(d:Int):=by omega
     have f:=m.out;rw[show ownC _ _ d b=1 by unfold ownC;repeat' split;all_goals omega] at f
     clear m;replace f:Hid (h=1):=by show h=1;simpa using f
     go_enter func127,ntmps127
     go_wp2_with fail
     go_ret;exact⟨by rw[f.out];rfl,(Below.refl _ w).alloc Ze _⟩
    ·have u:¬ (0:Int)<(d:Int):=by omega
     have E:¬ (8:Int)<(d:Int):=by omega
     have f:=m.out;rw[show ownC _ _ d b=0 by unfold ownC;repeat' split;all_goals omega] at f
     clear m;have R:Hid (h=Qu (TT.fault b) l):=by show h=Qu (TT.fault b) l;simpa using f
     clear f
     have Q:Hid (h=0):=by
      have D:l=[]:=Xf.1 (T.out.trans p)
      have:=R.out
      rw[D] at this
      exact this
     subst p;clear R u E;go_enter func127,ntmps127
     go_wp2_with fail
     have B:=Bx.start w 4 r a 0 c;generalize w.alloc (.cells #[Iv 4,Iv r,.slice a 0 c] 105)=I at B |-;have s:Hid (Bx w I 4 r a 0 c):=B;clear B;go_loopw [5] (fun i wr=>i=Iv 0/\Bx w wr 4 r a 0 c) (fun _ _=>0)
     case atStart=>exact⟨Z,s.out⟩
     case round =>
      clear s;obtain⟨rfl,z⟩:=hrel
      have s:Hid (Bx w wr 4 r a 0 c):=z;have V:wr.cell? ⟨w.heap.size,2,none⟩=some (.slice a 0 c):=Qb z.box 2 _ Z;clear z;go_wp2
      go_ret;exact⟨by rw[Q.out];rfl,s.out.bel⟩
   ·rcases (show 8<d\/(d<=8/\r<0)\/(d<=8/\0<=r/\b<=r)\/(d<=8/\0<=r/\r<b) by omega) with p | ⟨p,F⟩|⟨p,F,P⟩|⟨p,F,P⟩
    ·have u:(8:Int)<(d:Int):=by omega
     have f:=m.out;rw[show ownC _ _ d b=2 by unfold ownC;repeat' split;all_goals omega] at f
     clear m;replace f:Hid (h=2):=by show h=2;simpa using f
     go_enter func127,ntmps127
     go_wp2_with fail
     go_ret;exact⟨by rw[f.out];rfl,(Below.refl _ w).alloc Ze _⟩
    ·have u:¬ (8:Int)<(d:Int):=by omega
     have f:=m.out;rw[show ownC _ _ d b=1 by unfold ownC;repeat' split;all_goals omega] at f
     clear m;replace f:Hid (h=1):=by show h=1;simpa using f
     go_enter func127,ntmps127
     go_wp2_with fail
     go_ret;exact⟨by rw[f.out];rfl,(Below.refl _ w).alloc Ze _⟩
    ·have u:¬ (8:Int)<(d:Int):=by omega
     have f:=m.out;rw[show ownC _ _ d b=1 by unfold ownC;repeat' split;all_goals omega] at f
     clear m;replace f:Hid (h=1):=by show h=1;simpa using f
     go_enter func127,ntmps127
     go_wp2_with fail
     go_ret;exact⟨by rw[f.out];rfl,(Below.refl _ w).alloc Ze _⟩
    ·have u:¬ (8:Int)<(d:Int):=by omega
     have f:=m.out;rw[show ownC _ _ d b=0 by unfold ownC;repeat' split;all_goals omega] at f
     clear m;have R:Hid (h=Qu (TT.fault b) l):=by show h=Qu (TT.fault b) l;simpa using f
     clear f;go_enter func127,ntmps127
     go_wp2_with fail
     have B:=Bx.start w 3 r a d c;generalize w.alloc (.cells #[Iv 3,Iv r,.slice a d c] 105)=I at B |-;have s:Hid (Bx w I 3 r a d c):=B;clear B;go_loopw [5] (fun i wr=>∃ q:Nat,q<=d/\i=Iv q/\(∀ (j:Nat) x,j<q->l[j]?=some x->x.fault b=0)/\Bx w wr 3 r a d c) (fun i _=>d - (intOf i).toNat)
     case atStart=>exact⟨0,Xb _,Z,fun j x hj=>by omega,s.out⟩
     case round =>
      clear s;obtain⟨q,hq,rfl,G,z⟩:=hrel
      have A:Hid (∀ (j:Nat) x,j<q->l[j]?=some x->x.fault b=0):=G;have s:Hid (Bx w wr 3 r a d c):=z;have V:wr.cell? ⟨w.heap.size,2,none⟩=some (.slice a d c):=Qb z.box 2 _ Z;clear G;by_cases ac:q<d
      ·have N:q<l.length:=by have:=T.out;omega
       have J:l[q]?=some l[q]:=Zg N;generalize l[q]=x at J;clear N;obtain⟨g,o,a',c',rfl,_,d0,d1,d2,hk⟩:=LIn.at (hT.out.below z.bel) J
       have O:Hid (l[q]?=some x):=J;have ad:(0:Int)<=q:=by omega
       have ab:(q:Int)<d:=by omega
       have C:Hid (∀ K,Below wr.heap.size wr K->Calls prog 127 #[Tv x a' c',Iv b] K fun e w'=>e=.returned (Iv (x.fault b))/\Below K.heap.size K w') :=
        fun K hb=>IH.out x a' c' b K (hk.below hb) (S.out x (Zm J))
       clear z hk J;simp only[Tv] at C
       generalize x.kind=kx at C d0;generalize x.r=rx at C d1;generalize x.len=lx at C d2;go_wp2_with fail
       refine(C.out _ Zr).mono ?_
       rintro e w2 ⟨rfl,b2⟩;have X2:Hid (Bx w w2 3 r (some ⟨g,o,none⟩) d c):=s.out.below b2;clear s b2 C d0 d1 d2 V;by_cases M:x.fault b=0
       ·have A2:Hid (∀ (j:Nat) x,j<q+1->l[j]?=some x->x.fault b=0):=fun j y hj L=>by
         by_cases e:j=q
         ·subst e;rw[O.out] at L
          cases L
          exact M
         ·exact A.out j y (by omega) L
        rw[M]
        clear M A;go_wp2
        go_roundw
        case rel=>exact⟨q+1,by omega,by go_num,A2.out,X2.out⟩
        case measure=>simp[intOf];omega
       ·have W:Hid (h=x.fault b):=R.out.trans (Qau O.out A.out M);have aa:(x.fault b != 0)=true:=by simpa using M
        generalize x.fault b=v at aa W |-;clear M A;go_wp2
        go_ret;exact⟨by rw[W.out];rfl,X2.out.bel⟩
      ·have W:Hid (h=0):=R.out.trans (Qae (fun j y L=>A.out j y (by have:=(Zi L).1;have:=T.out;omega) L));have ab:¬ (q:Int)<d:=by omega
       clear z A;go_wp2
       go_ret;exact⟨by rw[W.out];rfl,s.out.bel⟩
theorem Qdq {α:Type}(f:α->Nat) (l:List α) (i:Nat) (x:α) (h:l[i]?=some x):((l.map f).take (i+1)).foldl max 0=max (((l.map f).take i).foldl max 0) (f x):=by
 rw[XV,XS,h]
 simp
theorem Qcl (l:List Nat) (i:Nat):(l.take i).foldl max 0<=l.foldl max 0:=by
 rw[Qa1]
 exact⟨Xb _,fun x a=>(Qa1.1 (Nat.le_refl (l.foldl max 0))).2 x (List.mem_of_mem_take a)⟩
theorem deepOf_any:∀ (n:Nat) (t:TT n) (a:Option Addr) (c:Nat) (w:World) (m:Nat),TIn w All t a->t.count<=100000->m<=4 ->
 Calls prog 126 #[Tv t a c,Iv m] w fun e w'=>e=.returned (Iv ((min t.height (m+1):Nat):Int))/\Below w.heap.size w w':=by
 intro n
 induction n with
 | zero=>intro t;exact Empty.elim t
 | succ n ih =>
   intro t a c w m ht K ad
   have IH:Hid (∀ (t:TT n) (a:Option Addr) (c:Nat) (w:World) (m:Nat),TIn w All t a->t.count<=100000->m<=4 ->
    Calls prog 126 #[Tv t a c,Iv m] w fun e w'=>e=.returned (Iv ((min t.height (m+1):Nat):Int))/\Below w.heap.size w w'):=ih
   clear ih;have P:Hid (LIn w All t.2.2 a):=ht.list;have E:Hid (∀ x∈t.2.2,x.count<=100000):=fun x f=>by have:=t.count_kid f;omega
   have A:t.2.2.length<=100000:=by have:=t.len_lt_count;rw[t.len_eq] at this;omega
   have u:Hid (t.height=(t.2.2.map (fun x=>1+x.height)).foldl max 0):=rfl;generalize t.height=h at u |-;simp only[Tv,TT.len_eq]
   generalize t.2.2=l at P E u A |-;generalize t.kind=k;generalize t.r=r;clear ht K t;generalize d:((min h (m+1):Nat):Int)=b;have J:Hid (((min h (m+1):Nat):Int)=b):=d;clear d;go_enter func126,ntmps126
   go_wp2_with fail
   have L:Hid (Bx w (w.alloc (.cells #[Iv k,Iv r,.slice a l.length c] 105)) k r a l.length c):=Bx.start w k r a l.length c;generalize w.alloc (.cells #[Iv k,Iv r,.slice a l.length c] 105)=w1 at L |-;go_loopw [5,6] (fun v i wr=>∃ q y:Nat,q<=l.length/\i=Iv q/\v=Iv y/\y=min (((l.map (fun x=>1+x.height)).take q).foldl max 0) (m+1)/\Bx w wr k r a l.length c) (fun _ i _=>l.length - (intOf i).toNat)
   case atStart=>exact⟨0,0,Xb _,Yz,Yz,by simp,L.out⟩
   case round =>
    clear L;obtain⟨q,y,hq,rfl,rfl,Q,p⟩:=hrel
    have Y:Hid (y=min (((l.map (fun x=>1+x.height)).take q).foldl max 0) (m+1)):=Q;have B:Hid (Bx w wr k r a l.length c):=p;have e2:wr.cell? ⟨w.heap.size,2,none⟩=some (.slice a l.length c):=Qb p.box 2 _ Yz;have ab:(y:Int)<=5:=by omega
    clear Q;by_cases I:q<l.length
    ·have af:(0:Int)<=q:=by omega
     have M:(q:Int)<l.length:=by omega
     by_cases j:y<=m
     ·have f:l[q]?=some l[q]:=Zg I;generalize l[q]=x at f;obtain⟨g,o,a',c',rfl,_,R,V,X,O⟩:=LIn.at (P.out.below p.bel) f
      have G:=Qdq (fun x:TT n=>1+x.height) l q x f;have D:(y:Int)<=m:=by omega
      by_cases W:m=0
      ·have N:((m:Int)==0)=true:=by simp;omega
       have F:Hid (b=1):=by
        have S:=Qcl (l.map (fun x=>1+x.height)) (q+1);have h2:=u.out;have T:=J.out;rw[G] at S
        show b=1;omega
       clear p O f W G j;go_wp2_with fail
       go_ret;exact⟨by rw[F.out];rfl,B.out.bel⟩
      ·have N:((m:Int)==0)=false:=by simp;omega
       have C:Hid (∀ s,Below wr.heap.size wr s->Calls prog 126 #[Tv x a' c',Iv ((m:Int) - 1)] s fun e w'=>e=.returned (Iv ((min x.height m:Nat):Int))/\Below s.heap.size s w'):=fun s hb=>by
        have:=IH.out x a' c' s (m - 1) (O.below hb) (E.out x (Zm f)) (by omega)
        rw[show ((m - 1:Nat):Int)=(m:Int) - 1 by omega,show m - 1+1=m by omega] at this
        exact this
       have aa:(1:Int)<=m:=by omega
       have ac:(m:Int)<=4:=by omega
       generalize H:min x.height m=z at C;have ae:(z:Int)<=4:=by omega
       have Z:Hid (max y (1+z)=min (((l.map (fun x=>1+x.height)).take (q+1)).foldl max 0) (m+1)):=by
        rw[G]
        have:=Y.out
        show _=_;omega
       clear p O f W G H Y j;simp only[Tv] at C
       generalize x.kind=kx at C R;generalize x.r=rx at C V;generalize x.len=lx at C X;go_wp2_with fail
       refine(C.out _ Zr).mono ?_
       rintro e w2 ⟨rfl,b2⟩;have U:Hid (Bx w w2 k r (some ⟨g,o,none⟩) l.length c):=B.out.below b2;clear B b2 C R V X e2;by_cases hd:(y:Int)<1+z
       ·go_wp2
        go_roundw
        case rel=>exact⟨q+1,1+z,by omega,by go_num,by go_num,by rw[<-Z.out];omega,U.out⟩
        case measure=>simp[intOf];omega
       ·go_wp2
        go_roundw
        case rel=>exact⟨q+1,y,by omega,by go_num,Yz,by rw[<-Z.out];omega,U.out⟩
        case measure=>simp[intOf];omega
     ·have F:Hid (b=y):=by
       have S:=Qcl (l.map (fun x=>1+x.height)) q;have h2:=u.out;have T:=J.out
       have:=Y.out
       show b=y;omega
      have D:¬ (y:Int)<=m:=by omega
      clear p j Y;go_wp2
      go_ret;exact⟨by rw[F.out];rfl,B.out.bel⟩
    ·have F:Hid (b=y):=by
      have h2:=u.out;have T:=J.out
      have:=Y.out
      rw[XO (by simp;omega)] at this
      show b=y;omega
     have M:¬ (q:Int)<l.length:=by omega
     clear p Y;go_wp2
     go_ret;exact⟨by rw[F.out];rfl,B.out.bel⟩
def Qjr (f:Nat):Prop:=∀ (n:Nat) (t:TT n) (a:Option Addr) (c:Nat) (regs:Int) (w:World),TIn w All t a->t.count<=100000 ->
 Calls prog f #[Tv t a c,Iv regs] w fun e w'=>e=.returned (Iv (t.check regs))/\Below w.heap.size w w'
theorem typeFaultT_any:Qjr 78:=by
 intro n t a c b w s u
 have i:Hid (∀ d,Below w.heap.size w d->Calls prog 126 #[Tv t a c,Iv 4] d fun e o=>e=.returned (Iv ((min t.height 5:Nat):Int))/\Below d.heap.size d o) :=
  fun d p=>deepOf_any n t a c d 4 (s.below p) u (by omega)
 have g:Hid (∀ d,Below w.heap.size w d->Calls prog 127 #[Tv t a c,Iv b] d fun e o=>e=.returned (Iv (t.fault b))/\Below d.heap.size d o) :=
  fun d p=>typeFault_any n t a c b d (s.below p) u
 have E:Hid (t.check b=if 4<t.height then 19 else t.fault b):=rfl;generalize t.check b=j at E |-;clear s u;simp only[Tv] at i g |-
 generalize t.kind=k at i g |-;generalize t.r=r at i g |-;generalize t.len=f at i g |-;generalize t.fault b=v at g E;generalize z:min t.height 5=q at i;go_enter func78,ntmps78
 go_wp2_with fail
 have l:=Bx.start w k r a f c;generalize w.alloc (.cells #[Iv k,Iv r,.slice a f c] 105)=I at l |-;refine(i.out _ l.bel).mono ?_
 rintro e C ⟨rfl,y⟩;have h:Hid (Bx w C k r a f c):=l.below y;have D:=Qb h.out.box 0 _ Z;have F:=Qb h.out.box 1 _ Z;have B:=Qb h.out.box 2 _ Z;clear l y i;by_cases m:4<t.height
 ·have R:Hid (j=19):=by have:=E.out;rwa [Xs m] at this
  have H:(4:Int)<q:=by omega
  clear m z;go_wp2_with fail
  go_ret;exact⟨by rw[R.out];rfl,h.out.bel⟩
 ·have R:Hid (j=v):=by have:=E.out;rwa [Xr m] at this
  have H:¬ (4:Int)<q:=by omega
  clear m z;go_wp2_with fail
  refine(g.out _ h.out.bel).mono ?_
  rintro e A ⟨rfl,x⟩;have G:Hid (Bx w A k r a f c):=h.out.below x;clear h x g D F B;go_wp2_with fail
  go_ret;exact⟨by rw[R.out];rfl,G.out.bel⟩
theorem QfB (k r:Int) (a:Option Addr) (len c:Nat) (regs:Int) (w:World) :
 Calls prog 282 #[.agg #[Iv k,Iv r,.slice a len c],Iv regs] w fun e w'=>e=.returned (Iv (ownC k r len regs))/\Below w.heap.size w w':=by
 rcases (show k<1\/(¬ k<1/\4<k)\/k=1\/k=2\/k=4\/k=3 by omega) with b | ⟨b,f⟩ | rfl | rfl | rfl | rfl
 ·rw[show ownC _ _ len regs=3 by unfold ownC;repeat' split;all_goals omega]
  go_enter func282,ntmps282
  go_wp2_with fail
  go_ret;exact⟨Z,(Below.refl _ w).alloc Ze _⟩
 ·rw[show ownC _ _ len regs=3 by unfold ownC;repeat' split;all_goals omega]
  go_enter func282,ntmps282
  go_wp2_with fail
  go_ret;exact⟨Z,(Below.refl _ w).alloc Ze _⟩
 ·rcases (show r≠0\/(r=0/\0<len)\/(r=0/\len=0) by omega) with b | ⟨rfl,b⟩|⟨rfl,b⟩
  ·have d:(r != 0)=true:=by simpa using b
   rw[show ownC _ _ len regs=4 by unfold ownC;repeat' split;all_goals omega]
   go_enter func282,ntmps282
   go_wp2_with fail
   go_ret;exact⟨Z,(Below.refl _ w).alloc Ze _⟩
  ·have d:(0:Int)<(len:Int):=by omega
   rw[show ownC _ _ len regs=4 by unfold ownC;repeat' split;all_goals omega]
   go_enter func282,ntmps282
   go_wp2_with fail
   go_ret;exact⟨Z,(Below.refl _ w).alloc Ze _⟩
  ·have d:¬ (0:Int)<(len:Int):=by omega
   have g:¬ (8:Int)<(len:Int):=by omega
   rw[show ownC _ _ len regs=0 by unfold ownC;repeat' split;all_goals omega]
   go_enter func282,ntmps282
   go_wp2_with fail
   go_ret;exact⟨Z,(Below.refl _ w).alloc Ze _⟩
 ·rcases (show 0<len\/(len=0/\r<0)\/(len=0/\0<=r/\regs<=r)\/(len=0/\0<=r/\r<regs) by omega) with b | ⟨b,f⟩|⟨b,f,h⟩|⟨b,f,h⟩
  ·have d:(0:Int)<(len:Int):=by omega
   rw[show ownC _ _ len regs=4 by unfold ownC;repeat' split;all_goals omega]
   go_enter func282,ntmps282
   go_wp2_with fail
   go_ret;exact⟨Z,(Below.refl _ w).alloc Ze _⟩
  ·have d:¬ (0:Int)<(len:Int):=by omega
   have g:¬ (8:Int)<(len:Int):=by omega
   rw[show ownC _ _ len regs=1 by unfold ownC;repeat' split;all_goals omega]
   go_enter func282,ntmps282
   go_wp2_with fail
   go_ret;exact⟨Z,(Below.refl _ w).alloc Ze _⟩
  ·have d:¬ (0:Int)<(len:Int):=by omega
   have g:¬ (8:Int)<(len:Int):=by omega
   rw[show ownC _ _ len regs=1 by unfold ownC;repeat' split;all_goals omega]
   go_enter func282,ntmps282
   go_wp2_with fail
   go_ret;exact⟨Z,(Below.refl _ w).alloc Ze _⟩
  ·have d:¬ (0:Int)<(len:Int):=by omega
   have g:¬ (8:Int)<(len:Int):=by omega
   rw[show ownC _ _ len regs=0 by unfold ownC;repeat' split;all_goals omega]
   go_enter func282,ntmps282
   go_wp2_with fail
   go_ret;exact⟨Z,(Below.refl _ w).alloc Ze _⟩
 ·rcases (show 0<len\/(len=0/\r<0)\/(len=0/\0<=r/\regs<=r)\/(len=0/\0<=r/\r<regs) by omega) with b | ⟨b,f⟩|⟨b,f,h⟩|⟨b,f,h⟩
  ·have d:(0:Int)<(len:Int):=by omega
   rw[show ownC _ _ len regs=4 by unfold ownC;repeat' split;all_goals omega]
   go_enter func282,ntmps282
   go_wp2_with fail
   go_ret;exact⟨Z,(Below.refl _ w).alloc Ze _⟩
  ·have d:¬ (0:Int)<(len:Int):=by omega
   have g:¬ (8:Int)<(len:Int):=by omega
   rw[show ownC _ _ len regs=1 by unfold ownC;repeat' split;all_goals omega]
   go_enter func282,ntmps282
   go_wp2_with fail
   go_ret;exact⟨Z,(Below.refl _ w).alloc Ze _⟩
  ·have d:¬ (0:Int)<(len:Int):=by omega
   have g:¬ (8:Int)<(len:Int):=by omega
   rw[show ownC _ _ len regs=1 by unfold ownC;repeat' split;all_goals omega]
   go_enter func282,ntmps282
   go_wp2_with fail
   go_ret;exact⟨Z,(Below.refl _ w).alloc Ze _⟩
  ·have d:¬ (0:Int)<(len:Int):=by omega
   have g:¬ (8:Int)<(len:Int):=by omega
   rw[show ownC _ _ len regs=0 by unfold ownC;repeat' split;all_goals omega]
   go_enter func282,ntmps282
   go_wp2_with fail
   go_ret;exact⟨Z,(Below.refl _ w).alloc Ze _⟩
 ·rcases (show 8<len\/(len<=8/\r<0)\/(len<=8/\0<=r/\regs<=r)\/(len<=8/\0<=r/\r<regs) by omega) with b | ⟨b,f⟩|⟨b,f,h⟩|⟨b,f,h⟩
  ·have d:(8:Int)<(len:Int):=by omega
   rw[show ownC _ _ len regs=2 by unfold ownC;repeat' split;all_goals omega]
   go_enter func282,ntmps282
   go_wp2_with fail
   go_ret;exact⟨Z,(Below.refl _ w).alloc Ze _⟩
  ·have d:¬ (8:Int)<(len:Int):=by omega
   rw[show ownC _ _ len regs=1 by unfold ownC;repeat' split;all_goals omega]
   go_enter func282,ntmps282
   go_wp2_with fail
   go_ret;exact⟨Z,(Below.refl _ w).alloc Ze _⟩
  ·have d:¬ (8:Int)<(len:Int):=by omega
   rw[show ownC _ _ len regs=1 by unfold ownC;repeat' split;all_goals omega]
   go_enter func282,ntmps282
   go_wp2_with fail
   go_ret;exact⟨Z,(Below.refl _ w).alloc Ze _⟩
  ·have d:¬ (8:Int)<(len:Int):=by omega
   rw[show ownC _ _ len regs=0 by unfold ownC;repeat' split;all_goals omega]
   go_enter func282,ntmps282
   go_wp2_with fail
   go_ret;exact⟨Z,(Below.refl _ w).alloc Ze _⟩
theorem firstCode_any:∀ n,QdZ 258 n:=by
 intro n
 induction n with
 | zero=>intro t;exact Empty.elim t
 | succ n ih =>
   intro t a c b w ht J;have IH:Hid (QdZ 258 n):=ih;clear ih;have Q:Hid (LIn w All t.2.2 a):=ht.list;have F:Hid (∀ x∈t.2.2,x.count<=100000):=fun x p=>by have:=t.count_kid p;omega
   have E:t.2.2.length<=100000:=by have:=t.len_lt_count;rw[t.len_eq] at this;omega
   have h:Hid (t.fault b=if ownC t.kind t.r t.2.2.length b≠0 then ownC t.kind t.r t.2.2.length b else Qu (TT.fault b) t.2.2):=rfl;generalize t.fault b=d at h |-;simp only[Tv,TT.len_eq]
   generalize t.2.2=l at Q F h E |-;generalize t.kind=k at h |-;generalize t.r=r at h |-;clear ht J t;go_enter func258,ntmps258
   go_wp2_with fail
   have X0:Hid (Bx w (w.alloc (.cells #[Iv k,Iv r,.slice a l.length c] 105)) k r a l.length c):=Bx.start w k r a l.length c;refine(QfB k r a l.length c b _).mono ?_
   rintro e S ⟨rfl,T⟩;have m:Hid (Bx w S k r a l.length c):=X0.out.below T;clear X0 T;by_cases z:ownC k r l.length b=0
   ·have R:Hid (d=Qu (TT.fault b) l):=by
     have:=h.out
     rw[z] at this
     show d=Qu (TT.fault b) l;simpa using this
    rw[z]
    clear z h;have e2:S.cell? ⟨w.heap.size,2,none⟩=some (.slice a l.length c):=Qb m.out.box 2 _ Z;go_wp2_with fail
    clear e2;go_loopw [18] (fun i wr=>∃ q:Nat,q<=l.length/\i=Iv q/\(∀ (j:Nat) x,j<q->l[j]?=some x->x.fault b=0)/\Bx w wr k r a l.length c) (fun i _=>l.length - (intOf i).toNat)
    case atStart=>exact⟨0,Xb _,Z,fun j x hj=>by omega,m.out⟩
    case round =>
     clear m;obtain⟨q,hq,rfl,f,G⟩:=hrel
     have A:Hid (∀ (j:Nat) x,j<q->l[j]?=some x->x.fault b=0):=f;have m:Hid (Bx w wr k r a l.length c):=G;clear f;by_cases I:q<l.length
     ·have p:l[q]?=some l[q]:=Zg I;generalize l[q]=x at p;obtain⟨g,o,L,N,rfl,_,U,W,X,hk⟩:=LIn.at (Q.out.below G.bel) p
      have D:Hid (l[q]?=some x):=p;have aa:(0:Int)<=q:=by omega
      have O:(q:Int)<l.length:=by omega
      have C:Hid (∀ s,Below wr.heap.size wr s->Calls prog 258 #[Tv x L N,Iv b] s fun e w'=>e=.returned (Iv (x.fault b))/\Below s.heap.size s w') :=
       fun s hb=>IH.out x L N b s (hk.below hb) (F.out x (Zm p))
      clear G hk p;simp only[Tv] at C
      generalize x.kind=kx at C U;generalize x.r=rx at C W;generalize x.len=lx at C X;go_wp2_with fail
      have M:Below wr.heap.size wr (wr.alloc (.cells #[Iv kx,Iv rx,.slice L lx N] 105)):=(Below.refl _ wr).alloc Ze _;refine(C.out _ M).mono ?_
      rintro e w2 ⟨rfl,b2⟩;have V:Hid (Bx w w2 k r (some ⟨g,o,none⟩) l.length c):=(m.out.below M).below b2;clear m b2 M C U W X;by_cases B:x.fault b=0
      ·have A2:Hid (∀ (j:Nat) x,j<q+1->l[j]?=some x->x.fault b=0):=fun j y hj u=>by
        by_cases e:j=q
        ·subst e;rw[D.out] at u
         cases u
         exact B
        ·exact A.out j y (by omega) u
       rw[B]
       clear B A;go_wp2
       go_roundw
       case rel=>exact⟨q+1,by omega,by go_num,A2.out,V.out⟩
       case measure=>simp[intOf];omega
      ·have H:Hid (d=x.fault b):=R.out.trans (Qau D.out A.out B);have K:(x.fault b != 0)=true:=by simpa using B
       generalize x.fault b=v at K H |-;clear B A;go_wp2
       go_ret;exact⟨by rw[H.out];rfl,V.out.bel⟩
     ·have H:Hid (d=0):=R.out.trans (Qae (fun j y u=>A.out j y (by have:=(Zi u).1;omega) u));have O:¬ (q:Int)<l.length:=by omega
      clear G A;go_wp2
      go_ret;exact⟨by rw[H.out];rfl,m.out.bel⟩
   ·have R:Hid (d=ownC k r l.length b):=by
     have:=h.out
     rwa [Xs z] at this
    have P:(ownC k r l.length b != 0)=true:=by simpa using z
    generalize ownC k r l.length b=v at P R |-;clear z h;go_wp2_with fail
    go_ret;exact⟨by rw[R.out];rfl,m.out.bel⟩
theorem QjC {l:List (TT n)}{k r:Int}:m<TT.height (n:=n+1) (mkT k r l)↔∃ (i:Nat) (x:TT n),l[i]?=some x/\m<1+x.height:=by
 rw[<-Nat.not_le,Zc]
 constructor
 ·intro h;simp only[Classical.not_forall] at h
  obtain⟨x,a,b⟩:=h
  obtain⟨i,c,rfl⟩:=List.mem_iff_getElem.1 a
  exact⟨i,_,Zg c,by omega⟩
 ·rintro ⟨i,x,a,b⟩ h
  have:=h x (Zm (l:=l) a)
  omega
theorem deeper_any:∀ (n:Nat) (t:TT n) (a:Option Addr) (c:Nat) (w:World) (m:Nat),TIn w All t a->t.count<=100000->m<=4 ->
 Calls prog 257 #[Tv t a c,Iv m] w fun e w'=>e=.returned (.bool (decide (m<t.height)))/\Below w.heap.size w w':=by
 intro n
 induction n with
 | zero=>intro t;exact Empty.elim t
 | succ n ih =>
   intro t a c w m W J ac
   have IH:Hid (∀ (t:TT n) (a:Option Addr) (c:Nat) (w:World) (m:Nat),TIn w All t a->t.count<=100000->m<=4 ->
    Calls prog 257 #[Tv t a c,Iv m] w fun e w'=>e=.returned (.bool (decide (m<t.height)))/\Below w.heap.size w w'):=ih
   clear ih;have R:Hid (LIn w All t.2.2 a):=W.list;have D:Hid (∀ x∈t.2.2,x.count<=100000):=fun x b=>by have:=t.count_kid b;omega
   have u:t.2.2.length<=100000:=by have:=t.len_lt_count;rw[t.len_eq] at this;omega
   have p:Hid (m<t.height↔∃ (i:Nat) (x:TT n),t.2.2[i]?=some x/\m<1+x.height):=QjC;generalize t.height=h at p |-;simp only[Tv,TT.len_eq]
   generalize t.2.2=l at R D p u |-;generalize t.kind=k;generalize t.r=r;clear W J t;go_enter func257,ntmps257
   go_wp2_with fail
   have L:Hid (Bx w (w.alloc (.cells #[Iv k,Iv r,.slice a l.length c] 105)) k r a l.length c):=Bx.start w k r a l.length c;generalize w.alloc (.cells #[Iv k,Iv r,.slice a l.length c] 105)=w1 at L |-;go_loopw [10] (fun i wr=>∃ q:Nat,q<=l.length/\i=Iv q/\(∀ (j:Nat) x,j<q->l[j]?=some x->1+x.height<=m)/\Bx w wr k r a l.length c) (fun i _=>l.length - (intOf i).toNat)
   case atStart=>exact⟨0,Xb _,Z,fun j x hj=>by omega,L.out⟩
   case round =>
    clear L;obtain⟨q,hq,rfl,d,B⟩:=hrel
    have A:Hid (∀ (j:Nat) x,j<q->l[j]?=some x->1+x.height<=m):=d;have E:Hid (Bx w wr k r a l.length c):=B;clear d;by_cases H:q<l.length
    ·have b:l[q]?=some l[q]:=Zg H;generalize l[q]=x at b;obtain⟨g,o,K,N,rfl,_,I,T,V,Q⟩:=LIn.at (R.out.below B.bel) b
     have hg:g<wr.heap.size:=Xi wr ⟨g,o+q*3,none⟩ I;have s:Hid (l[q]?=some x):=b;have ad:(0:Int)<=q:=by omega
     have O:(q:Int)<l.length:=by omega
     by_cases U:m=0
     ·have v:Hid (m<h):=p.out.2 ⟨q,x,b,by omega⟩;have P:((m:Int)==0)=true:=by simp;omega
      clear B Q b U;go_wp2_with fail
      go_ret;exact⟨by rw[Xt v.out];rfl,(E.out.alloc _).bel⟩
     ·have P:((m:Int)==0)=false:=by simp;omega
      have C:Hid (∀ f,Below wr.heap.size wr f->Calls prog 257 #[Tv x K N,Iv ((m:Int) - 1)] f fun e w'=>e=.returned (.bool (decide (m - 1<x.height)))/\Below f.heap.size f w'):=fun f hb=>by
       have:=IH.out x K N f (m - 1) (Q.below hb) (D.out x (Zm b)) (by omega)
       rw[show ((m - 1:Nat):Int)=(m:Int) - 1 by omega] at this
       exact this
      have aa:(1:Int)<=m:=by omega
      have ab:(m:Int)<=4:=by omega
      have z:Hid (1<=m):=by show 1<=m;omega
      clear B Q b U;simp only[Tv] at C
      generalize x.kind=kx at C I;generalize x.r=rx at C T;generalize x.len=lx at C V;go_wp2_with fail
      have M:Below wr.heap.size wr (wr.alloc (.cells #[Iv kx,Iv rx,.slice K lx N] 105)):=(Below.refl _ wr).alloc Ze _;refine(C.out _ M).mono ?_
      rintro e w2 ⟨rfl,X⟩;have S:Hid (Bx w w2 k r (some ⟨g,o,none⟩) l.length c):=(E.out.below M).below X;clear E X M C I T V;by_cases F:m - 1<x.height
      ·have v:Hid (m<h):=p.out.2 ⟨q,x,s.out,by have:=z.out;omega⟩;rw[Xt F]
       clear F;go_wp2
       go_ret;exact⟨by rw[Xt v.out];rfl,S.out.bel⟩
      ·have A2:Hid (∀ (j:Nat) x,j<q+1->l[j]?=some x->1+x.height<=m):=fun j y hj G=>by
        by_cases e:j=q
        ·subst e;rw[s.out] at G
         cases G
         have:=z.out
         omega
        ·exact A.out j y (by omega) G
       rw[Xu F]
       clear F A;go_wp2
       go_roundw
       case rel=>exact⟨q+1,by omega,by go_num,A2.out,S.out⟩
       case measure=>simp[intOf];omega
    ·have v:Hid (¬ m<h):=fun hc=>by
      obtain⟨i,x,b,h3⟩:=p.out.1 hc
      have:=A.out i x (by have:=(Zi b).1;omega) b
      omega
     have O:¬ (q:Int)<l.length:=by omega
     clear B A;go_wp2
     go_ret;exact⟨by rw[Xu v.out];rfl,E.out.bel⟩
theorem check_any:Qjr 223:=by
 intro n t a c b w q s
 have j:Hid (∀ d,Below w.heap.size w d->Calls prog 257 #[Tv t a c,Iv 4] d fun e o=>e=.returned (.bool (decide (4<t.height)))/\Below d.heap.size d o) :=
  fun d p=>deeper_any n t a c d 4 (q.below p) s (by omega)
 have g:Hid (∀ d,Below w.heap.size w d->Calls prog 258 #[Tv t a c,Iv b] d fun e o=>e=.returned (Iv (t.fault b))/\Below d.heap.size d o) :=
  fun d p=>firstCode_any n t a c b d (q.below p) s
 have E:Hid (t.check b=if 4<t.height then 19 else t.fault b):=rfl;generalize t.check b=l at E |-;clear q s;simp only[Tv] at j g |-
 generalize t.kind=k at j g |-;generalize t.r=r at j g |-;generalize t.len=f at j g |-;generalize t.fault b=v at g E;go_enter func223,ntmps223
 go_wp2_with fail
 have m:=Bx.start w k r a f c;generalize w.alloc (.cells #[Iv k,Iv r,.slice a f c] 105)=F at m |-;refine(j.out _ m.bel).mono ?_
 rintro e A ⟨rfl,x⟩;have h:Hid (Bx w A k r a f c):=m.below x;have B:=Qb h.out.box 0 _ Z;have C:=Qb h.out.box 1 _ Z;have z:=Qb h.out.box 2 _ Z;clear m x j;by_cases i:4<t.height
 ·rw[Xt i]
  have R:Hid (l=19):=by have:=E.out;rwa [Xs i] at this
  clear i;go_wp2_with fail
  go_ret;exact⟨by rw[R.out];rfl,h.out.bel⟩
 ·rw[Xu i]
  have R:Hid (l=v):=by have:=E.out;rwa [Xr i] at this
  clear i;go_wp2_with fail
  refine(g.out _ h.out.bel).mono ?_
  rintro e y ⟨rfl,u⟩;have D:Hid (Bx w y k r a f c):=h.out.below u;clear h u g B C z;go_wp2_with fail
  go_ret;exact⟨by rw[R.out];rfl,D.out.bel⟩
abbrev QG (p:Int × Int):Value:=.agg #[Iv p.1,Iv p.2]
def atF (c p:Int):Int × Int:=if c=0 then (0,0) else (c,p)
theorem Qez {α:Type}{f:Nat->α->Int × Int}:∀ {l:List α}{j:Nat},firstF (fun i x=>atF (f i x).1 (f i x).2) j l=firstF f j l
 | [],_=>rfl
 | x::xs,j=>by
   simp only[firstF,atF]
   by_cases h:(f j x).1=0
   ·simp only[h,if_true,ne_eq,not_true_eq_false,if_false]
    exact Qez
   ·simp[h]
def MFunc.code {n:Nat}(f:Nat) (x:MFunc n):Int :=
 if x.regs<0\/6<x.regs then 1 else if listC x.regs x.params≠0 then listC x.regs x.params else if listC x.regs x.results≠0 then listC x.regs x.results
 else if x.blocks.length<1\/12<x.blocks.length then 2 else if f=0/\¬ (x.regs=0/\x.params.length=0/\x.results.all (fun t=>t.kind==1)=true) then 18 else 0
theorem MFunc.fault_eq (a f:Nat) (x:MFunc n):MFunc.fault a f x=if x.code f=0 then firstF (fun b y=>MBlock.fault a f x b y) 0 x.blocks else (x.code f,10000*(f:Int)+9999):=by
 unfold MFunc.fault MFunc.code;generalize listC x.regs x.params=d;generalize listC x.regs x.results=c;generalize firstF (fun b y=>MBlock.fault a f x b y) 0 x.blocks=e;repeat' split
 all_goals first | rfl | (exfalso;omega) | contradiction
def MBlock.code' {n:Nat}(fn:MFunc n) (b:Nat) (x:MBlock n):Int :=
 if x.regs<fn.regs\/16<x.regs then 1 else if listC x.regs x.params≠0 then listC x.regs x.params
 else if b=0/\(x.regs≠fn.regs\/Qc3 x.params fn.params=false) then 9 else if 40<x.code.length then 2 else 0
theorem MBlock.fault_eq (a f:Nat) (fn:MFunc n) (b:Nat) (x:MBlock n):MBlock.fault a f fn b x =
 if x.code' fn b=0 then (if (firstF (fun i y=>(Qs.form a y,(10000*f+100*b+i:Int))) 0 x.code).1=0 then atF (x.fin.form fn.blocks.length) (10000*(f:Int)+100*(b:Int)+91)
  else firstF (fun i y=>(Qs.form a y,(10000*f+100*b+i:Int))) 0 x.code) else (x.code' fn b,10000*(f:Int)+100*(b:Int)+90):=by
 unfold MBlock.fault MBlock.code' atF;generalize firstF (fun i y=>(Qs.form a y,(10000*f+100*b+i:Int))) 0 x.code=e;generalize x.fin.form fn.blocks.length=d;generalize listC x.regs x.params=c;repeat' split
 all_goals first | rfl | (exfalso;omega) | contradiction
def idxK {n:Nat}:Nat->List (TT n)->Int
 | _,[]=>-1
 | i,t::ts=>if t.kind=1 then idxK (i+1) ts else (i:Int)
theorem QhZ {l:List (TT n)}{x:TT n}(h:l[q]?=some x):idxK q (l.drop q)=if x.kind=1 then idxK (q+1) (l.drop (q+1)) else (q:Int):=by
 obtain⟨a,rfl⟩:=Zi h
 rw[List.drop_eq_getElem_cons a]
 rfl
theorem Qgy {n:Nat}:∀ (l:List (TT n)) (j:Nat),(0<=idxK j l)↔¬ l.all (fun t=>t.kind==1)=true
 | [],j=>by simp[idxK]
 | y::ys,j=>by
   by_cases h:y.kind=1
   ·simp only[idxK,h,if_true,List.all_cons,beq_self_eq_true,Bool.true_and]
    exact Qgy ys (j+1)
   ·simp[idxK,h]
theorem Qe2 {t:TT n}{regs:Int}(d:TIn w All t a) (b:t.count<=100000):Rd prog 78 #[Tv t a c,Iv regs] w (Iv (t.check regs)):=typeFaultT_any n t a c regs w d b
theorem Qka {t:TT n}{regs:Int}(d:TIn w All t a) (b:t.count<=100000):Rd prog 223 #[Tv t a c,Iv regs] w (Iv (t.check regs)):=check_any n t a c regs w d b
theorem Qdf {α:Type}{f:α->Int}{l:List α}{x:α}(h:l[q]?=some x):Qu f (l.drop q)=if f x≠0 then f x else Qu f (l.drop (q+1)):=by
 obtain⟨a,rfl⟩:=Zi h
 rw[List.drop_eq_getElem_cons a]
 rfl
theorem Qlg {l:List (TT n)}{regs:Int}(a:(Qp n).In w All l [.slice p l.length c]) (f:Qc5 l) :
 Rd prog 51 #[.slice p l.length c,Iv regs] w (Iv (listC regs l)):=by
 have L:=Qf (QW a).1;have K:=Qf f.2;by_cases s:8<l.length
 ·have E:Hid (listC regs l=2):=Xs s;have d:decide ((l.length:Int)>8)=true:=Xt (by omega);clear s f a;go_enter func51,ntmps51
  go_wp2
  go_ret;exact⟨by rw[E.out];rfl,Zr⟩
 have E:Hid (listC regs l=Qu (TT.check regs) (l.drop 0)):=Xr s;have d:decide ((l.length:Int)>8)=false:=Xu (by omega);have s:l.length<=8:=by omega
 generalize listC regs l=V at E |-;clear f a;go_enter func51,ntmps51
 go_wp2
 go_loopw [5] (fun i wr=>∃ q:Nat,q<=l.length/\i=Iv q/\Hid (V=Qu (TT.check regs) (l.drop q))/\Hid (Below w.heap.size w wr)) (fun i _=>l.length - (intOf i).toNat)
 case atStart=>exact⟨0,Xb _,Z,E,Zr⟩
 case round =>
  obtain⟨q,P,rfl,e,k⟩:=hrel
  clear E;by_cases h:q<l.length
  ·have m:l[q]?=some l[q]:=Zg h;have z:=Qf (K.out _ (List.getElem_mem h));generalize l[q]=t at m z;obtain⟨g,o,I,D,rfl,-,B,F,J,In⟩:=LIn.at (TIn.below L.out k.out) m
   have N:(q:Int)<l.length:=by omega
   have b:=Qf (e.out.trans (Qdf m));have C:Hid (∀ u,Below wr.heap.size wr u->Rd prog 78 #[.agg #[Iv t.kind,Iv t.r,.slice I t.len D],Iv regs] u (Iv (t.check regs))):=fun u G=>Qe2 (In.below G) z.out;clear m e In;generalize t.check regs=v at b C;have C:=Qf (C.out wr Zr);go_wp2_with fail
   refine C.out.mono ?_;rintro O H ⟨rfl,A⟩;have y:Hid (Below w.heap.size w H):=k.out.trans (A.mono k.out.size);clear A C B F J;by_cases j:v=0
   ·subst j;have b:=Qf (b.out.trans (Xr (by simp)));go_wp2
    go_roundw
    case rel=>exact⟨q+1,by omega,by go_num,b,y⟩
    case measure=>simp[intOf];omega
   ·have b:=Qf (b.out.trans (Xs j));have M:(v != 0)=true:=bne_iff_ne.2 j;clear j;go_wp2
    go_ret;exact⟨by rw[b.out];rfl,y.out⟩
  ·have x:q=l.length:=by omega
   subst x;go_wp2
   go_ret;exact⟨by rw[e.out,List.drop_length];rfl,k.out⟩
theorem QaB {l:List (TT n)}{regs:Int}(a:(Qp n).In w All l [.slice p l.length c]) (f:Qc5 l) :
 Rd prog 178 #[.slice p l.length c,Iv regs] w (Iv (listC regs l)):=by
 have L:=Qf (QW a).1;have K:=Qf f.2;by_cases s:8<l.length
 ·have E:Hid (listC regs l=2):=Xs s;have d:decide ((l.length:Int)>8)=true:=Xt (by omega);clear s f a;go_enter func178,ntmps178
  go_wp2
  go_ret;exact⟨by rw[E.out];rfl,Zr⟩
 have E:Hid (listC regs l=Qu (TT.check regs) (l.drop 0)):=Xr s;have d:decide ((l.length:Int)>8)=false:=Xu (by omega);have s:l.length<=8:=by omega
 generalize listC regs l=V at E |-;clear f a;go_enter func178,ntmps178
 go_wp2
 go_loopw [13] (fun i wr=>∃ q:Nat,q<=l.length/\i=Iv q/\Hid (V=Qu (TT.check regs) (l.drop q))/\Hid (Below w.heap.size w wr)) (fun i _=>l.length - (intOf i).toNat)
 case atStart=>exact⟨0,Xb _,Z,E,Zr⟩
 case round =>
  obtain⟨q,P,rfl,e,k⟩:=hrel
  clear E;by_cases h:q<l.length
  ·have m:l[q]?=some l[q]:=Zg h;have B:=Qf (K.out _ (List.getElem_mem h));generalize l[q]=t at m B;obtain⟨g,o,A,y,rfl,-,F,G,J,In⟩:=LIn.at (TIn.below L.out k.out) m
   have N:(q:Int)<l.length:=by omega
   have b:=Qf (e.out.trans (Qdf m));have C:Hid (∀ u,Below wr.heap.size wr u->Rd prog 223 #[.agg #[Iv t.kind,Iv t.r,.slice A t.len y],Iv regs] u (Iv (t.check regs))):=fun u H=>Qka (In.below H) B.out;clear m e In;generalize t.check regs=v at b C;have C:=Qf (C.out _ (Zd wr (.cells #[Iv t.kind,Iv t.r,.slice A t.len y] 105)));go_wp2_with fail
   refine C.out.mono ?_;rintro O I ⟨rfl,D⟩;have z:Hid (Below w.heap.size w I):=k.out.trans (((Zd wr _).trans (D.mono (Zd wr _).size)).mono k.out.size);clear D C F G J;by_cases j:v=0
   ·subst j;have b:=Qf (b.out.trans (Xr (by simp)));go_wp2
    go_roundw
    case rel=>exact⟨q+1,by omega,by go_num,b,z⟩
    case measure=>simp[intOf];omega
   ·have b:=Qf (b.out.trans (Xs j));have M:(v != 0)=true:=bne_iff_ne.2 j;clear j;go_wp2
    go_ret;exact⟨by rw[b.out];rfl,z.out⟩
  ·have x:q=l.length:=by omega
   subst x;go_wp2
   go_ret;exact⟨by rw[e.out,List.drop_length];rfl,k.out⟩
theorem Qbv {f:Int}:Rd prog 117 #[Iv xc,Iv f] w (QG (atF xc f)):=by
 have b:=Qf ((Bxs.start w).new #[Iv 0,Iv 0] 32);go_enter func117,ntmps117
 go_upto_region 1 with fail
 generalize w.alloc (.cells #[Iv 0,Iv 0] 32)=j at b |-;generalize w.heap.size=R at b |-;have i:=b.out.cell (a:=[]) 0 _ Z;have m:=b.out.cell (a:=[]) 1 _ Z;have l:=b.out.free (a:=[]) 0;have k:=b.out.free (a:=[]) 1;have g:Hid (∀ c p:Int,_):=fun c p=>(b.out.set (a:=[]) 0 (Iv c)).set (a:=[]) 1 (Iv p);by_cases h:xc=0
 ·subst h;go_wp2
  exact Xy (v:=QG (atF 0 f)) (by simp[results,results117,go_sem,(g.out 0 0).cell (a:=[]) 0 _ Z,(g.out 0 0).cell (a:=[]) 1 _ Z,atF,QG]) Z ⟨Z,(g.out 0 0).bel⟩
 ·have d:(xc==0)=false:=by simpa using h
  have e:=Qf h;clear h;go_wp2
  exact Xy (v:=QG (atF xc f)) (by simp[results,results117,go_sem,(g.out xc f).cell (a:=[]) 0 _ Z,(g.out xc f).cell (a:=[]) 1 _ Z,atF,QG,e.out]) Z ⟨Z,(g.out xc f).bel⟩
theorem QgQ {l:List (TT n)}(d:(Qp n).In w All l [.slice p l.length c]) (x:l.length<=100000) :
 Rd prog 259 #[.slice p l.length c,.func (.func 225) #[] #[]] w (Iv (idxK 0 l)):=by
 have u:=Qf (QW d).1;have E:Hid (idxK 0 l=idxK 0 (l.drop 0)):=rfl;have C:∀ (args:Array Value) (w:World),(callFunc 225 args).run prog w=.ok (.enter 225 args) w:=fun _ _=>by kernel_rfl
 generalize idxK 0 l=V at E |-;clear d;go_enter func259,ntmps259
 go_wp2
 go_loopw [8] (fun i wr=>∃ q:Nat,q<=l.length/\i=Iv q/\Hid (V=idxK q (l.drop q))/\Hid (Below w.heap.size w wr)) (fun i _=>l.length - (intOf i).toNat)
 case atStart=>exact⟨0,Xb _,Z,E,Zr⟩
 case round =>
  obtain⟨q,D,rfl,e,k⟩:=hrel
  clear E;by_cases j:q<l.length
  ·have f:l[q]?=some l[q]:=Zg j;generalize l[q]=t at f;obtain⟨g,o,y,v,rfl,-,s,B,F,In⟩:=LIn.at (TIn.below u.out k.out) f
   have A:(q:Int)<l.length:=by omega
   have b:=Qf (e.out.trans (QhZ f));have m:Hid (Below w.heap.size w (wr.alloc (.cells #[Iv t.kind,Iv t.r,.slice y t.len v] 105))):=k.out.trans ((Zd wr _).mono k.out.size);clear f e In;by_cases a:t.kind=1
   ·have b:=Qf (b.out.trans (Xs a));rw[a] at s m
    clear a;go_wp2
    go_roundw
    case rel=>exact⟨q+1,by omega,by go_num,b,m⟩
    case measure=>simp[intOf];omega
   ·have b:=Qf (b.out.trans (Xr a));have z:(t.kind != 1)=true:=bne_iff_ne.2 a;clear a;go_wp2
    go_ret;exact⟨by rw[b.out];rfl,m.out⟩
  ·have h:q=l.length:=by omega
   subst h;go_wp2
   go_ret;exact⟨by rw[e.out,List.drop_length];rfl,k.out⟩
theorem Qel {l:List (TT n)}(a:(Qp n).In w All l [.slice p l.length c]) (b:l.length<=100000) :
 Rd prog 224 #[.slice p l.length c,.func (.func 225) #[] #[]] w (.bool (decide (0<=idxK 0 l))):=by
 have C:=Qf (QgQ a b);clear a;go_enter func224,ntmps224
 go_wp2_with fail
 refine C.out.mono ?_;rintro g f ⟨rfl,d⟩;have e:=Qf d;clear d C;go_wp2
 go_ret;exact⟨Z,e.out⟩
def MFunc.begins {n:Nat}(x:MFunc n):Prop:=x.regs=0/\x.params.length=0/\x.results.all (fun t=>t.kind==1)=true
def MBlock.takes {n:Nat}(fn:MFunc n) (x:MBlock n):Prop:=x.regs=fn.regs/\x.params=fn.params
theorem QkR {fn:MFunc n}{x:MBlock n}(h:¬ x.takes fn):x.regs≠fn.regs\/Qc3 x.params fn.params=false:=by
 by_cases a:x.regs=fn.regs
 ·refine .inr ?_
  cases e:Qc3 x.params fn.params with
  | false=>rfl
  | true=>exact absurd ⟨a,Qdb.1 e⟩ h
 ·exact .inl a
theorem Qi7 {fn:MFunc n}{x:MBlock n}(h:x.takes fn):¬ (x.regs≠fn.regs\/Qc3 x.params fn.params=false):=by
 rintro (a | a)
 ·exact a h.1
 ·rw[Qdb.2 h.2] at a;cases a
abbrev bkA {n:Nat}(m:List (MFunc n)) (p:Option Addr) (c:Nat) (x:MFunc n) (fp:FP) (fi:Nat) (y:MBlock n) (bp:BP) (bi:Nat):Array Value:=#[.slice p m.length c,Iv x.regs,.slice fp.pP x.params.length fp.cP,.slice fp.pR x.results.length fp.cR,.slice fp.pB x.blocks.length fp.cB,Iv (fi:Int),Iv y.regs,.slice bp.pP y.params.length bp.cP,.slice bp.pC y.code.length bp.cC,Iv y.fin.op,Iv y.fin.a,Iv y.fin.yes.block,.slice bp.e.pYR y.fin.yes.regs.length bp.e.cYR,.slice bp.e.pYA y.fin.yes.args.length bp.e.cYA,Iv y.fin.no.block,.slice bp.e.pNR y.fin.no.regs.length bp.e.cNR,.slice bp.e.pNA y.fin.no.args.length bp.e.cNA,.slice bp.e.pA y.fin.args.length bp.e.cA,Iv (bi:Int)]
theorem Qe7 {m:List (MFunc n)}{x:MFunc n}{a:FP}(g:FIn w All x a) (k:x.small) :
 Rd prog 179 #[.agg #[.slice p m.length c,Iv x.regs,.slice a.pP x.params.length a.cP,.slice a.pR x.results.length a.cR,.slice a.pB x.blocks.length a.cB,Iv (fi:Int)]] w (.bool (ZR x.begins)):=by
 have e:=Qf (Zd w (.cells #[.slice p m.length c,Iv x.regs,.slice a.pP x.params.length a.cP,.slice a.pR x.results.length a.cR,.slice a.pB x.blocks.length a.cB,Iv (fi:Int)] 139));have j:=Qf (Blk.new w #[.slice p m.length c,Iv x.regs,.slice a.pP x.params.length a.cP,.slice a.pR x.results.length a.cR,.slice a.pB x.blocks.length a.cB,Iv (fi:Int)] 139);have C:=Qf (Qel (Ya g.results e.out) (by have:=k.2.2.1.1;omega));have o:x.begins↔x.regs=0/\x.params.length=0/\¬ 0<=idxK 0 x.results:=by unfold MFunc.begins;rw[Qgy,Classical.not_not]
 have b:=Qf o;clear o;generalize idxK 0 x.results=r at C b;clear g k;go_enter func179,ntmps179
 go_upto_region 1 with fail
 generalize w.alloc (.cells #[.slice p m.length c,Iv x.regs,.slice a.pP x.params.length a.cP,.slice a.pR x.results.length a.cR,.slice a.pB x.blocks.length a.cB,Iv (fi:Int)] 139)=y at e j C |-;generalize q:w.heap.size=X at j |-;have E:=Qf q;clear q;have F:=Qb j.out 1 _ Z;have G:=Qb j.out 2 _ Z;have B:=Qb j.out 3 _ Z;by_cases d:x.regs=0
 ·have t:(x.regs==0)=true:=by simpa using d
  by_cases f:x.params.length=0
  ·have v:((x.params.length:Int)==0)=true:=by simpa using f
   have i:Hid (ZR x.begins=!(decide (0<=r))):=by
    by_cases l:0<=r
    ·exact(QB (fun h=>(b.out.1 h).2.2 l)).trans (by simp[l])
    ·exact(QC (b.out.2 ⟨d,f,l⟩)).trans (by simp[l])
   clear d f b;go_wp2_with fail
   refine C.out.mono ?_;rintro z D ⟨rfl,s⟩;have u:=Qf (e.out.trans (s.mono e.out.size));clear s C;go_wp2
   go_ret;exact⟨by rw[i.out];rfl,u.out⟩
  ·have v:((x.params.length:Int)==0)=false:=by simpa using f
   have i:=Qf (QB (A:=x.begins) (fun h=>f (b.out.1 h).2.1));clear d f b;go_wp2
   go_ret;exact⟨by rw[i.out];rfl,e.out⟩
 ·have t:(x.regs==0)=false:=by simpa using d
  have i:=Qf (QB (A:=x.begins) (fun h=>d (b.out.1 h).1));clear d b;go_wp2
  go_ret;exact⟨by rw[i.out];rfl,e.out⟩
theorem QeO {m:List (MFunc n)}{x:MFunc n}{a:FP}(k:FIn w All x a) (i:x.small) :
 Rd prog 116 #[.agg #[.slice p m.length c,Iv x.regs,.slice a.pP x.params.length a.cP,.slice a.pR x.results.length a.cR,.slice a.pB x.blocks.length a.cB,Iv (fi:Int)]] w (Iv (x.code fi)):=by
 have r:=Qf (Zd w (.cells #[.slice p m.length c,Iv x.regs,.slice a.pP x.params.length a.cP,.slice a.pR x.results.length a.cR,.slice a.pB x.blocks.length a.cB,Iv (fi:Int)] 139));have d:=Qf (Blk.new w #[.slice p m.length c,Iv x.regs,.slice a.pP x.params.length a.cP,.slice a.pR x.results.length a.cR,.slice a.pB x.blocks.length a.cB,Iv (fi:Int)] 139);have s:Hid (∀ f,Below w.heap.size w f->Calls prog 178 #[.slice a.pP x.params.length a.cP,Iv x.regs] f fun e u=>e=.returned (Iv (listC x.regs x.params))/\Below f.heap.size f u):=fun f y=>QaB (regs:=x.regs) (Ya k.params y) i.2.1;have q:Hid (∀ f,Below w.heap.size w f->Calls prog 178 #[.slice a.pR x.results.length a.cR,Iv x.regs] f fun e u=>e=.returned (Iv (listC x.regs x.results))/\Below f.heap.size f u):=fun f y=>QaB (regs:=x.regs) (Ya k.results y) i.2.2.1;have g:Hid (∀ f,Below w.heap.size w f->Calls prog 179 #[.agg #[.slice p m.length c,Iv x.regs,.slice a.pP x.params.length a.cP,.slice a.pR x.results.length a.cR,.slice a.pB x.blocks.length a.cB,Iv (fi:Int)]] f fun e u=>e=.returned (.bool (ZR x.begins))/\Below f.heap.size f u):=fun f y=>Qe7 (k.below y) i;have aa:=i.1;have b:Hid (x.code fi=if x.regs<0\/6<x.regs then 1 else if listC x.regs x.params≠0 then listC x.regs x.params else if listC x.regs x.results≠0 then listC x.regs x.results else if x.blocks.length<1\/12<x.blocks.length then 2 else if fi=0/\¬ (x.regs=0/\x.params.length=0/\x.results.all (fun t=>t.kind==1)=true) then 18 else 0):=rfl;generalize x.code fi=V at b |-;generalize listC x.regs x.params=W at b s;generalize listC x.regs x.results=U at b q;clear k i;go_enter func116,ntmps116
 go_upto_region 1 with fail
 generalize w.alloc (.cells #[.slice p m.length c,Iv x.regs,.slice a.pP x.params.length a.cP,.slice a.pR x.results.length a.cR,.slice a.pB x.blocks.length a.cB,Iv (fi:Int)] 139)=w1 at r d |-;generalize T:w.heap.size=X at d |-;have HX:=Qf T;clear T;have J:=Qb d.out 1 _ Z;have L:=Qb d.out 2 _ Z;have G:=Qb d.out 3 _ Z;have F:=Qb d.out 4 _ Z;have K:=Qb d.out 5 _ Z;by_cases z:x.regs<0\/6<x.regs
 ·have E:=Qf (b.out.trans (Xs z));by_cases l:x.regs<0
  ·have H:decide (x.regs<0)=true:=Xt l;clear l z b s q g;go_wp2
   go_ret;exact⟨by rw[E.out];rfl,r.out⟩
  ·have H:decide (x.regs<0)=false:=Xu l;have S:decide (x.regs>6)=true:=Xt (by omega);clear l z b s q g;go_wp2
   go_ret;exact⟨by rw[E.out];rfl,r.out⟩
 replace b:=Qf (b.out.trans (Xr z));have H:decide (x.regs<0)=false:=Xu (by omega);have S:decide (x.regs>6)=false:=Xu (by omega);clear z;go_wp2_with fail
 refine(s.out w1 r.out).mono ?_
 rintro M w2 ⟨rfl,P⟩;have I:=Qf (r.out.trans (P.mono r.out.size));have d:=Qf (d.out.below P);clear P s J L G F K;have J:=Qb d.out 1 _ Z;have L:=Qb d.out 2 _ Z;have G:=Qb d.out 3 _ Z;have F:=Qb d.out 4 _ Z;have K:=Qb d.out 5 _ Z;by_cases C:W=0
 rotate_left
 ·have E:=Qf (b.out.trans (Xs C));have Q:(W != 0)=true:=bne_iff_ne.2 C;clear C b q g;go_wp2
  go_ret;exact⟨by rw[E.out];rfl,I.out⟩
 replace b:=Qf (b.out.trans (Xr (fun h=>h C)));subst C;go_wp2_with fail
 refine(q.out w2 I.out).mono ?_
 rintro M R ⟨rfl,N⟩;have j:=Qf (I.out.trans (N.mono I.out.size));have d:=Qf (d.out.below N);clear N q J L G F K;have x0:=Qb d.out 0 _ Z;have J:=Qb d.out 1 _ Z;have L:=Qb d.out 2 _ Z;have G:=Qb d.out 3 _ Z;have F:=Qb d.out 4 _ Z;have K:=Qb d.out 5 _ Z;by_cases A:U=0
 rotate_left
 ·have E:=Qf (b.out.trans (Xs A));have Q:(U != 0)=true:=bne_iff_ne.2 A;clear A b g;go_wp2
  go_ret;exact⟨by rw[E.out];rfl,j.out⟩
 replace b:=Qf (b.out.trans (Xr (fun h=>h A)));subst A;by_cases B:x.blocks.length<1\/12<x.blocks.length
 ·have E:=Qf (b.out.trans (Xs B));by_cases l:x.blocks.length<1
  ·have H:decide ((x.blocks.length:Int)<1)=true:=Xt (by omega);clear l B b g;go_wp2
   go_ret;exact⟨by rw[E.out];rfl,j.out⟩
  ·have H:decide ((x.blocks.length:Int)<1)=false:=Xu (by omega);have S:decide ((x.blocks.length:Int)>12)=true:=Xt (by omega);clear l B b g;go_wp2
   go_ret;exact⟨by rw[E.out];rfl,j.out⟩
 replace b:=Qf (b.out.trans (Xr B));have Q:decide ((x.blocks.length:Int)<1)=false:=Xu (by omega);have d4:decide ((x.blocks.length:Int)>12)=false:=Xu (by omega);clear B;by_cases D:fi=0
 rotate_left
 ·have E:=Qf (b.out.trans (Xr (fun h=>D h.1)));have d5:((fi:Int)==0)=false:=by simpa using D
  clear D b g;go_wp2
  go_ret;exact⟨by rw[E.out];rfl,j.out⟩
 subst D;by_cases o:x.begins
 ·have E:=Qf (b.out.trans (Xr (fun h=>h.2 o)));have g:=Qf (g.out R j.out);rw[QC o] at g
  clear o b;go_wp2_with fail
  refine g.out.mono ?_;rintro M w4 ⟨rfl,v⟩;have O:=Qf (j.out.trans (v.mono j.out.size));clear v g;go_wp2
  go_ret;exact⟨by rw[E.out];rfl,O.out⟩
 ·have E:=Qf (b.out.trans (Xs ⟨Z,o⟩));have g:=Qf (g.out R j.out);rw[QB o] at g
  clear o b;go_wp2_with fail
  refine g.out.mono ?_;rintro M w4 ⟨rfl,v⟩;have O:=Qf (j.out.trans (v.mono j.out.size));clear v g;go_wp2
  go_ret;exact⟨by rw[E.out];rfl,O.out⟩
theorem ZM {rest:List Oper}{op:Oper}{a:Act}{Q:Exit->Act->World->Prop}(e:Region.wanted op (yielded ops a.tmps)=true) (c:TypeId) (x:Operand) (g:op.op=.load c x)
 (b o:Nat) (l:a.eval x=Pv b o) (cs:List Value) (d:TypeDesc) (k:w.rangeAt b o cs) (j:P.underlying c=some d) (f:d.isRow=true) (hi:(P.info? c).map (·.size)=some cs.length)
 (h:wpList P ops Q rest (a.put op.dst (.agg cs.toArray)) w):wpList P ops Q (op::rest) a w :=
 wpList_step fun K i=>by
  rw[Xs e]
  exact wp_load_mid c x g b o l cs d k j f hi (i _ _ h)
theorem bkSize:(prog.info? 194).map (·.size)=some 19:=by kernel_rfl
theorem QhV {m:List (MFunc n)}{x:MFunc n}{d:FP}{y:MBlock n}{b:BP}(k:FIn w All x d) (r:x.small) (l:BIn w All y b) (f:y.small) :
 Rd prog 226 #[.agg (bkA m p c x d fi y b bi)] w (.bool (ZR (y.takes x))):=by
 have o:=Qf (Zd w (.cells (bkA m p c x d fi y b bi) 194));have j:=Qf (Blk.new w (bkA m p c x d fi y b bi) 194);have C:Hid (∀ g,Below w.heap.size w g->Calls prog 260 #[.slice b.pP y.params.length b.cP,.slice d.pP x.params.length d.cP,FV] g fun e z=>ZL e (y.params=x.params)/\Below g.heap.size g z):=fun g s=>Qji n (same_any n) _ _ _ _ _ _ g (QW (Ya l.params s)).1 (QW (Ya k.params s)).1 (by have:=f.2.1.1;omega) f.2.1.2;clear k r l f;unfold Rd;go_enter func226,ntmps226
 go_upto_region 1 with fail
 generalize w.alloc (.cells #[.slice p m.length c,Iv x.regs,.slice d.pP x.params.length d.cP,.slice d.pR x.results.length d.cR,.slice d.pB x.blocks.length d.cB,Iv (fi:Int),Iv y.regs,.slice b.pP y.params.length b.cP,.slice b.pC y.code.length b.cC,Iv y.fin.op,Iv y.fin.a,Iv y.fin.yes.block,.slice b.e.pYR y.fin.yes.regs.length b.e.cYR,.slice b.e.pYA y.fin.yes.args.length b.e.cYA,Iv y.fin.no.block,.slice b.e.pNR y.fin.no.regs.length b.e.cNR,.slice b.e.pNA y.fin.no.args.length b.e.cNA,.slice b.e.pA y.fin.args.length b.e.cA,Iv (bi:Int)] 194)=B at o j |-;generalize t:w.heap.size=X at j |-;have K:=Qf t;clear t;have M:=Qb j.out 1 _ Z;have N:=Qb j.out 2 _ Z;have L:=Qb j.out 6 _ Z;have I:=Qb j.out 7 _ Z;by_cases i:y.regs=x.regs
 ·have F:(y.regs==x.regs)=true:=by simpa using i
  have D:=Qf i;clear i;go_wp2_with fail
  refine(C.out B o.out).mono ?_
  rintro H J ⟨⟨q,rfl,u⟩,v⟩;have G:=Qf (o.out.trans (v.mono o.out.size));have E:Hid (ZR (y.takes x)=q):=(QfN (u.trans ⟨fun h=>⟨D.out,h⟩,fun h=>h.2⟩)).symm;clear v C u;go_wp2
  go_ret;exact⟨by rw[E.out];rfl,G.out⟩
 ·have F:(y.regs==x.regs)=false:=by simpa using i
  have E:=Qf (QB (A:=y.takes x) (fun h=>i h.1));clear i C;go_wp2
  go_ret;exact⟨by rw[E.out];rfl,o.out⟩
theorem Qeq {m:List (MFunc n)}{x:MFunc n}{f:FP}{y:MBlock n}{b:BP}(B:FIn w All x f) (G:x.small) (s:BIn w All y b) (o:y.small) :
 Rd prog 180 #[.agg (bkA m p c x f fi y b bi)] w (Iv (y.code' x bi)):=by
 have u:=Qf (Zd w (.cells (bkA m p c x f fi y b bi) 194));have i:=Qf (Blk.new w (bkA m p c x f fi y b bi) 194);have v:Hid (∀ j,Below w.heap.size w j->Calls prog 178 #[.slice b.pP y.params.length b.cP,Iv y.regs] j fun e K=>e=.returned (Iv (listC y.regs y.params))/\Below j.heap.size j K):=fun j H=>QaB (Ya s.params H) o.2.1;have g:Hid (∀ j,Below w.heap.size w j->Calls prog 226 #[.agg #[.slice p m.length c,Iv x.regs,.slice f.pP x.params.length f.cP,.slice f.pR x.results.length f.cR,.slice f.pB x.blocks.length f.cB,Iv (fi:Int),Iv y.regs,.slice b.pP y.params.length b.cP,.slice b.pC y.code.length b.cC,Iv y.fin.op,Iv y.fin.a,Iv y.fin.yes.block,.slice b.e.pYR y.fin.yes.regs.length b.e.cYR,.slice b.e.pYA y.fin.yes.args.length b.e.cYA,Iv y.fin.no.block,.slice b.e.pNR y.fin.no.regs.length b.e.cNR,.slice b.e.pNA y.fin.no.args.length b.e.cNA,.slice b.e.pA y.fin.args.length b.e.cA,Iv (bi:Int)]] j fun e K=>e=.returned (.bool (ZR (y.takes x)))/\Below j.heap.size j K):=fun j H=>QhV (B.below H) G (s.below H) o;have aa:=o.1;have d:Hid (y.code' x bi=if y.regs<x.regs\/16<y.regs then 1 else if listC y.regs y.params≠0 then listC y.regs y.params else if bi=0/\(y.regs≠x.regs\/Qc3 y.params x.params=false) then 9 else if 40<y.code.length then 2 else 0):=rfl;generalize y.code' x bi=V at d |-;generalize listC y.regs y.params=T at d v;clear B G s o;unfold Rd;go_enter func180,ntmps180
 go_upto_region 1 with fail
 generalize w.alloc (.cells #[.slice p m.length c,Iv x.regs,.slice f.pP x.params.length f.cP,.slice f.pR x.results.length f.cR,.slice f.pB x.blocks.length f.cB,Iv (fi:Int),Iv y.regs,.slice b.pP y.params.length b.cP,.slice b.pC y.code.length b.cC,Iv y.fin.op,Iv y.fin.a,Iv y.fin.yes.block,.slice b.e.pYR y.fin.yes.regs.length b.e.cYR,.slice b.e.pYA y.fin.yes.args.length b.e.cYA,Iv y.fin.no.block,.slice b.e.pNR y.fin.no.regs.length b.e.cNR,.slice b.e.pNA y.fin.no.args.length b.e.cNA,.slice b.e.pA y.fin.args.length b.e.cA,Iv (bi:Int)] 194)=U at u i |-;generalize R:w.heap.size=X at i |-;have HX:=Qf R;clear R;have x1:=Qb i.out 1 _ Z;have x6:=Qb i.out 6 _ Z;have W:=Qb i.out 7 _ Z;have t:=Qb i.out 8 _ Z;have F:=Qb i.out 18 _ Z;by_cases A:y.regs<x.regs\/16<y.regs
 ·have E:=Qf (d.out.trans (Xs A));by_cases J:y.regs<x.regs
  ·have Q:decide (y.regs<x.regs)=true:=Xt J;clear J A d v g;go_wp2
   go_ret;exact⟨by rw[E.out];rfl,u.out⟩
  ·have Q:decide (y.regs<x.regs)=false:=Xu J;have d2:decide (y.regs>16)=true:=Xt (by omega);clear J A d v g;go_wp2
   go_ret;exact⟨by rw[E.out];rfl,u.out⟩
 replace d:=Qf (d.out.trans (Xr A));have Q:decide (y.regs<x.regs)=false:=Xu (by omega);have d2:decide (y.regs>16)=false:=Xu (by omega);clear A;go_wp2_with fail
 refine(v.out U u.out).mono ?_
 rintro L P ⟨rfl,N⟩;have k:=Qf (u.out.trans (N.mono u.out.size));replace i:=Qf (i.out.below N);have O:=Qf (Blk.range (c:=(bkA m p c x f fi y b bi).toList) i.out);clear N v x1 x6 W t F;have t:=Qb i.out 8 _ Z;have F:=Qb i.out 18 _ Z;by_cases D:T=0
 rotate_left
 ·have E:=Qf (d.out.trans (Xs D));have d3:(T != 0)=true:=bne_iff_ne.2 D;clear D d g;go_wp2
  go_ret;exact⟨by rw[E.out];rfl,k.out⟩
 replace d:=Qf (d.out.trans (Xr (fun h=>h D)));subst D;by_cases r:bi=0/\¬ y.takes x
 ·have E:=Qf (d.out.trans (Xs ⟨r.1,QkR r.2⟩));have g:=Qf (g.out P k.out);rw[QB r.2] at g
  have z:=r.1;subst z;clear r d;go_wp2_with (refine ZM Z 194 (.tmp 1) Z X 0 Z (bkA m p c x f fi y b 0).toList _ O.out underlying194 Z bkSize ?_)
  refine g.out.mono ?_;rintro L S ⟨rfl,l⟩;have C:=Qf (k.out.trans (l.mono k.out.size));clear l g;go_wp2
  go_ret;exact⟨by rw[E.out];rfl,C.out⟩
 replace d:=Qf (d.out.trans (Xr (fun h=>r ⟨h.1,fun I=>Qi7 I h.2⟩)));by_cases z:bi=0
 ·subst z;have I:y.takes x:=Classical.byContradiction (fun h=>r ⟨Z,h⟩);have g:=Qf (g.out P k.out);rw[QC I] at g
  clear r I;by_cases q:40<y.code.length
  ·have M:decide ((y.code.length:Int)>40)=true:=Xt (by omega);have E:=Qf (d.out.trans (Xs q));clear q d;go_wp2_with (refine ZM Z 194 (.tmp 1) Z X 0 Z (bkA m p c x f fi y b 0).toList _ O.out underlying194 Z bkSize ?_)
   refine g.out.mono ?_;rintro L S ⟨rfl,l⟩;have C:=Qf (k.out.trans (l.mono k.out.size));have t:=Qk t l;clear l g;go_wp2
   go_ret;exact⟨by rw[E.out];rfl,C.out⟩
  ·have M:decide ((y.code.length:Int)>40)=false:=Xu (by omega);have E:=Qf (d.out.trans (Xr q));clear q d;go_wp2_with (refine ZM Z 194 (.tmp 1) Z X 0 Z (bkA m p c x f fi y b 0).toList _ O.out underlying194 Z bkSize ?_)
   refine g.out.mono ?_;rintro L S ⟨rfl,l⟩;have C:=Qf (k.out.trans (l.mono k.out.size));have t:=Qk t l;clear l g;go_wp2
   go_ret;exact⟨by rw[E.out];rfl,C.out⟩
 ·have d5:((bi:Int)==0)=false:=by simpa using z
  clear r z g;by_cases q:40<y.code.length
  ·have M:decide ((y.code.length:Int)>40)=true:=Xt (by omega);have E:=Qf (d.out.trans (Xs q));clear q d;go_wp2
   go_ret;exact⟨by rw[E.out];rfl,k.out⟩
  ·have M:decide ((y.code.length:Int)>40)=false:=Xu (by omega);have E:=Qf (d.out.trans (Xr q));clear q d;go_wp2
   go_ret;exact⟨by rw[E.out];rfl,k.out⟩
theorem FbS.start0 (w:World):FbS w (w.alloc (.cells #[Iv 0,Iv 0] 32)) w.heap.size []:=⟨Zd w _,Ze,Blk.new _ _ _,fun i b a=>by simp at a⟩
theorem Qir {l:List Qs}{Bc:Nat}(G:Nat->Qs->Int × Int) (I:insL.list.In w All l [.slice p l.length c]) (aa:l.length<=100000)
 (A:∀ (i:Nat) x (z:IP) wx,l[i]?=some x->IIn wx All x z->Below w.heap.size w wx->Rd prog 183 #[Iv (i:Int),.agg #[Iv x.op,Iv x.a,Iv x.b,Iv x.c,Iv x.k,Iv x.n,.slice z.pR x.regs.length z.cR,.slice z.pA x.args.length z.cA],Pv Bc 0] wx (QG (G i x))) :
 Rd prog 182 #[.slice p l.length c,.func (.func 183) #[] #[Pv Bc 0]] w (QG (firstF G 0 l)):=by
 have HL:=Qf I;have HC:=Qf A;have S:=Qf (FbS.start0 w);have hE:∀ (args:Array Value) (w:World),(callFunc 183 args).run prog w=.ok (.enter 183 args) w:=fun _ _=>by kernel_rfl
 clear I A;unfold Rd;go_enter func182,ntmps182
 go_upto_region 1 with fail
 generalize w.alloc (.cells #[Iv 0,Iv 0] 32)=w1 at S |-;generalize w.heap.size=R at S |-;go_wp2_with fail
 go_loopw [10] (fun i wr=>∃ q:Nat,q<=l.length/\i=Iv q/\FbS w wr R []/\∀ (j:Nat) x,j<q->l[j]?=some x->(G j x).1=0) (fun i _=>l.length - (intOf i).toNat)
 case atStart=>exact⟨0,Xb _,Yz,S.out,fun j z C=>absurd C (XG _)⟩
 case round =>
  obtain⟨q,hq,rfl,hs,y⟩:=hrel
  have e:=Qf hs;have B:=Qf y;clear hs y S;obtain⟨K,W⟩:∃ K,K=wr:=⟨_,Yz⟩
  subst W;by_cases O:q<l.length
  rotate_left
  ·have H:¬ (q:Int)<l.length:=by omega
   have E:firstF G 0 l=(0,0):=QZ fun j x C=>by rw[XK];exact B.out j x (by have:=(Zi C).1;omega) C
   obtain⟨r0,r1,z0,z1⟩:=e.out.cells
   have D:=Qf (e.out.fin 0 0);go_wp2_with fail
   generalize World.setCell _ _ _=T at D |-;exact Xy (v:=.agg #[Iv 0,Iv 0]) (by simp[results,results182,go_sem,Qb D.out.1 0 _ Yz,Qb D.out.1 1 _ Yz]) Yz ⟨by first | rfl | rw[E],D.out.2⟩
  have H:(q:Int)<l.length:=by omega
  have L:l[q]?=some l[q]:=Zg O;generalize l[q]=x at L;have P:=Qf L;obtain⟨g,o,z,rfl,s,X⟩:=QhT HL.out L
  have HI:=Qf X;have v0:=Qk (show w.cell? ⟨g,o+q*8,none⟩=_ from s 0 _ Yz) e.out.bel;have v1:=Qk (show w.cell? ⟨g,o+q*8+1,none⟩=_ from s 1 _ Yz) e.out.bel;have v2:=Qk (show w.cell? ⟨g,o+q*8+2,none⟩=_ from s 2 _ Yz) e.out.bel;have v3:=Qk (show w.cell? ⟨g,o+q*8+3,none⟩=_ from s 3 _ Yz) e.out.bel;have v4:=Qk (show w.cell? ⟨g,o+q*8+4,none⟩=_ from s 4 _ Yz) e.out.bel;have v5:=Qk (show w.cell? ⟨g,o+q*8+5,none⟩=_ from s 5 _ Yz) e.out.bel;have v6:=Qk (show w.cell? ⟨g,o+q*8+6,none⟩=_ from s 6 _ Yz) e.out.bel;have v7:=Qk (show w.cell? ⟨g,o+q*8+7,none⟩=_ from s 7 _ Yz) e.out.bel;have d:=Qf (e.out.new #[Iv x.op,Iv x.a,Iv x.b,Iv x.c,Iv x.k,Iv x.n,.slice z.pR x.regs.length z.cR,.slice z.pA x.args.length z.cA] 78);clear L s X;go_upto_region 4 with fail
  generalize K.alloc (.cells #[Iv x.op,Iv x.a,Iv x.b,Iv x.c,Iv x.k,Iv x.n,.slice z.pR x.regs.length z.cR,.slice z.pA x.args.length z.cA] 78)=w3 at d |-;generalize K.heap.size=Z at d |-;clear e v0 v1 v2 v3 v4 v5 v6 v7;have t0:=Qb (d.out.box 0 _ Yz) 0 _ Yz;have t1:=Qb (d.out.box 0 _ Yz) 1 _ Yz;have t2:=Qb (d.out.box 0 _ Yz) 2 _ Yz;have t3:=Qb (d.out.box 0 _ Yz) 3 _ Yz;have t4:=Qb (d.out.box 0 _ Yz) 4 _ Yz;have t5:=Qb (d.out.box 0 _ Yz) 5 _ Yz;have t6:=Qb (d.out.box 0 _ Yz) 6 _ Yz;have t7:=Qb (d.out.box 0 _ Yz) 7 _ Yz;have U:=Qf (HC.out q x z w3 P.out (HI.out.below d.out.bel) d.out.bel);unfold Rd at U;obtain⟨m,F,V⟩:∃ m F,G q x=(m,F):=⟨_,_,Yz⟩
  rw[V] at U
  have M:=Qf V;clear V;go_wp2_with fail
  refine U.out.mono ?_;rintro _ w8 ⟨rfl,b8⟩;have t:=Qf ((d.out.below b8).new #[Iv m,Iv F] 32);clear b8 d;simp only[QG]
  go_upto_region 5 with fail
  generalize w8.alloc (.cells #[Iv m,Iv F] 32)=w9 at t |-;generalize w8.heap.size=F8 at t |-;have f0:=Qb (t.out.box 0 _ Yz) 0 _ Yz;have f1:=Qb (t.out.box 0 _ Yz) 1 _ Yz;have N:Hid (FbS w w9 R []):=⟨t.out.bel,t.out.ge,t.out.r,fun i b hb=>by simp at hb⟩;clear t;by_cases h:m=0
  ·subst h;go_wp2
   go_roundw
   case rel =>
    refine⟨q+1,by omega,by go_num,N.out,fun j u C J=>?_⟩
    by_cases Q:j<q
    ·exact B.out j u Q J
    ·have:j=q:=by omega
     subst this;rw[P.out] at J
     cases J
     rw[M.out]
   case measure=>simp[intOf];omega
  ·have d9:(m != 0)=true:=by simpa using h
   have E:firstF G 0 l=(m,F):=by
    have hF:=Qar (f:=G) (j:=0) P.out (fun j u C J=>by rw[XK];exact B.out j u C J) (by rw[XK,M.out];exact h);rw[XK,M.out] at hF
    exact hF
   clear h;obtain⟨r0,r1,z0,z1⟩:=N.out.cells
   have D:=Qf (N.out.fin m F);go_wp2_with fail
   generalize World.setCell _ _ _=T at D |-;exact Xy (v:=.agg #[Iv m,Iv F]) (by simp[results,results182,go_sem,Qb D.out.1 0 _ Yz,Qb D.out.1 1 _ Yz]) Yz ⟨by first | rfl | rw[E],D.out.2⟩
theorem QfZ {l:List (MBlock n)}{Bc:Nat}(G:Nat->(MBlock n)->Int × Int) (L:(Zn n).list.In w All l [.slice p l.length c]) (ac:l.length<=100000)
 (B:∀ (i:Nat) x (z:BP) wx,l[i]?=some x->BIn wx All x z->Below w.heap.size w wx->Rd prog 120 #[Iv (i:Int),.agg #[Iv x.regs,.slice z.pP x.params.length z.cP,.slice z.pC x.code.length z.cC,Iv x.fin.op,Iv x.fin.a,Iv x.fin.yes.block,.slice z.e.pYR x.fin.yes.regs.length z.e.cYR,.slice z.e.pYA x.fin.yes.args.length z.e.cYA,Iv x.fin.no.block,.slice z.e.pNR x.fin.no.regs.length z.e.cNR,.slice z.e.pNA x.fin.no.args.length z.e.cNA,.slice z.e.pA x.fin.args.length z.e.cA],Pv Bc 0] wx (QG (G i x))) :
 Rd prog 119 #[.slice p l.length c,.func (.func 120) #[] #[Pv Bc 0]] w (QG (firstF G 0 l)):=by
 have HL:=Qf L;have HC:=Qf B;have S:=Qf (FbS.start0 w);have hE:∀ (args:Array Value) (w:World),(callFunc 120 args).run prog w=.ok (.enter 120 args) w:=fun _ _=>by kernel_rfl
 clear L B;unfold Rd;go_enter func119,ntmps119
 go_upto_region 1 with fail
 generalize w.alloc (.cells #[Iv 0,Iv 0] 32)=w1 at S |-;generalize w.heap.size=R at S |-;go_wp2_with fail
 go_loopw [10] (fun i wr=>∃ q:Nat,q<=l.length/\i=Iv q/\FbS w wr R []/\∀ (j:Nat) x,j<q->l[j]?=some x->(G j x).1=0) (fun i _=>l.length - (intOf i).toNat)
 case atStart=>exact⟨0,Xb _,Yz,S.out,fun j z m=>absurd m (XG _)⟩
 case round =>
  obtain⟨q,hq,rfl,hs,y⟩:=hrel
  have M:=Qf hs;have C:=Qf y;clear hs y S;obtain⟨A,ab⟩:∃ A,A=wr:=⟨_,Yz⟩
  subst ab;by_cases V:q<l.length
  rotate_left
  ·have J:¬ (q:Int)<l.length:=by omega
   have E:firstF G 0 l=(0,0):=QZ fun j x m=>by rw[XK];exact C.out j x (by have:=(Zi m).1;omega) m
   obtain⟨r0,r1,z0,z1⟩:=M.out.cells
   have D:=Qf (M.out.fin 0 0);go_wp2_with fail
   generalize World.setCell _ _ _=aa at D |-;exact Xy (v:=.agg #[Iv 0,Iv 0]) (by simp[results,results119,go_sem,Qb D.out.1 0 _ Yz,Qb D.out.1 1 _ Yz]) Yz ⟨by first | rfl | rw[E],D.out.2⟩
  have J:(q:Int)<l.length:=by omega
  have Q:l[q]?=some l[q]:=Zg V;generalize l[q]=x at Q;have W:=Qf Q;obtain⟨g,o,z,rfl,E3,I3⟩:=Qei HL.out Q
  have HI:=Qf I3;generalize s:([Iv x.regs,.slice z.pP x.params.length z.cP,.slice z.pC x.code.length z.cC,Iv x.fin.op,Iv x.fin.a,Iv x.fin.yes.block,.slice z.e.pYR x.fin.yes.regs.length z.e.cYR,.slice z.e.pYA x.fin.yes.args.length z.e.cYA,Iv x.fin.no.block,.slice z.e.pNR x.fin.no.regs.length z.e.cNR,.slice z.e.pNA x.fin.no.args.length z.e.cNA,.slice z.e.pA x.fin.args.length z.e.cA]:List Value)=d at E3;have hl:d.length=12:=by rw[<-s];rfl
  have H:=Qf (Qm5.of A hl);have TO:Hid (d.toArray.all (·.oneCell')=true):=by show _=_;rw[<-s];exact all_oneCell_toArray (Xe.1 Yz)
  have RG:Hid (A.rangeAt g (o+q*12) d):=fun j v m=>Qk (E3 j v m) M.out.bel;clear Q E3 I3 hl;go_upto_region 4 with (first | (refine wpList_load_mid Yz 86 (.tmp 13) Yz g (o+q*12) Yz d _ RG.out underlying86 Yz H.out.size ?_) | (refine wpList_store_mid Yz 86 (.tmp 6) (.tmp 14) Yz A.heap.size 0 d.toArray Yz Yz H.out.there H.out.size2 TO.out ?_))
  have F:=Qf ((M.out.below H.out.bel).add H.out.blk);have TS:=Qf H.out.size;clear M RG TO H;generalize (A.alloc (.cells #[Iv 0,Nv,Nv,Iv 0,Iv 0,Iv 0,Nv,Nv,Iv 0,Nv,Nv,Nv] 86)).setCells A.heap.size 0 d=K at F |-;generalize A.heap.size=Z at F |-;have RZ:Hid (K.rangeAt Z 0 d):=Blk.range (F.out.box 0 _ Yz);have CC:=Qf (HC.out q x z K W.out (HI.out.below F.out.bel) F.out.bel);unfold Rd at CC;have O:Hid (([Iv x.regs,.slice z.pP x.params.length z.cP,.slice z.pC x.code.length z.cC,Iv x.fin.op,Iv x.fin.a,Iv x.fin.yes.block,.slice z.e.pYR x.fin.yes.regs.length z.e.cYR,.slice z.e.pYA x.fin.yes.args.length z.e.cYA,Iv x.fin.no.block,.slice z.e.pNR x.fin.no.regs.length z.e.cNR,.slice z.e.pNA x.fin.no.args.length z.e.cNA,.slice z.e.pA x.fin.args.length z.e.cA]:List Value)=d):=s;have P:Hid (Calls prog 120 #[Iv (q:Int),.agg d.toArray,Pv Bc 0] K fun e w'=>e=.returned (QG (G q x))/\Below K.heap.size K w'):=by rw[<-O.out];exact CC.out
  clear CC O s;obtain⟨k,I,hg⟩:∃ k I,G q x=(k,I):=⟨_,_,Yz⟩
  rw[hg] at P
  have T:=Qf hg;clear hg;go_wp2_with (refine wpList_load_mid Yz 86 (.tmp 6) Yz Z 0 Yz d _ RZ.out underlying86 Yz TS.out ?_)
  refine P.out.mono ?_;rintro _ w8 ⟨rfl,b8⟩;have t:=Qf ((F.out.below b8).new #[Iv k,Iv I] 32);clear b8 F;simp only[QG]
  go_upto_region 5 with fail
  generalize w8.alloc (.cells #[Iv k,Iv I] 32)=w9 at t |-;generalize w8.heap.size=F8 at t |-;have f0:=Qb (t.out.box 0 _ Yz) 0 _ Yz;have f1:=Qb (t.out.box 0 _ Yz) 1 _ Yz;have U:Hid (FbS w w9 R []):=⟨t.out.bel,t.out.ge,t.out.r,fun i b hb=>by simp at hb⟩;clear t;by_cases h:k=0
  ·subst h;go_wp2
   go_roundw
   case rel =>
    refine⟨q+1,by omega,by go_num,U.out,fun j u m N=>?_⟩
    by_cases X:j<q
    ·exact C.out j u X N
    ·have:j=q:=by omega
     subst this;rw[W.out] at N
     cases N
     rw[T.out]
   case measure=>simp[intOf];omega
  ·have d9:(k != 0)=true:=by simpa using h
   have E:firstF G 0 l=(k,I):=by
    have hF:=Qar (f:=G) (j:=0) W.out (fun j u m N=>by rw[XK];exact C.out j u m N) (by rw[XK,T.out];exact h);rw[XK,T.out] at hF
    exact hF
   clear h;obtain⟨r0,r1,z0,z1⟩:=U.out.cells
   have D:=Qf (U.out.fin k I);go_wp2_with fail
   generalize World.setCell _ _ _=aa at D |-;exact Xy (v:=.agg #[Iv k,Iv I]) (by simp[results,results119,go_sem,Qb D.out.1 0 _ Yz,Qb D.out.1 1 _ Yz]) Yz ⟨by first | rfl | rw[E],D.out.2⟩
theorem QgO {l:List (MFunc n)}{Bc:Nat}(G:Nat->(MFunc n)->Int × Int) (C:(QaN n).In w All l [.slice p l.length c]) (aa:l.length<=100000)
 (s:∀ (i:Nat) x (z:FP) wx,l[i]?=some x->FIn wx All x z->Below w.heap.size w wx->Rd prog 74 #[Iv (i:Int),.agg #[Iv x.regs,.slice z.pP x.params.length z.cP,.slice z.pR x.results.length z.cR,.slice z.pB x.blocks.length z.cB],Pv Bc 0] wx (QG (G i x))) :
 Rd prog 73 #[.slice p l.length c,.func (.func 74) #[] #[Pv Bc 0]] w (QG (firstF G 0 l)):=by
 have HL:=Qf C;have HC:=Qf s;have S:=Qf (FbS.start0 w);have hE:∀ (args:Array Value) (w:World),(callFunc 74 args).run prog w=.ok (.enter 74 args) w:=fun _ _=>by kernel_rfl
 clear C s;unfold Rd;go_enter func73,ntmps73
 go_upto_region 1 with fail
 generalize w.alloc (.cells #[Iv 0,Iv 0] 32)=w1 at S |-;generalize w.heap.size=R at S |-;go_wp2_with fail
 go_loopw [10] (fun i wr=>∃ q:Nat,q<=l.length/\i=Iv q/\FbS w wr R []/\∀ (j:Nat) x,j<q->l[j]?=some x->(G j x).1=0) (fun i _=>l.length - (intOf i).toNat)
 case atStart=>exact⟨0,Xb _,Yz,S.out,fun j z y=>absurd y (XG _)⟩
 case round =>
  obtain⟨q,hq,rfl,hs,k⟩:=hrel
  have m:=Qf hs;have t:=Qf k;clear hs k S;obtain⟨I,U⟩:∃ I,I=wr:=⟨_,Yz⟩
  subst U;by_cases M:q<l.length
  rotate_left
  ·have B:¬ (q:Int)<l.length:=by omega
   have E:firstF G 0 l=(0,0):=QZ fun j x y=>by rw[XK];exact t.out j x (by have:=(Zi y).1;omega) y
   obtain⟨r0,r1,z0,z1⟩:=m.out.cells
   have D:=Qf (m.out.fin 0 0);go_wp2_with fail
   generalize World.setCell _ _ _=P at D |-;exact Xy (v:=.agg #[Iv 0,Iv 0]) (by simp[results,results73,go_sem,Qb D.out.1 0 _ Yz,Qb D.out.1 1 _ Yz]) Yz ⟨by first | rfl | rw[E],D.out.2⟩
  have B:(q:Int)<l.length:=by omega
  have J:l[q]?=some l[q]:=Zg M;generalize l[q]=x at J;have N:=Qf J;obtain⟨g,o,z,rfl,H,V⟩:=QfC HL.out J
  have HI:=Qf V;have v0:=Qk (show w.cell? ⟨g,o+q*4,none⟩=_ from H 0 _ Yz) m.out.bel;have v1:=Qk (show w.cell? ⟨g,o+q*4+1,none⟩=_ from H 1 _ Yz) m.out.bel;have v2:=Qk (show w.cell? ⟨g,o+q*4+2,none⟩=_ from H 2 _ Yz) m.out.bel;have v3:=Qk (show w.cell? ⟨g,o+q*4+3,none⟩=_ from H 3 _ Yz) m.out.bel;have a:=Qf (m.out.new #[Iv x.regs,.slice z.pP x.params.length z.cP,.slice z.pR x.results.length z.cR,.slice z.pB x.blocks.length z.cB] 89);clear J H V;go_upto_region 4 with fail
  generalize I.alloc (.cells #[Iv x.regs,.slice z.pP x.params.length z.cP,.slice z.pR x.results.length z.cR,.slice z.pB x.blocks.length z.cB] 89)=w3 at a |-;generalize I.heap.size=Z at a |-;clear m v0 v1 v2 v3;have t0:=Qb (a.out.box 0 _ Yz) 0 _ Yz;have t1:=Qb (a.out.box 0 _ Yz) 1 _ Yz;have t2:=Qb (a.out.box 0 _ Yz) 2 _ Yz;have t3:=Qb (a.out.box 0 _ Yz) 3 _ Yz;have Q:=Qf (HC.out q x z w3 N.out (HI.out.below a.out.bel) a.out.bel);unfold Rd at Q;obtain⟨e,A,T⟩:∃ e A,G q x=(e,A):=⟨_,_,Yz⟩
  rw[T] at Q
  have K:=Qf T;clear T;go_wp2_with fail
  refine Q.out.mono ?_;rintro _ w8 ⟨rfl,X⟩;have h:=Qf ((a.out.below X).new #[Iv e,Iv A] 32);clear X a;simp only[QG]
  go_upto_region 5 with fail
  generalize w8.alloc (.cells #[Iv e,Iv A] 32)=w9 at h |-;generalize w8.heap.size=F8 at h |-;have f0:=Qb (h.out.box 0 _ Yz) 0 _ Yz;have f1:=Qb (h.out.box 0 _ Yz) 1 _ Yz;have L:Hid (FbS w w9 R []):=⟨h.out.bel,h.out.ge,h.out.r,fun i b hb=>by simp at hb⟩;clear h;by_cases d:e=0
  ·subst d;go_wp2
   go_roundw
   case rel =>
    refine⟨q+1,by omega,by go_num,L.out,fun j u y F=>?_⟩
    by_cases O:j<q
    ·exact t.out j u O F
    ·have:j=q:=by omega
     subst this;rw[N.out] at F
     cases F
     rw[K.out]
   case measure=>simp[intOf];omega
  ·have d9:(e != 0)=true:=by simpa using d
   have E:firstF G 0 l=(e,A):=by
    have W:=Qar (f:=G) (j:=0) N.out (fun j u y F=>by rw[XK];exact t.out j u y F) (by rw[XK,K.out];exact d);rw[XK,K.out] at W
    exact W
   clear d;obtain⟨r0,r1,z0,z1⟩:=L.out.cells
   have D:=Qf (L.out.fin e A);go_wp2_with fail
   generalize World.setCell _ _ _=P at D |-;exact Xy (v:=.agg #[Iv e,Iv A]) (by simp[results,results73,go_sem,Qb D.out.1 0 _ Yz,Qb D.out.1 1 _ Yz]) Yz ⟨by first | rfl | rw[E],D.out.2⟩
abbrev iA (z:Qs) (zi:IP):Array Value:=#[Iv z.op,Iv z.a,Iv z.b,Iv z.c,Iv z.k,Iv z.n,.slice zi.pR z.regs.length zi.cR,.slice zi.pA z.args.length zi.cA]
abbrev fA {n:Nat}(x:MFunc n) (fp:FP):Array Value:=#[Iv x.regs,.slice fp.pP x.params.length fp.cP,.slice fp.pR x.results.length fp.cR,.slice fp.pB x.blocks.length fp.cB]
abbrev eA {n:Nat}(y:MBlock n) (bp:BP):Array Value:=#[Iv y.fin.op,Iv y.fin.a,Iv y.fin.yes.block,.slice bp.e.pYR y.fin.yes.regs.length bp.e.cYR,.slice bp.e.pYA y.fin.yes.args.length bp.e.cYA,Iv y.fin.no.block,.slice bp.e.pNR y.fin.no.regs.length bp.e.cNR,.slice bp.e.pNA y.fin.no.args.length bp.e.cNA,.slice bp.e.pA y.fin.args.length bp.e.cA]
abbrev bA {n:Nat}(y:MBlock n) (bp:BP):Array Value:=#[Iv y.regs,.slice bp.pP y.params.length bp.cP,.slice bp.pC y.code.length bp.cC,Iv y.fin.op,Iv y.fin.a,Iv y.fin.yes.block,.slice bp.e.pYR y.fin.yes.regs.length bp.e.cYR,.slice bp.e.pYA y.fin.yes.args.length bp.e.cYA,Iv y.fin.no.block,.slice bp.e.pNR y.fin.no.regs.length bp.e.cNR,.slice bp.e.pNA y.fin.no.args.length bp.e.cNA,.slice bp.e.pA y.fin.args.length bp.e.cA]
abbrev lA {n:Nat}(m:List (MFunc n)) (p:Option Addr) (c:Nat) (x:MFunc n) (fp:FP) (fi:Nat):Array Value:=#[.slice p m.length c,Iv x.regs,.slice fp.pP x.params.length fp.cP,.slice fp.pR x.results.length fp.cR,.slice fp.pB x.blocks.length fp.cB,Iv (fi:Int)]
theorem bkSizeE:(prog.info? 84).map (·.size)=some 9:=by kernel_rfl
def QnX (w6:World) (Bc X q N c fi bi:Nat) (p:Option Addr) (z:Qs) (zi:IP) (vf vp v0 v1:Int) (t:Tmp) (v:Value) (w:World):Prop :=
 v=(([(2,Pv Bc 0),(4,Pv X 0),(0,Iv (q:Int)),(6,Pv Bc 0),(7,Pv Bc 0),(8,.agg #[.slice p N c]),(9,.agg (iA z zi)),(10,Iv vf),(11,Pv Bc 0),(12,Pv Bc 5),(13,Iv (fi:Int)),(14,Pv Bc 18),(15,Iv (bi:Int)),(16,Iv (q:Int)),(17,Iv vp),(18,.agg #[Iv v0,Iv v1])]:List (Tmp × Value)).lookup t).getD undef
theorem kd1 {Bc:Nat}{z:Qs}{l:IP}{u y r x:Int}(C:w6.cell? ⟨Bc,0,none⟩=some (.slice p N c)) (J:w6.cell? ⟨Bc,5,none⟩=some (Iv (fi:Int))) (o:w6.cell? ⟨Bc,18,none⟩=some (Iv (bi:Int))) (d:Hid (Blk w6 X (iA z l) 78)) (H:Hid (∀ w,Below w6.heap.size w6 w->Calls prog 184 #[.agg #[.slice p N c],.agg (iA z l)] w fun e w'=>e=.returned (Iv u)/\Below w.heap.size w w')) (O:Hid (∀ w,Below w6.heap.size w6 w->Calls prog 130 #[Iv (fi:Int),Iv (bi:Int),Iv (q:Int)] w fun e w'=>e=.returned (Iv y)/\Below w.heap.size w w')) (I:Hid (∀ w,Below w6.heap.size w6 w->Calls prog 117 #[Iv u,Iv y] w fun e w'=>e=.returned (.agg #[Iv r,Iv x])/\Below w.heap.size w w')){Q:Exit->Act->World->Prop}
 (a:Act) (m:Nat) (D:a.tmps.size=m) (s:19<=m) (M:a.tmps.getD 2 undef=Pv Bc 0) (E:a.tmps.getD 4 undef=Pv X 0) (L:a.tmps.getD 0 undef=Iv (q:Int))
 (hend:∀ ops vs w',vs 18=.agg #[Iv r,Iv x]->Below w6.heap.size w6 w'->wpList prog ops Q (Qan 13 ((Tryz.f183.body.bind (Qi 1)).getD .skip)) (QM a vs [6,7,8,9,10,11,12,13,14,15,16,17,18]) w') :
 Code.wp prog ((Tryz.f183.body.bind (Qi 1)).getD .skip) Q a w6:=by
 conv=>arg 2;whnf
 refine Qg 13 (QnX w6 Bc X q N c fi bi p z l u y r x) (fun w=>Below w6.heap.size w6 w) (fun w w'=>Below w.heap.size w w') (outs:=[2,4,0]) (gs:=[]) (bs:=[true,true,true,true,true,true,true,true,true,true,true,true,true]) (by kernel_rfl) (n:=19) D s (by kernel_rfl) (by kernel_rfl) ?hR ?hG (QI Zr 1) ⟨M,E,L,Y⟩ ?hA ?hend
 case hR=>exact fun t v w w' _ h=>h
 case hG=>exact Y
 case hend=>exact fun ops vs w' b i=>hend ops vs w' (i 18 (by kernel_rfl)) b
 case hA =>
  repeat
   refine⟨fun a w b i K k=>?_,?_⟩
   focus first
    | obtain⟨g,-⟩:=i
      conv at g=>whnf;rhs;whnf
      have T:=Qk C b;have c1:=Qk (Qb d.out 0 _ Z) b;have P:=Qk (Qb d.out 1 _ Z) b;have W:=Qk (Qb d.out 2 _ Z) b;have S:=Qk (Qb d.out 3 _ Z) b;have c5:=Qk (Qb d.out 4 _ Z) b;have R:=Qk (Qb d.out 5 _ Z) b;have U:=Qk (Qb d.out 6 _ Z) b;have V:=Qk (Qb d.out 7 _ Z) b;have c9:=Qk J b;have G:=Qk o b;go_simp;exact k _ _ Zr b Z
    | obtain⟨g,j,-⟩:=i
      conv at g=>whnf;rhs;whnf
      conv at j=>whnf;rhs;whnf
      go_simp;refine Xm (H.out w b) ?_;rintro A B ⟨rfl,f⟩;go_simp;exact k _ _ f (b.trans (f.mono b.size)) Z
    | obtain⟨g,j,-⟩:=i
      conv at g=>whnf;rhs;whnf
      conv at j=>whnf;rhs;whnf
      go_simp;refine Xm (I.out w b) ?_;rintro A B ⟨rfl,f⟩;go_simp;exact k _ _ f (b.trans (f.mono b.size)) Z
    | obtain⟨g,j,F,-⟩:=i
      conv at g=>whnf;rhs;whnf
      conv at j=>whnf;rhs;whnf
      conv at F=>whnf;rhs;whnf
      go_simp;refine Xm (O.out w b) ?_;rintro A B ⟨rfl,f⟩;go_simp;exact k _ _ f (b.trans (f.mono b.size)) Z
  trivial
def QnS {n:Nat}(w6:World) (X fi bi:Nat) (x:MFunc n) (fp:FP) (y:MBlock n) (bp:BP) (vf vp v0 v1:Int) (t:Tmp) (v:Value) (w:World):Prop :=
 v=(([(1,Pv X 0),(26,Pv X 0),(27,Pv X 1),(28,.agg (fA x fp)),(29,Pv X 6),(30,Pv X 9),(31,.agg (eA y bp)),(32,Iv vf),(33,Pv X 0),(34,Pv X 5),(35,Iv (fi:Int)),(36,Pv X 18),(37,Iv (bi:Int)),(38,Iv vp),(39,.agg #[Iv v0,Iv v1])]:List (Tmp × Value)).lookup t).getD undef
theorem kd7 {m:List (MFunc n)}{x:MFunc n}{z:FP}{y:MBlock n}{l:BP}{u B r A:Int}(i:Hid (Blk w6 X (bkA m p c x z fi y l bi) 194)) (q:Hid (w6.rangeAt X 9 (eA y l).toList)) (H:Hid (∀ w,Below w6.heap.size w6 w->Calls prog 185 #[.agg (fA x z),.agg (eA y l)] w fun e w'=>e=.returned (Iv u)/\Below w.heap.size w w')) (J:Hid (∀ w,Below w6.heap.size w6 w->Calls prog 131 #[Iv (fi:Int),Iv (bi:Int)] w fun e w'=>e=.returned (Iv B)/\Below w.heap.size w w')) (I:Hid (∀ w,Below w6.heap.size w6 w->Calls prog 117 #[Iv u,Iv B] w fun e w'=>e=.returned (.agg #[Iv r,Iv A])/\Below w.heap.size w w')){Q:Exit->Act->World->Prop}
 (a:Act) (m:Nat) (E:a.tmps.size=m) (s:40<=m) (G:a.tmps.getD 1 undef=Pv X 0)
 (hend:∀ ops vs w',vs 39=.agg #[Iv r,Iv A]->Below w6.heap.size w6 w'->wpList prog ops Q (Qan 14 ((Tryz.f121.body.bind (Qi 7)).getD .skip)) (QM a vs [26,27,28,29,30,31,32,33,34,35,36,37,38,39]) w') :
 Code.wp prog ((Tryz.f121.body.bind (Qi 7)).getD .skip) Q a w6:=by
 conv=>arg 2;whnf
 refine Qg 14 (QnS w6 X fi bi x z y l u B r A) (fun w=>Below w6.heap.size w6 w) (fun w w'=>Below w.heap.size w w') (outs:=[1]) (gs:=[]) (bs:=[true,true,true,true,true,true,true,true,true,true,true,true,true,true]) (by kernel_rfl) (n:=40) E s (by kernel_rfl) (by kernel_rfl) ?hR ?hG (QI Zr 1) ⟨G,Y⟩ ?hA ?hend
 case hR=>exact fun t v w w' _ h=>h
 case hG=>exact Y
 case hend=>exact fun ops vs w' b g=>hend ops vs w' (g 39 (by kernel_rfl)) b
 case hA =>
  repeat
   refine⟨fun a w b g K o=>?_,?_⟩
   focus first
    | obtain⟨d,-⟩:=g
      conv at d=>whnf;rhs;whnf
      have N:=Qk (Qb i.out 1 _ Z) b;have P:=Qk (Qb i.out 2 _ Z) b;have L:=Qk (Qb i.out 3 _ Z) b;have O:=Qk (Qb i.out 4 _ Z) b;have M:=Qk (Qb i.out 5 _ Z) b;have R:=Qk (Qb i.out 18 _ Z) b;go_simp;exact o _ _ Zr b Z
    | obtain⟨d,-⟩:=g
      conv at d=>whnf;rhs;whnf
      exact wp_load_mid 84 (.tmp 30) Z X 9 d (eA y l).toList _ (fun j v F=>Qk (q.out j v F) b) underlying84 Z bkSizeE (o _ _ Zr b Z)
    | obtain⟨d,k,-⟩:=g
      conv at d=>whnf;rhs;whnf
      conv at k=>whnf;rhs;whnf
      go_simp;refine Xm (H.out w b) ?_;rintro C D ⟨rfl,f⟩;go_simp;exact o _ _ f (b.trans (f.mono b.size)) Z
    | obtain⟨d,k,-⟩:=g
      conv at d=>whnf;rhs;whnf
      conv at k=>whnf;rhs;whnf
      go_simp;refine Xm (J.out w b) ?_;rintro C D ⟨rfl,f⟩;go_simp;exact o _ _ f (b.trans (f.mono b.size)) Z
    | obtain⟨d,k,-⟩:=g
      conv at d=>whnf;rhs;whnf
      conv at k=>whnf;rhs;whnf
      go_simp;refine Xm (I.out w b) ?_;rintro C D ⟨rfl,f⟩;go_simp;exact o _ _ f (b.trans (f.mono b.size)) Z
  trivial
theorem Qjn {m:List (MFunc n)}{x:MFunc n}{F:FP}{y:MBlock n}{D:BP}{Bc:Nat}{z:Qs}{j:IP}(E:q<1000000) (O:m.length<=100000) (l:fi<1000000) (o:bi<1000000) (d:Blk w Bc (bkA m p c x F fi y D bi) 194) :
 Rd prog 183 #[Iv (q:Int),.agg (iA z j),Pv Bc 0] w (QG (atF (z.form m.length) (10000*(fi:Int)+100*(bi:Int)+(q:Int)))):=by
 have f:=((Bxs.start w).new (iA z j) 78).new #[Iv 0,Iv 0] 32;rw[World.size_alloc] at f
 have f:=Qf f;have C:=Qf d;have I:Hid (∀ b:World,Calls prog 184 #[.agg #[.slice p m.length c],.agg (iA z j)] b fun e h=>e=.returned (Iv (z.form m.length))/\Below b.heap.size b h):=fun b=>Qgz m.length z j p c b (by omega);have H:Hid (∀ b:World,Calls prog 130 #[Iv (fi:Int),Iv (bi:Int),Iv (q:Int)] b fun e h=>e=.returned (Iv (10000*(fi:Int)+100*(bi:Int)+(q:Int)))/\Below b.heap.size b h):=fun b=>QdQ ⟨l,o,E⟩;have u:Hid (∀ b:World,Calls prog 117 #[Iv (z.form m.length),Iv (10000*(fi:Int)+100*(bi:Int)+(q:Int))] b fun e h=>e=.returned (.agg #[Iv (atF (z.form m.length) (10000*(fi:Int)+100*(bi:Int)+(q:Int))).1,Iv (atF (z.form m.length) (10000*(fi:Int)+100*(bi:Int)+(q:Int))).2])/\Below b.heap.size b h):=fun b=>Qbv;generalize G:atF (z.form m.length) (10000*(fi:Int)+100*(bi:Int)+(q:Int))=v at u |-;clear d G;unfold Rd;go_enter func183,ntmps183
 go_upto_region 1 with fail
 generalize (w.alloc (.cells (iA z j) 78)).alloc (.cells #[Iv 0,Iv 0] 32)=J at f |-;generalize w.heap.size+1=R at f |-;generalize w.heap.size=X at f |-;have g:=Qf (C.out.below f.out.bel);refine kd1 (Qb g.out 0 _ Z) (Qb g.out 5 _ Z) (Qb g.out 18 _ Z) (f.out.at (a:=[_])) (fun b _=>I.out b) (fun b _=>H.out b) (fun b _=>u.out b) _ _ Z (Xg (by kernel_rfl)) Z Z Z ?_;rintro s A B i t;have k:=Qf (f.out.below t);clear t f g;show wpList _ s _ [_] (QM _ A [6,7,8,9,10,11,12,13,14,15,16,17,18]) B;simp only[QM,Act.put,List.setIfInBounds_toArray,List.set_cons_zero,List.set_cons_succ,i]
 have L:=k.out.cell (a:=[]) 0 _ Z;have M:=k.out.cell (a:=[]) 1 _ Z;have N:=k.out.free (a:=[]) 0;have K:=k.out.free (a:=[]) 1;have r:=Qf ((k.out.set (a:=[]) 0 (Iv (v.1))).set (a:=[]) 1 (Iv (v.2)));go_wp2
 exact Xy (v:=QG v) (by simp[results,results183,go_sem,r.out.cell (a:=[]) 0 _ Z,r.out.cell (a:=[]) 1 _ Z]) Z ⟨Z,r.out.bel⟩
theorem QcX {m:List (MFunc n)}{x:MFunc n}{B:FP}{y:MBlock n}{o:BP}(H:FIn w All x B) (C:x.small) (I:BIn w All y o) (k:y.small) (hm:m.length<=100000) (t:fi<1000000) (u:bi<1000000) :
 Rd prog 121 #[.agg (bkA m p c x B fi y o bi)] w (QG (MBlock.fault m.length fi x bi y)):=by
 have r:=((Bxs.start w).new (bkA m p c x B fi y o bi) 194).new #[Iv 0,Iv 0] 32;rw[World.size_alloc] at r
 have r:=Qf r;have HB:=Qf (Xh hm (Xh t u));have G:=Qf (Xh H (Xh C (Xh I k)));have g:=Qf (MBlock.fault_eq m.length fi x bi y);have W:=Qez (f:=fun i z=>(Qs.form m.length z,(10000*(fi:Int)+100*(bi:Int)+(i:Int)))) (l:=y.code) (j:=0);dsimp only at W
 have CC:Hid (∀ b,Below w.heap.size w b->Calls prog 180 #[.agg (bkA m p c x B fi y o bi)] b fun e s=>e=.returned (Iv (y.code' x bi))/\Below b.heap.size b s):=fun b bx=>Qeq (H.below bx) C (I.below bx) k;have CF:Hid (∀ (Q U:Int) (b:World),Calls prog 117 #[Iv Q,Iv U] b fun e s=>e=.returned (.agg #[Iv (atF Q U).1,Iv (atF Q U).2])/\Below b.heap.size b s):=fun Q U b=>Qbv;have CB:Hid (∀ b:World,Calls prog 181 #[Iv (fi:Int),Iv (bi:Int)] b fun e s=>e=.returned (Iv (10000*(fi:Int)+100*(bi:Int)+90))/\Below b.heap.size b s):=fun b=>QeL ⟨t,u⟩;have CA:Hid (∀ b:World,Calls prog 131 #[Iv (fi:Int),Iv (bi:Int)] b fun e s=>e=.returned (Iv (10000*(fi:Int)+100*(bi:Int)+91))/\Below b.heap.size b s):=fun b=>QdR ⟨t,u⟩;have CE:Hid (∀ b:World,Calls prog 185 #[.agg (fA x B),.agg (eA y o)] b fun e s=>e=.returned (Iv (y.fin.form x.blocks.length))/\Below b.heap.size b s):=fun b=>Qgx (by obtain⟨a1,a2⟩:=k.2.2.1.1;obtain⟨a3,a4⟩:=k.2.2.1.2.1;exact⟨by omega,by omega,by omega,by omega⟩) (by have:=C.1;omega);rw[<-W] at g
 have g:=Qf g.out;generalize MBlock.fault m.length fi x bi y=V at g |-;generalize y.code' x bi=v at g CC;clear H C I k hm t u W;unfold Rd;go_enter func121,ntmps121
 go_upto_region 1 with fail
 generalize (w.alloc (.cells (bkA m p c x B fi y o bi) 194)).alloc (.cells #[Iv 0,Iv 0] 32)=w1 at r |-;generalize w.heap.size+1=R at r |-;generalize w.heap.size=X at r |-;have RG:=Qf (Blk.range (c:=(bkA m p c x B fi y o bi).toList) (r.out.at (a:=[_])));go_wp2_with (refine ZM Z 194 (.tmp 1) Z X 0 Z (bkA m p c x B fi y o bi).toList _ RG.out underlying194 Z bkSize ?_)
 refine(CC.out w1 r.out.bel).mono ?_
 rintro e' N ⟨rfl,b2⟩;have A:=Qf (r.out.below b2);clear b2 RG r CC;have x5:N.cell? ⟨X,5,none⟩=some (Iv (fi:Int)):=A.out.cell (a:=[_]) 5 _ Z;have x8:N.cell? ⟨X,8,none⟩=some (.slice o.pC y.code.length o.cC):=A.out.cell (a:=[_]) 8 _ Z;have P:N.cell? ⟨X,18,none⟩=some (Iv (bi:Int)):=A.out.cell (a:=[_]) 18 _ Z;by_cases J:v=0
 rotate_left
 ·have E:=Qf (g.out.trans (Xr J));have dv:(v != 0)=true:=bne_iff_ne.2 J;have HV:=Qf J;clear J g CE CA;go_wp2_with fail
  refine(CB.out N).mono ?_
  rintro e' S ⟨rfl,M⟩;have d:=Qf (A.out.below M);clear M A x5 x8 P;go_wp2_with fail
  refine(CF.out v (10000*(fi:Int)+100*(bi:Int)+90) S).mono ?_
  rintro e' w4 ⟨rfl,b4⟩;have O:=Qf (d.out.below b4);clear b4 d;have EA:Hid (atF v (10000*(fi:Int)+100*(bi:Int)+90)=V):=(Xr HV.out).trans E.out.symm;rw[EA.out]
  have r0:=O.out.cell (a:=[]) 0 _ Z;have r1:=O.out.cell (a:=[]) 1 _ Z;have z0:=O.out.free (a:=[]) 0;have z1:=O.out.free (a:=[]) 1;have q:=Qf ((O.out.set (a:=[]) 0 (Iv (V.1))).set (a:=[]) 1 (Iv (V.2)));go_wp2
  exact Xy (v:=QG V) (by simp[results,results121,go_sem,q.out.cell (a:=[]) 0 _ Z,q.out.cell (a:=[]) 1 _ Z]) Z ⟨Z,q.out.bel⟩
 replace g:=Qf (g.out.trans (Xs J));subst J;have T:=Qf (Qir (w:=N) (Bc:=X) (fun i z=>atF (Qs.form m.length z) (10000*(fi:Int)+100*(bi:Int)+(i:Int))) (Ya G.out.2.2.1.code A.out.bel) (by have:=G.out.2.2.2.1;omega) (fun i z zi b hz hi hb=>Qjn (y:=y) (by have h8:=G.out.2.2.2.1;have h9:=(Zi hz).1;omega) HB.out.1 HB.out.2.1 HB.out.2.2 ((A.out.at (a:=[_])).below hb)));unfold Rd at T;generalize firstF (fun i z=>atF (Qs.form m.length z) (10000*(fi:Int)+100*(bi:Int)+(i:Int))) 0 y.code=h at g T;go_wp2_with fail
 refine T.out.mono ?_;rintro e' S ⟨rfl,M⟩;have d:=Qf ((A.out.below M).new #[Iv h.1,Iv h.2] 32);clear M A x5 x8 P T;go_upto_region 5 with fail
 generalize S.alloc (.cells #[Iv h.1,Iv h.2] 32)=w4 at d |-;generalize S.heap.size=F at d |-;have y0:w4.cell? ⟨F,0,none⟩=some (Iv h.1):=d.out.cell (a:=[]) 0 _ Z;have y1:w4.cell? ⟨F,1,none⟩=some (Iv h.2):=d.out.cell (a:=[]) 1 _ Z;by_cases K:h.1=0
 rotate_left
 ·have E:=Qf (g.out.trans (Xr K));have df:(h.1 != 0)=true:=bne_iff_ne.2 K;clear K g;have r0:=d.out.cell (a:=[_]) 0 _ Z;have r1:=d.out.cell (a:=[_]) 1 _ Z;have z0:=d.out.free (a:=[_]) 0;have z1:=d.out.free (a:=[_]) 1;have q:=Qf ((d.out.set (a:=[_]) 0 (Iv (h.1))).set (a:=[_]) 1 (Iv (h.2)));go_wp2
  exact Xy (v:=QG h) (by simp[results,results121,go_sem,q.out.cell (a:=[_]) 0 _ Z,q.out.cell (a:=[_]) 1 _ Z]) Z ⟨by rw[E.out],q.out.bel⟩
 have E:=Qf (g.out.trans (Xs K));have df:(h.1 != 0)=false:=by simpa using K
 clear K g;go_upto_region 7 with fail
 clear y0 y1;have HX:=Qf (d.out.at (a:=[_,_]));refine kd7 HX (fun j v hj=>by have h8:=(Blk.range (c:=(bkA m p c x B fi y o bi).toList) HX.out) (9+j) v (by rcases j with _ | _ | _ | _ | _ | _ | _ | _ | _ | j<;>first | exact hj | simp at hj);rwa [XK] at h8) (fun b _=>CE.out b) (fun b _=>CA.out b) (fun b _=>CF.out _ _ b) _ _ Z (Xg (by kernel_rfl)) Z ?_;rintro aa vs w5 D b5;have L:=Qf (d.out.below b5);clear b5 d HX;rw[<-E.out] at D
 show wpList _ aa _ [_] (QM _ vs [26,27,28,29,30,31,32,33,34,35,36,37,38,39]) w5;simp only[QM,Act.put,List.setIfInBounds_toArray,List.set_cons_zero,List.set_cons_succ,D]
 have r0:=L.out.cell (a:=[_]) 0 _ Z;have r1:=L.out.cell (a:=[_]) 1 _ Z;have z0:=L.out.free (a:=[_]) 0;have z1:=L.out.free (a:=[_]) 1;have q:=Qf ((L.out.set (a:=[_]) 0 (Iv (V.1))).set (a:=[_]) 1 (Iv (V.2)));go_wp2
 exact Xy (v:=QG V) (by simp[results,results121,go_sem,q.out.cell (a:=[_]) 0 _ Z,q.out.cell (a:=[_]) 1 _ Z]) Z ⟨Z,q.out.bel⟩
theorem Qjw {m:List (MFunc n)}{x:MFunc n}{r:FP}{y:MBlock n}{f:BP}(k:FIn w All x r) (o:x.small) (q:BIn w All y f) (g:y.small){Bc:Nat}(B:m.length<=100000) (i:fi<1000000) (j:bi<1000000) (b:Blk w Bc (lA m p c x r fi) 139) :
 Rd prog 120 #[Iv (bi:Int),.agg (bA y f),Pv Bc 0] w (QG (MBlock.fault m.length fi x bi y)):=by
 have d:=((Bxs.start w).new (bA y f) 86).new #[Iv 0,Iv 0] 32;rw[World.size_alloc] at d
 have d:=Qf d;have F:=Qf b;have t:Hid (∀ h,Below w.heap.size w h->Calls prog 121 #[.agg (bkA m p c x r fi y f bi)] h fun e D=>e=.returned (QG (MBlock.fault m.length fi x bi y))/\Below h.heap.size h D):=fun h u=>QcX (k.below u) o (q.below u) g B i j;generalize MBlock.fault m.length fi x bi y=V at t |-;clear k o q g B i j b;unfold Rd;go_enter func120,ntmps120
 go_upto_region 1 with fail
 generalize (w.alloc (.cells (bA y f) 86)).alloc (.cells #[Iv 0,Iv 0] 32)=E at d |-;generalize w.heap.size+1=R at d |-;generalize w.heap.size=X at d |-;have C:=Qf (Blk.range (c:=(bA y f).toList) (d.out.at (a:=[_])));have z:=Qf (Blk.range (c:=(lA m p c x r fi).toList) (F.out.below d.out.bel));go_wp2_with (first | refine ZM Z 139 (.tmp 2) Z Bc 0 Z (lA m p c x r fi).toList _ z.out underlying139 Z (by kernel_rfl) ?_ | refine ZM Z 86 (.tmp 4) Z X 0 Z (bA y f).toList _ C.out underlying86 Z pSizeB ?_)
 refine(t.out E d.out.bel).mono ?_
 rintro G I ⟨rfl,A⟩;have l:=Qf (d.out.below A);clear A C z d t;have J:=l.out.cell (a:=[]) 0 _ Z;have K:=l.out.cell (a:=[]) 1 _ Z;have L:=l.out.free (a:=[]) 0;have H:=l.out.free (a:=[]) 1;have s:=Qf ((l.out.set (a:=[]) 0 (Iv (V.1))).set (a:=[]) 1 (Iv (V.2)));go_wp2
 exact Xy (v:=QG V) (by simp[results,results120,go_sem,s.out.cell (a:=[]) 0 _ Z,s.out.cell (a:=[]) 1 _ Z]) Z ⟨Z,s.out.bel⟩
theorem Qdr {m:List (MFunc n)}{x:MFunc n}{j:FP}(o:FIn w All x j) (s:x.small) (Q:m.length<=100000) (l:fi<1000000) :
 Rd prog 75 #[.agg (lA m p c x j fi)] w (QG (MFunc.fault m.length fi x)):=by
 have h:=((Bxs.start w).new (lA m p c x j fi) 139).new #[Iv 0,Iv 0] 32;rw[World.size_alloc] at h
 have h:=Qf h;have N:=Qf (Xh Q l);have f:=Qf (Xh o s);have q:=Qf (MFunc.fault_eq m.length fi x);have H:Hid (∀ d,Below w.heap.size w d->Calls prog 116 #[.agg (lA m p c x j fi)] d fun e u=>e=.returned (Iv (x.code fi))/\Below d.heap.size d u):=fun d U=>QeO (o.below U) s;have CF:Hid (∀ (B F:Int) (d:World),Calls prog 117 #[Iv B,Iv F] d fun e u=>e=.returned (.agg #[Iv (atF B F).1,Iv (atF B F).2])/\Below d.heap.size d u):=fun B F d=>Qbv;have CA:Hid (∀ d:World,Calls prog 118 #[Iv (fi:Int)] d fun e u=>e=.returned (Iv (10000*(fi:Int)+9999))/\Below d.heap.size d u):=fun d=>Qfv l;generalize MFunc.fault m.length fi x=V at q |-;generalize x.code fi=v at q H;clear o s Q l;unfold Rd;go_enter func75,ntmps75
 go_upto_region 1 with fail
 generalize (w.alloc (.cells (lA m p c x j fi) 139)).alloc (.cells #[Iv 0,Iv 0] 32)=T at h |-;generalize w.heap.size+1=R at h |-;generalize w.heap.size=X at h |-;have S:=Qf (Blk.range (c:=(lA m p c x j fi).toList) (h.out.at (a:=[_])));go_wp2_with (refine ZM Z 139 (.tmp 1) Z X 0 Z (lA m p c x j fi).toList _ S.out underlying139 Z (by kernel_rfl) ?_)
 refine(H.out T h.out.bel).mono ?_
 rintro G C ⟨rfl,P⟩;have g:=Qf (h.out.below P);clear P S h H;have L:C.cell? ⟨X,4,none⟩=some (.slice j.pB x.blocks.length j.cB):=g.out.cell (a:=[_]) 4 _ Z;have O:C.cell? ⟨X,5,none⟩=some (Iv (fi:Int)):=g.out.cell (a:=[_]) 5 _ Z;by_cases t:v=0
 rotate_left
 ·have E:=Qf (q.out.trans (Xr t));have dv:(v != 0)=true:=bne_iff_ne.2 t;have HV:=Qf t;clear t q;go_wp2_with fail
  refine(CA.out C).mono ?_
  rintro G J ⟨rfl,z⟩;have k:=Qf (g.out.below z);clear z g L O;go_wp2_with fail
  refine(CF.out v (10000*(fi:Int)+9999) J).mono ?_
  rintro G w4 ⟨rfl,K⟩;have A:=Qf (k.out.below K);clear K k;have EA:Hid (atF v (10000*(fi:Int)+9999)=V):=(Xr HV.out).trans E.out.symm;rw[EA.out]
  have r0:=A.out.cell (a:=[]) 0 _ Z;have r1:=A.out.cell (a:=[]) 1 _ Z;have z0:=A.out.free (a:=[]) 0;have W:=A.out.free (a:=[]) 1;have r:=Qf ((A.out.set (a:=[]) 0 (Iv (V.1))).set (a:=[]) 1 (Iv (V.2)));go_wp2
  exact Xy (v:=QG V) (by simp[results,results75,go_sem,r.out.cell (a:=[]) 0 _ Z,r.out.cell (a:=[]) 1 _ Z]) Z ⟨Z,r.out.bel⟩
 replace q:=Qf (q.out.trans (Xs t));subst t;have D:=Qf (QfZ (w:=C) (Bc:=X) (fun b y=>MBlock.fault m.length fi x b y) (Ya f.out.1.blocks g.out.bel) (by have:=f.out.2.1;omega) (fun i y bp d M hi I=>Qjw (f.out.1.below (g.out.bel.trans (I.mono g.out.bel.size))) f.out.2 hi (f.out.2.2.2.2 y (Zm M)) N.out.1 N.out.2 (by have h8:=f.out.2.1;have h9:=(Zi M).1;omega) ((g.out.at (a:=[_])).below I)));unfold Rd at D;rw[<-q.out] at D
 go_wp2_with fail
 refine D.out.mono ?_;rintro G J ⟨rfl,z⟩;have k:=Qf (g.out.below z);clear z g L O D;have r0:=k.out.cell (a:=[]) 0 _ Z;have r1:=k.out.cell (a:=[]) 1 _ Z;have z0:=k.out.free (a:=[]) 0;have W:=k.out.free (a:=[]) 1;have r:=Qf ((k.out.set (a:=[]) 0 (Iv (V.1))).set (a:=[]) 1 (Iv (V.2)));go_wp2
 exact Xy (v:=QG V) (by simp[results,results75,go_sem,r.out.cell (a:=[]) 0 _ Z,r.out.cell (a:=[]) 1 _ Z]) Z ⟨Z,r.out.bel⟩
theorem QhH {m:List (MFunc n)}{x:MFunc n}{f:FP}(i:FIn w All x f) (k:x.small){Bc:Nat}(r:m.length<=100000) (h:fi<1000000) (b:Blk w Bc #[.slice p m.length c] 24) :
 Rd prog 74 #[Iv (fi:Int),.agg (fA x f),Pv Bc 0] w (QG (MFunc.fault m.length fi x)):=by
 have d:=((Bxs.start w).new (fA x f) 89).new #[Iv 0,Iv 0] 32;rw[World.size_alloc] at d
 have d:=Qf d;have z:=Qf b;have o:Hid (∀ g,Below w.heap.size w g->Calls prog 75 #[.agg (lA m p c x f fi)] g fun e t=>e=.returned (QG (MFunc.fault m.length fi x))/\Below g.heap.size g t):=fun g y=>Qdr (i.below y) k r h;generalize MFunc.fault m.length fi x=V at o |-;clear i k r h b;unfold Rd;go_enter func74,ntmps74
 go_upto_region 1 with fail
 generalize (w.alloc (.cells (fA x f) 89)).alloc (.cells #[Iv 0,Iv 0] 32)=u at d |-;generalize w.heap.size+1=R at d |-;generalize w.heap.size=X at d |-;have A:=Qb (z.out.below d.out.bel) 0 _ Z;have s:=Qf (Blk.range (c:=(fA x f).toList) (d.out.at (a:=[_])));go_wp2_with (refine ZM Z 89 (.tmp 4) Z X 0 Z (fA x f).toList _ s.out underlying89 Z (by kernel_rfl) ?_)
 refine(o.out u d.out.bel).mono ?_
 rintro B D ⟨rfl,q⟩;have j:=Qf (d.out.below q);clear q s d o A;have E:=j.out.cell (a:=[]) 0 _ Z;have F:=j.out.cell (a:=[]) 1 _ Z;have G:=j.out.free (a:=[]) 0;have C:=j.out.free (a:=[]) 1;have l:=Qf ((j.out.set (a:=[]) 0 (Iv (V.1))).set (a:=[]) 1 (Iv (V.2)));go_wp2
 exact Xy (v:=QG V) (by simp[results,results74,go_sem,l.out.cell (a:=[]) 0 _ Z,l.out.cell (a:=[]) 1 _ Z]) Z ⟨Z,l.out.bel⟩
theorem Qce {m:List (MFunc n)}(h:(QaN n).In w All m [.slice p m.length c]) (e:Qbe m) :
 Rd prog 44 #[.agg #[.slice p m.length c]] w (QG (modFault m)):=by
 have b:=((Bxs.start w).new #[.slice p m.length c] 24).new #[Iv 0,Iv 0] 32;rw[World.size_alloc] at b
 have b:=Qf b;have y:=Qf h;have o:=Qf e;have g:Hid (modFault m=if m.length<1\/8<m.length then (2,-1) else firstF (fun f x=>MFunc.fault m.length f x) 0 m):=rfl;have A:=e.1;generalize modFault m=V at g |-;clear h e;unfold Rd;go_enter func44,ntmps44
 go_upto_region 1 with fail
 generalize (w.alloc (.cells #[.slice p m.length c] 24)).alloc (.cells #[Iv 0,Iv 0] 32)=q at b |-;generalize w.heap.size+1=R at b |-;generalize w.heap.size=X at b |-;have G:q.cell? ⟨X,0,none⟩=some (.slice p m.length c):=b.out.cell (a:=[_]) 0 _ Z;by_cases j:m.length<1\/8<m.length
 ·have E:=Qf (g.out.trans (Xs j));clear g;have D:=b.out.cell (a:=[]) 0 _ Z;have F:=b.out.cell (a:=[]) 1 _ Z;have I:=b.out.free (a:=[]) 0;have B:=b.out.free (a:=[]) 1;by_cases u:m.length<1
  ·have s:decide ((m.length:Int)<1)=true:=Xt (by omega);clear u j;have d:=Qf ((b.out.set (a:=[]) 0 (Iv (2))).set (a:=[]) 1 (Iv (-1)));go_wp2
   exact Xy (v:=QG V) (by simp[results,results44,go_sem,d.out.cell (a:=[]) 0 _ Z,d.out.cell (a:=[]) 1 _ Z,E.out]) Z ⟨Z,d.out.bel⟩
  ·have s:decide ((m.length:Int)<1)=false:=Xu (by omega);have C:decide ((m.length:Int)>8)=true:=Xt (by omega);clear u j;have d:=Qf ((b.out.set (a:=[]) 0 (Iv (2))).set (a:=[]) 1 (Iv (-1)));go_wp2
   exact Xy (v:=QG V) (by simp[results,results44,go_sem,d.out.cell (a:=[]) 0 _ Z,d.out.cell (a:=[]) 1 _ Z,E.out]) Z ⟨Z,d.out.bel⟩
 replace g:=Qf (g.out.trans (Xr j));have s:decide ((m.length:Int)<1)=false:=Xu (by omega);have C:decide ((m.length:Int)>8)=false:=Xu (by omega);clear j;have l:=Qf (QgO (w:=q) (Bc:=X) (fun f x=>MFunc.fault m.length f x) (Ya y.out b.out.bel) (by omega) (fun i x M J t H z=>QhH H (o.out.2 x (Zm t)) o.out.1 (by have N:=o.out.1;have O:=(Zi t).1;omega) ((b.out.at (a:=[_])).below z)));unfold Rd at l;rw[<-g.out] at l
 go_wp2_with fail
 refine l.out.mono ?_;rintro L K ⟨rfl,r⟩;have k:=Qf (b.out.below r);clear r b G l;have D:=k.out.cell (a:=[]) 0 _ Z;have F:=k.out.cell (a:=[]) 1 _ Z;have I:=k.out.free (a:=[]) 0;have B:=k.out.free (a:=[]) 1;have d:=Qf ((k.out.set (a:=[]) 0 (Iv (V.1))).set (a:=[]) 1 (Iv (V.2)));go_wp2
 exact Xy (v:=QG V) (by simp[results,results44,go_sem,d.out.cell (a:=[]) 0 _ Z,d.out.cell (a:=[]) 1 _ Z]) Z ⟨Z,d.out.bel⟩
def Qcy (w:World) (a:Option Addr) (l:List Int):Prop:=∀ i x,l[i]?=some x->∃ g o,a=some ⟨g,o,none⟩/\w.cell? ⟨g,o+i,none⟩=some (Iv x)
theorem Qcy.below (h:Qcy w a l) (b:Below w.heap.size w w'):Qcy w' a l:=fun i x d=>by
 obtain⟨g,o,e,c⟩:=h i x d
 exact⟨g,o,e,Qk c b⟩
theorem Qjf.lg {lo:Nat}(h:Qjf lo l (.slice a n c) w):n=l.length/\Qcy w a l:=by
 obtain⟨r,k,e,p,j,q⟩:=h
 simp only[Value.slice.injEq] at e
 obtain⟨rfl,rfl,rfl⟩:=e
 refine⟨Z,fun i x d=>?_⟩
 have s:=(Zi d).1;rcases j.2 with ⟨e,t⟩|⟨g,u,m,e,-,f,-,-,-,o⟩
 ·omega
 ·simp only[Value.slice.injEq] at e
  have b:(l.map (Value.int .i64))[i]?=some (Iv x):=by simp[d]
  rw[<-o,XR,Xs (by omega)] at b
  exact⟨g,0,e.1,Qb f _ _ (by rw[XK];simpa using b)⟩
theorem Qcy.nil (w:World) (a:Option Addr):Qcy w a []:=fun i x b=>by simp at b
theorem QfE {b:Option Addr}(j:l.length=N) (v:N<=100000) (n:Qcy w a l) (p:Qcy w b l) :
 Calls prog 28 #[.slice a N c,.slice b N d] w fun e w'=>e=.returned (.bool true)/\∃ m,w'=w.drewN m:=by
 have t:=Qc n;have x:=Qc p;have q:Hid (l.length=N):=j;clear n p j;go_enter func28,ntmps28
 go_wp2
 go_loopw [5] (fun i wr=>∃ k m:Nat,k<=N/\i=Iv k/\wr=w.drewN m) (fun i _=>N - (intOf i).toNat)
 case atStart=>exact⟨0,0,Xb _,Z,Z⟩
 case round =>
  obtain⟨k,m,B,rfl,rfl⟩:=hrel
  by_cases h:k<N
  ·have f:l[k]?=some (l[k]'(by rw[q.out];exact h)):=Zg _;generalize l[k]'(by rw[q.out];exact h)=y at f;obtain⟨g,o,rfl,C⟩:=t.out k y f
   obtain⟨A,z,rfl,s⟩:=x.out k y f
   have r:(k:Int)<N:=by omega
   have u:(0:Int)<=k:=by omega
   clear f;go_wp2_with fail
   go_quiet (fail)
   go_wp2
   go_roundw
   case rel=>exact⟨k+1,_,by omega,by go_num,Z⟩
   case measure=>simp[intOf];omega
  ·go_wp2
   go_ret;exact⟨Z,_,Z⟩
theorem Qck {b:Option Addr}(i:l.length=N) (f:N<=100000) (j:Qcy w a l) (k:Qcy w b l) :
 Calls prog 28 #[.slice a N c,.slice b N d] w fun e w'=>e=.returned (.bool true)/\Below w.heap.size w w' :=
 (QfE i f j k).mono fun e w' ⟨g,m,h⟩=>⟨g,by rw[h];exact QI Zr _⟩
theorem QbY {fin fuel:Int}{r:List Int}{a' b g:Option Addr}{c' j:Nat}(F:l.length<=100000) (D:r.length<=100000) (x:Qcy w a l) (A:Qcy w a' l) (y:Qcy w b r) (z:Qcy w g r) :
 Calls prog 26 #[.agg #[Iv fin,.slice a l.length c,.slice b r.length d,Iv fuel],.agg #[Iv fin,.slice a' l.length c',.slice g r.length j,Iv fuel]] w fun e w'=>e=.returned (.bool true)/\Below w.heap.size w w':=by
 have B:Hid (∀ f,Below w.heap.size w f->Calls prog 28 #[.slice a l.length c,.slice a' l.length c'] f fun e w'=>e=.returned (.bool true)/\Below f.heap.size f w'):=fun f m=>Qck Z F (x.below m) (A.below m);have v:Hid (∀ f,Below w.heap.size w f->Calls prog 28 #[.slice b r.length d,.slice g r.length j] f fun e w'=>e=.returned (.bool true)/\Below f.heap.size f w'):=fun f m=>Qck Z D (y.below m) (z.below m);have n:=Qc (Qj1 w (.cells #[Iv fin,.slice a l.length c,.slice b r.length d,Iv fuel] 44) (.cells #[Iv fin,.slice a' l.length c',.slice g r.length j,Iv fuel] 44));clear x A y z;go_enter func26,ntmps26
 go_upto_region 1 with fail
 have h:=QnQ w #[Iv fin,.slice a l.length c,.slice b r.length d,Iv fuel] 44 (.cells #[Iv fin,.slice a' l.length c',.slice g r.length j,Iv fuel] 44);have i:=Qme w (.cells #[Iv fin,.slice a l.length c,.slice b r.length d,Iv fuel] 44) #[Iv fin,.slice a' l.length c',.slice g r.length j,Iv fuel] 44;generalize (w.alloc (.cells #[Iv fin,.slice a l.length c,.slice b r.length d,Iv fuel] 44)).alloc (.cells #[Iv fin,.slice a' l.length c',.slice g r.length j,Iv fuel] 44)=C at n h i |-;generalize w.heap.size+1=Y at i |-;generalize w.heap.size=X at h |-;have J:=Qb h 0 _ Z;have I:=Qb h 1 _ Z;have u:=Qb h 2 _ Z;have s:=Qb h 3 _ Z;have K:=Qb i 0 _ Z;have G:=Qb i 1 _ Z;have t:=Qb i 2 _ Z;have o:=Qb i 3 _ Z;clear h i;go_wp2_with fail
 refine(B.out C n.out).mono ?_
 rintro N E ⟨rfl,k⟩;have q:=Qc (n.out.trans (k.mono n.out.size));have u:=Qk u k;have t:=Qk t k;have s:=Qk s k;have o:=Qk o k;clear B J I K G k n;go_wp2_with fail
 refine(v.out E q.out).mono ?_
 rintro M L ⟨rfl,p⟩;have H:=Qc (q.out.trans (p.mono q.out.size));have s:=Qk s p;have o:=Qk o p;clear v u t p q;go_wp2
 go_ret;exact⟨Z,H.out⟩
abbrev Qid (c a:Int):Value:=.tuple #[.agg #[Iv 0,Nv,Nv,Iv 0],Qbw c a]
def Qd2 (c0 a0:Int) (n:Nat) (fu pg:Int) (c a:Int):Prop:=(c0≠0/\c=c0/\a=a0)\/(c0=0/\(200<n\/fu<0\/20000<fu\/pg<0\/64<pg)/\c=1/\a=-1)
theorem Qd2.ne {c0 a0:Int}{fu pg c a:Int}(h:Qd2 c0 a0 n fu pg c a):c≠0:=by
 rcases h with ⟨h,rfl,-⟩|⟨-,-,rfl,-⟩
 ·exact h
 ·decide
theorem QiA {ml:Nat}{fu pg c a c0 a0:Int}(Q:∀ wx,Below w.heap.size w wx->Calls prog 66 #[.agg #[.slice pm ml cm]] wx fun e w'=>e=.returned (Qbw c0 a0)/\Below wx.heap.size wx w') (m:n<1152921504606846976) (J:Qd2 c0 a0 n fu pg c a) :
 Calls prog 32 #[.agg #[.slice pm ml cm],.slice pi n ci,Iv fu,Iv pg] w fun e w'=>e=.returned (.tuple #[.pointer none,Qbw c a])/\Below w.heap.size w w':=by
 have s:=Qc Q;have t:=Qc J;have i:=Qc ((((Bxs.start w).new #[.slice pm ml cm] 24)).new #[Iv 0,Iv 0] 32);clear Q J m;go_enter func32,ntmps32
 go_upto_region 1 with fail
 rw[World.size_alloc] at i
 have B:=Qc (s.out _ i.out.bel);generalize (w.alloc (.cells #[.slice pm ml cm] 24)).alloc (.cells #[Iv 0,Iv 0] 32)=U at i B |-;generalize w.heap.size+1=Y at i |-;generalize w.heap.size=X at i |-;have x0:U.cell? ⟨X,0,none⟩=some (.slice pm ml cm):=i.out.cell (a:=[_]) 0 _ Z;go_upto_region 2 with (go_at_call 66;refine B.out.mono ?_;rintro T K ⟨rfl,M⟩)
 have d:=Qc ((i.out.below M).new #[Iv c0,Iv a0] 32);clear B M i x0 s;generalize K.alloc (.cells #[Iv c0,Iv a0] 32)=l at d |-;generalize K.heap.size=F at d |-;have C:l.cell? ⟨F,0,none⟩=some (Iv c0):=d.out.cell (a:=[]) 0 _ Z;have z:l.cell? ⟨F,1,none⟩=some (Iv a0):=d.out.cell (a:=[]) 1 _ Z;have P:=d.out.cell (a:=[_]) 0 _ Z;have O:=d.out.cell (a:=[_]) 1 _ Z;have R:=d.out.free (a:=[_]) 0;have N:=d.out.free (a:=[_]) 1
 have k:Hid (∀ c a:Int,(((l.setCell ⟨Y,0,none⟩ (Iv c)).setCell ⟨Y,1,none⟩ (Iv a)).cell? ⟨Y,0,none⟩=some (Iv c)/\((l.setCell ⟨Y,0,none⟩ (Iv c)).setCell ⟨Y,1,none⟩ (Iv a)).cell? ⟨Y,1,none⟩=some (Iv a))/\Below w.heap.size w ((l.setCell ⟨Y,0,none⟩ (Iv c)).setCell ⟨Y,1,none⟩ (Iv a))):=fun c a=>by
  have j:=(d.out.set (a:=[_]) 0 (Iv c)).set (a:=[_]) 1 (Iv a);exact⟨⟨j.cell (a:=[_]) 0 _ Z,j.cell (a:=[_]) 1 _ Z⟩,j.bel⟩
 by_cases h:c0=0
 ·subst h
  have E:Hid ((200<n\/fu<0\/20000<fu\/pg<0\/64<pg)/\c=1/\a=-1):=by
   rcases t.out with ⟨b,-⟩|⟨-,b⟩
   ·exact absurd Z b
   ·exact b
  have D:=Qc (k.out 1 (-1));clear t;by_cases m:200<n
  ·have V:decide ((n:Int)>200)=true:=Xt (by omega);clear k m;go_upto_region 5 with fail
   go_wp2
   exact Xy (v:=.tuple #[.pointer none,Qbw c a]) (by rw[E.out.2.1,E.out.2.2];simp[results,results32,go_sem,D.out.1.1,D.out.1.2,Qbw]) Z ⟨Z,D.out.2⟩
  have V:decide ((n:Int)>200)=false:=Xu (by omega);by_cases r:fu<0
  ·have W:decide (fu<0)=true:=Xt r;clear k m r;go_upto_region 5 with fail
   go_wp2
   exact Xy (v:=.tuple #[.pointer none,Qbw c a]) (by rw[E.out.2.1,E.out.2.2];simp[results,results32,go_sem,D.out.1.1,D.out.1.2,Qbw]) Z ⟨Z,D.out.2⟩
  have W:decide (fu<0)=false:=Xu r;by_cases b:20000<fu
  ·have S:decide (fu>20000)=true:=Xt b;clear k m r b;go_upto_region 5 with fail
   go_wp2
   exact Xy (v:=.tuple #[.pointer none,Qbw c a]) (by rw[E.out.2.1,E.out.2.2];simp[results,results32,go_sem,D.out.1.1,D.out.1.2,Qbw]) Z ⟨Z,D.out.2⟩
  have S:decide (fu>20000)=false:=Xu b;have H:=Qc (QlJ l pg (by have:=E.out.1;omega));clear m r b D;go_upto_region 7 with (go_at_call 67;refine H.out.mono ?_;rintro T I ⟨rfl,L⟩)
  have g:=Qc ((d.out.below L).new #[Iv 1,Iv (-1)] 32);clear L C z P O R N k H d;generalize I.alloc (.cells #[Iv 1,Iv (-1)] 32)=o at g |-;generalize I.heap.size=G at g |-;have k0:o.cell? ⟨G,0,none⟩=some (Iv 1):=g.out.cell (a:=[]) 0 _ Z;have k1:o.cell? ⟨G,1,none⟩=some (Iv (-1)):=g.out.cell (a:=[]) 1 _ Z;have P:=g.out.cell (a:=[_,_]) 0 _ Z;have O:=g.out.cell (a:=[_,_]) 1 _ Z;have R:=g.out.free (a:=[_,_]) 0;have N:=g.out.free (a:=[_,_]) 1
  have D6:Hid ((((o.setCell ⟨Y,0,none⟩ (Iv 1)).setCell ⟨Y,1,none⟩ (Iv (-1))).cell? ⟨Y,0,none⟩=some (Iv 1)/\((o.setCell ⟨Y,0,none⟩ (Iv 1)).setCell ⟨Y,1,none⟩ (Iv (-1))).cell? ⟨Y,1,none⟩=some (Iv (-1)))/\Below w.heap.size w ((o.setCell ⟨Y,0,none⟩ (Iv 1)).setCell ⟨Y,1,none⟩ (Iv (-1)))) :=
   have j:=(g.out.set (a:=[_,_]) 0 (Iv 1)).set (a:=[_,_]) 1 (Iv (-1));show _ from ⟨⟨j.cell (a:=[_,_]) 0 _ Z,j.cell (a:=[_,_]) 1 _ Z⟩,j.bel⟩
  go_upto_region 8 with fail
  go_region
  all_goals
   go_wp2_with fail
   have q:=D6.out;generalize (o.setCell ⟨Y,0,none⟩ (Iv 1)).setCell ⟨Y,1,none⟩ (Iv (-1))=p at q |-;obtain⟨⟨y,x⟩,f⟩:=q
   have u:p.drew.cell? ⟨Y,0,none⟩=some (Iv 1):=y;have A:p.drew.cell? ⟨Y,1,none⟩=some (Iv (-1)):=x;exact Xy (v:=.tuple #[.pointer none,Qbw c a]) (by rw[E.out.2.1,E.out.2.2];simp[results,results32,go_sem,u,A,Qbw]) Z ⟨Z,⟨f.os,f.tape,f.output,f.size,f.block⟩⟩
 ·have d0:(c0 != 0)=true:=bne_iff_ne.2 h
  have E:Hid (c=c0/\a=a0):=by
   rcases t.out with ⟨-,b,h2⟩|⟨b,-⟩
   ·exact⟨b,h2⟩
   ·exact absurd b h
  have D:=Qc (k.out c0 a0);clear h k t;go_upto_region 3 with fail
  go_region
  all_goals
   go_wp2_with fail
   have q:=D.out;generalize (l.setCell ⟨Y,0,none⟩ (Iv c0)).setCell ⟨Y,1,none⟩ (Iv a0)=p at q |-;obtain⟨⟨y,x⟩,f⟩:=q
   have u:p.drew.cell? ⟨Y,0,none⟩=some (Iv c0):=y;have A:p.drew.cell? ⟨Y,1,none⟩=some (Iv a0):=x;exact Xy (v:=.tuple #[.pointer none,Qbw c a]) (by rw[E.out.1,E.out.2];simp[results,results32,go_sem,u,A,Qbw]) Z ⟨Z,⟨f.os,f.tape,f.output,f.size,f.block⟩⟩
theorem QfG {ml:Nat}{fu pg c a c0 a0:Int}(x:∀ wx,Below w.heap.size w wx->Calls prog 66 #[.agg #[.slice pm ml cm]] wx fun e w'=>e=.returned (Qbw c0 a0)/\Below wx.heap.size wx w') (p:n<1152921504606846976) (j:Qd2 c0 a0 n fu pg c a) :
 Calls prog 30 #[.agg #[.slice pm ml cm],.slice pi n ci,Iv fu,Iv pg] w fun e w'=>e=.returned (Qid c a)/\Below w.heap.size w w':=by
 have f:=((((Bxs.start w).new #[.slice pm ml cm] 24)).new #[Iv 0,Nv,Nv,Iv 0] 44).new #[Iv 0,Iv 0] 32;rw[World.size_alloc,World.size_alloc] at f
 have f:=Qc f;have k:Hid (∀ wx,Below w.heap.size w wx->Calls prog 32 #[.agg #[.slice pm ml cm],.slice pi n ci,Iv fu,Iv pg] wx fun e w'=>e=.returned (.tuple #[.pointer none,Qbw c a])/\Below wx.heap.size wx w'):=fun wx s=>QiA (fun J l=>x J (s.trans (l.mono s.size))) p j;have L:(c != 0)=true:=bne_iff_ne.2 j.ne;have O:decide (c=0)=false:=Xu j.ne;clear x p j;go_enter func30,ntmps30
 go_upto_region 1 with fail
 generalize ((w.alloc (.cells #[.slice pm ml cm] 24)).alloc (.cells #[Iv 0,Nv,Nv,Iv 0] 44)).alloc (.cells #[Iv 0,Iv 0] 32)=q at f |-;generalize w.heap.size+1+1=g at f |-;generalize w.heap.size+1=d at f |-;generalize w.heap.size=X at f |-;have k:=Qc (k.out q f.out.bel);have I:q.cell? ⟨X,0,none⟩=some (.slice pm ml cm):=f.out.cell (a:=[_,_]) 0 _ Z;go_upto_region 2 with (go_at_call 32;refine k.out.mono ?_;rintro K u ⟨rfl,r⟩)
 have b:=Qc ((f.out.below r).new #[Iv c,Iv a] 32);clear f k I r;generalize u.alloc (.cells #[Iv c,Iv a] 32)=m at b |-;generalize u.heap.size=F at b |-;have c0:m.cell? ⟨F,0,none⟩=some (Iv c):=b.out.cell (a:=[]) 0 _ Z;have T:m.cell? ⟨F,1,none⟩=some (Iv a):=b.out.cell (a:=[]) 1 _ Z;have P:=b.out.cell (a:=[_,_]) 0 _ Z;have U:=b.out.cell (a:=[_,_]) 1 _ Z;have r2:=b.out.cell (a:=[_,_]) 2 _ Z;have R:=b.out.cell (a:=[_,_]) 3 _ Z;have z0:=b.out.free (a:=[_,_]) 0;have N:=b.out.free (a:=[_,_]) 1;have S:=b.out.free (a:=[_,_]) 2;have z3:=b.out.free (a:=[_,_]) 3;have V:=b.out.cell (a:=[_]) 0 _ Z;have M:=b.out.cell (a:=[_]) 1 _ Z;have W:=b.out.free (a:=[_]) 0;have Q:=b.out.free (a:=[_]) 1;have o:¬ d=g:=fun e=>by have:=b.out.nd;simp[e] at this
 have y:¬ g=d:=fun e=>o e.symm;have D:¬ F=d:=fun e=>by have:=b.out.nd;simp[e] at this
 have A:¬ F=g:=fun e=>by have:=b.out.nd;simp[e] at this
 go_upto_region 3 with fail
 go_region
 all_goals
  go_wp2_with fail
  have t:=(((((b.out.set (a:=[_,_]) 0 (Iv 0)).set (a:=[_,_]) 1 (Nv)).set (a:=[_,_]) 2 (Nv)).set (a:=[_,_]) 3 (Iv 0)).set (a:=[_]) 0 (Iv c)).set (a:=[_]) 1 (Iv a);generalize ((((((m.setCell ⟨d,0,none⟩ (Iv 0)).setCell ⟨d,1,none⟩ (Nv)).setCell ⟨d,2,none⟩ (Nv)).setCell ⟨d,3,none⟩ (Iv 0)).setCell ⟨g,0,none⟩ (Iv c)).setCell ⟨g,1,none⟩ (Iv a))=i at t |-;have h:=t.drew;have z:i.drew.cell? ⟨d,0,none⟩=some (Iv 0):=h.cell (a:=[_,_]) 0 _ Z;have H:i.drew.cell? ⟨d,1,none⟩=some (Nv):=h.cell (a:=[_,_]) 1 _ Z;have E:i.drew.cell? ⟨d,2,none⟩=some (Nv):=h.cell (a:=[_,_]) 2 _ Z;have C:i.drew.cell? ⟨d,3,none⟩=some (Iv 0):=h.cell (a:=[_,_]) 3 _ Z;have G:i.drew.cell? ⟨g,0,none⟩=some (Iv c):=h.cell (a:=[_]) 0 _ Z;have B:i.drew.cell? ⟨g,1,none⟩=some (Iv a):=h.cell (a:=[_]) 1 _ Z;exact Xy (v:=Qid c a) (by simp[results,results30,go_sem,z,H,E,C,G,B,Qbw]) Z ⟨Z,h.bel⟩
theorem Lay.flat {α:Type}{A:Lay α}{o:Nat}{l:List α}(h:A.list.In w O l [.slice (some ⟨g,o,none⟩) n c]) (f:∀ (x:α) (ds:List Value),A.In w O x ds->∀ u∈ds,u.oneCell'=true) :
 ∃ ds:List Value,ds.length=l.length*A.size/\(∀ (j:Nat) (u:Value),ds[j]?=some u->w.cell? ((⟨g,o,none⟩:Addr).add j)=some u)/\(∀ u∈ds,u.oneCell'=true)/\∀ (i:Nat) (x:α),l[i]?=some x->A.In w O x ((ds.drop (i*A.size)).take A.size):=by
 have t:∀ k,k<=l.length->∃ ds:List Value,ds.length=k*A.size/\(∀ (j:Nat) (u:Value),ds[j]?=some u->w.cell? ⟨g,o+j,none⟩=some u)/\(∀ u∈ds,u.oneCell'=true)/\∀ (i:Nat) (x:α),i<k->l[i]?=some x->A.In w O x ((ds.drop (i*A.size)).take A.size):=by
  intro k
  induction k with
  | zero=>exact fun _=>⟨[],by simp,fun j u a=>by simp at a,fun u b=>by simp at b,fun i x G=>by omega⟩
  | succ k ih =>
    intro L;obtain⟨ds,p,z,q,r⟩:=ih (by omega)
    obtain⟨x,m⟩:∃ x,l[k]?=some x:=⟨_,Zg (by omega)⟩
    obtain⟨K,J,C,e,_,_,F,B⟩:=Yf h m
    injection e with e
    injection e with e e2
    subst e;subst e2;have v:=A.len B;refine⟨ds++C,by rw[List.length_append,p,v,Nat.add_mul];omega,fun j u a=>?_,fun u b=>?_,fun i y G d=>?_⟩
    ·rw[List.getElem?_append] at a
     split at a
     ·exact z j u a
     ·rename_i E
      have H:j - ds.length<C.length:=(Zi a).1;have D:=F (j - ds.length) (by omega);rw[a] at D
      rw[<-D]
      congr 2
      omega
    ·rcases List.mem_append.1 b with b | b
     ·exact q u b
     ·exact f x C B u b
    ·by_cases s:i=k
     ·subst s;rw[m] at d
      injection d with d
      subst d;rw[List.drop_append,List.drop_of_length_le (by omega),p,Nat.sub_self,List.drop_zero,List.nil_append,XO (by omega)]
      exact B
     ·have I:(i+1)*A.size<=k*A.size:=Xp _ (by omega);rw[Nat.add_mul] at I
      rw[List.drop_append_of_le_length (by omega),List.take_append_of_le_length (by simp;omega)]
      exact r i y (by omega) d
 obtain⟨ds,p,z,q,r⟩:=t l.length Ze
 exact⟨ds,p,fun j u a=>by rw[Go.WideShapes.add_plain];exact z j u a,q,fun i x m=>r i x (Zi m).1 m⟩
theorem QcV {α:Type}{P:α->List Value->Prop}{l l2:List α}{xs:List Value}(b:xs.length=l.length*s)
 (e:∀ (i:Nat) (x:α),l[i]?=some x->P x ((xs.drop (i*s)).take s)) (f:∀ (i:Nat) (x:α),l2[i]?=some x->P x ((ds.drop (i*s)).take s)) :
 ∀ (i:Nat) (x:α),(l++l2)[i]?=some x->P x (((xs++ds).drop (i*s)).take s):=by
 intro i y a;rw[List.getElem?_append] at a
 split at a
 ·rename_i c
  have d:(i+1)*s<=l.length*s:=Xp _ c;rw[Nat.add_mul] at d
  rw[List.drop_append_of_le_length (by omega),List.take_append_of_le_length (by simp;omega)]
  exact e i y a
 ·rename_i c
  have d:l.length*s<=i*s:=Xp _ (by omega)
  have:=f (i - l.length) y a
  rw[Nat.sub_mul] at this
  rw[List.drop_append,List.drop_of_length_le (by omega),List.nil_append,b]
  exact this
theorem Qe5 {xs:List Value}(h:w.ownsRow 0 e s (.slice (some ⟨g,0,none⟩) N cap) N xs) (k:w'.heap[g]?=w.heap[g]?):w'.ownsRow 0 e s (.slice (some ⟨g,0,none⟩) N cap) N xs:=by
 obtain⟨f,i⟩:=h
 refine⟨f,?_⟩
 rcases i with j | ⟨m,c,b,l,a,d,r⟩
 ·exact .inl j
 ·injection l with e1 _ e2
  injection e1 with e1
  injection e1 with e1 _
  subst e1;subst e2;exact .inr ⟨g,cap,b,Z,a,k.trans d,r⟩
def TRq (w:World) (O Q:Nat->Prop) (v:Value) (L:List (TT 6)):Prop :=
 ∃ xs,w.ownsRow 0 105 3 v L.length xs/\(∀ g,v.ownBlock=some g->O g)/\∀ i x,L[i]?=some x->(Lay.tt 6).In w Q x ((xs.drop (i*3)).take 3)
section
variable {w w':World}{O O' Q Q':Nat->Prop}{v:Value}{L:List (TT 6)}
theorem TRq.keep (h:TRq w O Q v L) (d:∀ k,k<w.heap.size->v.ownBlock=some k\/Q k->w'.heap[k]?=w.heap[k]?) (j:∀ k,v.ownBlock=some k->O' k) (p:∀ k,Q k->k<w.heap.size->Q' k):TRq w' O' Q' v L:=by
 obtain⟨s,⟨e,f⟩,u,m⟩:=h
 refine⟨s,⟨e,?_⟩,j,fun i x t=>(Lay.tt 6).keep (fun k q o=>d k o (.inr q)) p (m i x t)⟩
 rcases f with l | ⟨g,a,b,rfl,n,c,r⟩
 ·exact Or.inl l
 ·exact Or.inr ⟨g,a,b,Z,n,(d g (XC c) (.inl Z)).trans c,r⟩
theorem TRq.own (h:TRq w O Q v L)(b:v.ownBlock=some g):O g:=by
 obtain⟨e,c,a,d⟩:=h
 exact a g b
theorem TRq.block (h:TRq w O Q v L)(a:v.ownBlock=some g):∃ c,w.heap[g]?=some (.cells c 105 (0,0)):=by
 obtain⟨m,⟨i,e⟩,j,k⟩:=h
 rcases e with ⟨rfl,_⟩|⟨l,f,b,rfl,_,d,r⟩
 ·simp[Value.ownBlock] at a
 ·simp[Value.ownBlock] at a;subst a;exact⟨b,d⟩
theorem TRq.lt (h:TRq w O Q v L)(b:v.ownBlock=some g):g<w.heap.size:=by
 obtain⟨c,a⟩:=h.block b
 exact XC a
theorem TRq.form (h:TRq w O Q v L):∃ a cap,v=.slice a L.length cap/\L.length<=cap/\TRd w Q a L/\∃ xs,w.ownsRow 0 105 3 (.slice a L.length cap) L.length xs:=by
 obtain⟨xs,d,C,o⟩:=h
 obtain⟨B,A⟩:=id d
 rcases A with ⟨rfl,m⟩|⟨g,cap,y,rfl,_,k,l,E,D,s⟩
 ·have:L=[]:=Xf.1 m
  subst this;exact⟨none,0,Z,Ze,fun i t b=>by simp at b,xs,d⟩
 ·refine⟨some ⟨g,0,none⟩,cap,Z,l,fun i t b=>?_,xs,d⟩
  obtain⟨x,z,e,n,q⟩:=o i t b
  have p:i<L.length:=(Zi b).1
  have c:∀ j u,j<3->((xs.drop (i*3)).take 3)[j]?=some u->w.cell? ⟨g,i*3+j,none⟩=some u:=fun j u r f=>by
   rw[XR,Xs r,List.getElem?_drop,<-s,XR,Xs (by omega),Array.getElem?_toList] at f
   exact Qb k _ u f
  rw[e] at c
  exact⟨g,x,z,Z,c 0 _ (by omega) Z,c 1 _ (by omega) Z,c 2 _ (by omega) Z,n,q⟩
end
abbrev QeY (c:Int):List PanicEntry:=[{ v:=.iface 304 (Iv c),recovered:=false }]
def SAt (w:World) (b:Nat) (O A:Nat->Prop) (s:JSt):Prop :=
 ∃ pm cm h a1 c1 a2 c2 a3 c3 vL,w.heap[b]?=some (.cells #[.slice pm s.m.length cm,Pv h 0,Iv s.f.regs,.slice a1 s.f.params.length c1,.slice a2 s.f.results.length c2,.slice a3 s.f.blocks.length c3,vL] 279 (0,0)) /\
  (QaN 6).In w (fun g=>¬ A g) s.m [.slice pm s.m.length cm]/\(ZS 6).In w (fun g=>¬ A g) s.f [Iv s.f.regs,.slice a1 s.f.params.length c1,.slice a2 s.f.results.length c2,.slice a3 s.f.blocks.length c3] /\
  (Qo w h s.H/\O h)/\TRq w O (fun g=>¬ A g) vL s.L/\O b/\∀ k,O k->A k
structure SRd (w:World) (b:Nat) (A:Nat->Prop) (s:JSt) (pm:Option Addr) (cm h:Nat) (a1:Option Addr) (c1:Nat) (a2:Option Addr) (c2:Nat) (a3:Option Addr) (c3:Nat) (aL:Option Addr) (cL:Nat):Prop where
 blk:w.heap[b]?=some (.cells #[.slice pm s.m.length cm,Pv h 0,Iv s.f.regs,.slice a1 s.f.params.length c1,.slice a2 s.f.results.length c2,.slice a3 s.f.blocks.length c3,.slice aL s.L.length cL] 279 (0,0))
 mod:(QaN 6).In w (fun g=>¬ A g) s.m [.slice pm s.m.length cm]
 fn:(ZS 6).In w (fun g=>¬ A g) s.f [Iv s.f.regs,.slice a1 s.f.params.length c1,.slice a2 s.f.results.length c2,.slice a3 s.f.blocks.length c3]
 held:Qo w h s.H
 row:TRd w (fun g=>¬ A g) aL s.L
 le:s.L.length<=cL
section
variable {w w':World}{b:Nat}{O O' A A':Nat->Prop}{s:JSt}
theorem SAt.keep (h:SAt w b O A s) (c:∀ k,k<w.heap.size->O k\/¬ A k->w'.heap[k]?=w.heap[k]?) (j:∀ k,O k->k<w.heap.size->O' k) (l:∀ k,¬ A k->k<w.heap.size->¬ A' k) (D:∀ k,O' k->A' k):SAt w' b O' A' s:=by
 obtain⟨y,t,g,z,C,q,r,B,x,p,i,v,u,⟨m,o⟩,f,n,E⟩:=h
 refine⟨y,t,g,z,C,q,r,B,x,p,(c b (XC i) (.inl n)).trans i,(QaN 6).keep (fun k a d=>c k d (.inr a)) l v,(ZS 6).keep (fun k a d=>c k d (.inr a)) l u,
  ⟨m.keep (c g m.lt (.inl o)),j g o m.lt⟩,f.keep (fun k d a=>c k d (a.imp (fun e=>f.own e) id)) (fun k a=>j k (f.own a) (f.lt a)) l,j b n (XC i),D⟩
theorem SAt.below (h:SAt w b O A s) (k:Below w.heap.size w w'):SAt w' b O A s:=by
 have d:∀ k,O k->A k:=by obtain⟨r,l,e,t,x,i,j,v,q,f,m,p,n,⟨u,z⟩,o,y,a⟩:=h;exact a
 exact h.keep (fun g c _=>k.block g c) (fun _ h _=>h) (fun _ h _=>h) d
theorem SAt.sub (h:SAt w b O A s):∀ k,O k->A k:=by obtain⟨f,u,e,i,q,p,t,l,c,n,g,o,d,⟨j,r⟩,m,v,a⟩:=h;exact a
theorem SAt.read (h:SAt w b O A s):∃ pm cm h a1 c1 a2 c2 a3 c3 aL cL,SRd w b A s pm cm h a1 c1 a2 c2 a3 c3 aL cL:=by
 obtain⟨pm,cm,d,a1,c1,a2,c2,a3,c3,m,j,i,c,⟨g,n⟩,f,l,k⟩:=h
 obtain⟨aL,cL,rfl,a,e,_⟩:=f.form
 exact⟨pm,cm,d,a1,c1,a2,c2,a3,c3,aL,cL,j,i,c,g,e,a⟩
variable {pm:Option Addr}{cm h:Nat}{a1:Option Addr}{c1:Nat}{a2:Option Addr}{c2:Nat}{a3:Option Addr}{c3:Nat}{aL:Option Addr}{cL:Nat}
theorem SRd.below (k:SRd w b A s pm cm h a1 c1 a2 c2 a3 c3 aL cL) (e:Below w.heap.size w w'):SRd w' b A s pm cm h a1 c1 a2 c2 a3 c3 aL cL :=
 ⟨(e.block b (XC k.blk)).trans k.blk,Ya k.mod e,Ya k.fn e,k.held.below e,k.row.below e,k.le⟩
theorem SRd.cells (k:SRd w b A s pm cm h a1 c1 a2 c2 a3 c3 aL cL) :
 w.cell? ⟨b,0,none⟩=some (.slice pm s.m.length cm)/\w.cell? ⟨b,1,none⟩=some (Pv h 0)/\w.cell? ⟨b,2,none⟩=some (Iv s.f.regs)/\w.cell? ⟨b,3,none⟩=some (.slice a1 s.f.params.length c1)/\w.cell? ⟨b,4,none⟩=some (.slice a2 s.f.results.length c2)/\w.cell? ⟨b,5,none⟩=some (.slice a3 s.f.blocks.length c3)/\w.cell? ⟨b,6,none⟩=some (.slice aL s.L.length cL) :=
 ⟨Qb k.blk 0 _ Z,Qb k.blk 1 _ Z,Qb k.blk 2 _ Z,Qb k.blk 3 _ Z,Qb k.blk 4 _ Z,Qb k.blk 5 _ Z,Qb k.blk 6 _ Z⟩
end
def STo (wA w:World) (b:Nat) (O A:Nat->Prop) (s:JSt):Prop :=
 ∃ N:Nat->Prop,(∀ k,N k->wA.heap.size<=k/\k<w.heap.size)/\SAt w b (fun k=>O k\/N k) (fun k=>A k\/N k) s/\Qz O (fun k=>O k\/N k) wA w
section
variable {w wA wB:World}{b:Nat}{O A:Nat->Prop}{s s':JSt}
theorem STo.same (h:SAt w b O A s):STo w w b O A s :=
 ⟨fun _=>False,fun _ h=>h.elim,h.keep (fun _ _ _=>rfl) (fun _ h _=>.inl h) (fun _ h _=>by simpa using h) (fun k a=>a.imp (h.sub k) id),⟨Z,Z,Z,Ze,fun _ _ _=>rfl,fun k a=>.inl (by simpa using a)⟩⟩
theorem STo.after (h:STo wA w b O A s) (a:Below wB.heap.size wB wA):STo wB w b O A s:=by
 obtain⟨N,f,i,c⟩:=h
 have:=a.size
 exact⟨N,fun k d=>⟨Zt a.size (f k d).1,(f k d).2⟩,i,⟨c.os.trans a.os,c.tape.trans a.tape,c.output.trans a.output,Zt a.size c.size,fun k d g=>(c.block k (by omega) g).trans (a.block k d),fun k d=>(c.own k d).imp id fun e=>Zt a.size e⟩⟩
theorem STo.join {N:Nat->Prop}(f:∀ k,N k->wA.heap.size<=k/\k<w.heap.size) (c:Qz O (fun k=>O k\/N k) wA w) (g:STo w wB b (fun k=>O k\/N k) (fun k=>A k\/N k) s'):STo wA wB b O A s':=by
 obtain⟨M,i,j,d⟩:=g
 have l:=c.size;have m:=d.size;refine⟨fun k=>N k\/M k,fun k a=>?_,?_,?_⟩
 ·rcases a with a | a
  ·have:=f k a;omega
  ·have:=i k a;omega
 ·exact j.keep (fun _ _ _=>rfl) (fun k a _=>by simpa[or_assoc] using a) (fun k a _=>by simpa[or_assoc,not_or,and_assoc] using a) (fun k a=>by have:=j.sub k (by simpa[or_assoc] using a);simpa[or_assoc] using this)
 ·refine⟨d.os.trans c.os,d.tape.trans c.tape,d.output.trans c.output,Zt l m,fun k a h=>(d.block k (by omega) (fun e=>?_)).trans (c.block k a h),fun k a=>?_⟩
  ·rcases e with e | e
   ·exact h e
   ·have:=f k e;omega
  ·rcases a with a | a | a
   ·exact .inl a
   ·exact .inr (f k a).1
   ·exact .inr (Zt l (i k a).1)
theorem SAt.setH (K:∀ k,A k->k<w.heap.size) (h:SAt w b O A s):∃ hh,w.cell? ⟨b,1,none⟩=some (Pv hh 0)/\Qo w hh s.H/\∀ w' H',Qo w' hh H'->Qz (fun k=>k=hh) (fun k=>k=hh) w w'->STo w w' b O A { s with H:=H' }:=by
 obtain⟨C,x,hh,D,G,u,v,E,B,t,i,z,y,⟨p,n⟩,j,I,o⟩:=h
 refine⟨hh,Qb i 1 _ Z,p,fun w' H' J d=>?_⟩
 obtain⟨L,f⟩:∃ c,w.heap[hh]?=some (.cells c 303 (0,0)):=by
  obtain⟨-,q⟩:=p
  obtain⟨c,q,-⟩:=q
  exact⟨c,q⟩
 have m:b≠hh:=Q8 i f (by decide);have l:∀ k,¬ A k->k≠hh:=fun k a e=>a (by subst e;exact o _ n)
 refine⟨fun _=>False,fun _ h=>h.elim,⟨C,x,hh,D,G,u,v,E,B,t,(d.block b (XC i) m).trans i,(QaN 6).keep (fun k a g=>d.block k g (l k a)) (fun _ h _=>by simpa using h) z,(ZS 6).keep (fun k a g=>d.block k g (l k a)) (fun _ h _=>by simpa using h) y,
  ⟨J,.inl n⟩,j.keep (fun k g a=>d.block k g ?_) (fun k a=>.inl (j.own a)) (fun _ h _=>by simpa using h),.inl I,fun k a=>a.imp (o k) id⟩,⟨d.os,d.tape,d.output,d.size,fun k a r=>d.block k a (fun e=>r (by subst e;exact n)),fun k a=>.inl (by simpa using a)⟩⟩
 rcases a with a | a
 ·obtain⟨c,F⟩:=j.block a
  exact Q8 F f (by decide)
 ·exact l k a
theorem SAt.pushL (hA:∀ k,A k->k<wA.heap.size) (h:SAt wA b O A s):∃ aL cL xs,wA.cell? ⟨b,6,none⟩=some (.slice aL s.L.length cL)/\wA.frozen? ⟨b,6,none⟩=false/\s.L.length<=cL/\wA.ownsRow 0 105 3 (.slice aL s.L.length cL) s.L.length xs /\
 ∀ w9 g cap2 (l:List (TT 6)) ds,ds.length=l.length*3->w9.ownsRow 0 105 3 (.slice (some ⟨g,0,none⟩) (s.L.length+l.length) cap2) (s.L.length+l.length) (xs++ds)->wA.grownBy w9 (Value.slice aL s.L.length cL).ownBlock->((Value.slice aL s.L.length cL).ownBlock=some g\/g=wA.heap.size)->g<w9.heap.size ->
  (∀ i x,l[i]?=some x->(Lay.tt 6).In wA (fun g=>¬ A g) x ((ds.drop (i*3)).take 3)) ->
  w9.cell? ⟨b,6,none⟩=some (.slice aL s.L.length cL)/\w9.frozen? ⟨b,6,none⟩=false/\STo wA (w9.setCell ⟨b,6,none⟩ (.slice (some ⟨g,0,none⟩) (s.L.length+l.length) cap2)) b O A { s with L:=s.L++l }:=by
 obtain⟨pm,T,r,a1,c1,R,S,a3,c3,vL,o,k2,U,⟨M,k5⟩,u,N,I⟩:=h
 obtain⟨aL,cL,rfl,E,-,-⟩:=u.form
 have t:∀ {j},(Value.slice aL s.L.length cL).ownBlock=some j->O j/\∃ c,wA.heap[j]?=some (.cells c 105 (0,0)):=fun {j} f=>⟨u.own f,u.block f⟩;obtain⟨xs,G,q2,W⟩:=u
 obtain⟨ch,m⟩:∃ c,wA.heap[r]?=some (.cells c 303 (0,0)):=by
  obtain⟨-,q⟩:=M
  obtain⟨c,q,-⟩:=q
  exact⟨c,q⟩
 have z:=XC o;have C:=XC m
 have p:∀ j,(Value.slice aL s.L.length cL).ownBlock=some j->b≠j:=fun j f=>by
  obtain⟨c,hc⟩:=(t f).2
  exact Q8 o hc (by decide)
 refine⟨aL,cL,xs,Qb o 6 _ Z,Qj o 6,E,G,fun w9 g cap2 l ds aa V n H X Q=>?_⟩
 have ab:=n.size;have w:=(n.block b z (fun e=>p b e.symm Z)).trans o
 have B:b≠g:=by
  rcases H with h | h
  ·exact p g h
  ·omega
 have d:∀ k,¬ A k->k<wA.heap.size->¬ (A k\/(wA.heap.size<=k/\k<w9.heap.size)):=fun k a J e=>by rcases e with e | e;exact a e;omega
 have K:Qz O (fun x=>O x\/(wA.heap.size<=x/\x<w9.heap.size)) wA (w9.setCell ⟨b,6,none⟩ (.slice (some ⟨g,0,none⟩) (s.L.length+l.length) cap2)):=by
  refine⟨n.os,n.tape,n.output,by simp;omega,fun k a F=>?_,fun k a=>a.imp id fun h=>h.1⟩
  rw[Xd _ _ _ _ (fun e=>F (by subst e;exact N)),n.block k a (fun e=>F (t e.symm).1)]
 have v:∀ k,¬ A k->k<wA.heap.size->(w9.setCell ⟨b,6,none⟩ (.slice (some ⟨g,0,none⟩) (s.L.length+l.length) cap2)).heap[k]?=wA.heap[k]?:=fun k a J=>K.block k J (fun e=>a (I k e));refine⟨Qb w 6 _ Z,Qj w 6,fun x=>wA.heap.size<=x/\x<w9.heap.size,fun k a=>by rw[World.size_setCell];exact a,⟨pm,T,r,a1,c1,R,S,a3,c3,.slice (some ⟨g,0,none⟩) (s.L.length+l.length) cap2,?_,(QaN 6).keep v d k2,(ZS 6).keep v d U,⟨M.keep ?_,.inl k5⟩,?_,.inl N,fun k a=>a.imp (I k) id⟩,K⟩
 ·rw[Qh w];rfl
 ·rw[Xd _ _ _ _ (show r≠b from Q8 m o (by decide)),n.block r C (fun e=>by obtain⟨c',y⟩:=(t e.symm).2;exact Q8 m y (by decide) Z)]
 ·refine⟨xs++ds,?_,fun k a=>?_,?_⟩
  ·rw[List.length_append]
   exact Qe5 V (Xd _ _ _ _ (show g≠b from fun e=>B e.symm))
  ·simp[Value.ownBlock] at a
   subst a;rcases H with h | h
   ·exact .inl (t h).1
   ·exact .inr ⟨by omega,X⟩
  ·refine QcV (s:=3) (P:=fun x cs=>(Lay.tt 6).In _ _ x cs) G.1 (fun i x D=>?_) (fun i x D=>?_)
   ·exact(Lay.tt 6).keep v d (W i x D)
   ·exact(Lay.tt 6).keep v d (Q i x D)
theorem SAt.same6 {v:Value}(h:SAt w b O A s) (d:w.cell? ⟨b,6,none⟩=some v) (k:Nat):(w.setCell ⟨b,6,none⟩ v).heap[k]?=w.heap[k]?:=by
 obtain⟨i,q,g,j,o,n,p,l,f,m,a,-⟩:=h
 have e:=(Qb a 6 _ Z).symm.trans d;simp only[Option.some.injEq] at e
 by_cases c:k=b
 ·subst c;rw[Qh a,a,<-e];rfl
 ·exact Xd _ _ _ _ c
end
end Go.Proofs.YtjhdpajpibdnaafGreat
