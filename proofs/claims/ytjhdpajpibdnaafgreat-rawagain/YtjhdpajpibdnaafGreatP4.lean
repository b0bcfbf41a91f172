import Derived.Test.YtjhdpajpibdnaafGreatP3
import Derived.Deep.Upon
import Derived.SizedLaws
set_option maxHeartbeats 16000000
set_option maxRecDepth 100000
namespace Go.Proofs.YtjhdpajpibdnaafGreat
open Go.ChangeShapes Go.WideShapes Go.ChangeAt Go.RowKit _root_.Go.Proofs.Tryz
set_option linter.unusedSimpArgs false
set_option linter.unusedVariables false
variable {w w' w6 w1 w2:World}{n b c k m rc ac X j B i cm g N d f fi cap bp q R pages id bi cc funcs s ci rl al ca ri vl most cR cA G:Nat}{O Q O':Nat→Prop}{l xs regs inp:List Int}{p a rg ag pm pi pa pR pA ra aa:Option Addr}{t e:TypeId}{v:Value}{P:Program}{L bs:List Bool}{x ya xc xk fr xa xb xn yb:Int}{ds cs:List Value}{ops:Array Oper}
theorem WIn.cells {w:World}(h:WIn w O l (.slice p n c)):∀ i,i<l.length->∃ g o,p=some ⟨g,o,none⟩/\w.cell? ⟨g,o+i,none⟩=some (Iv (l.getD i 0)):=fun i a=>by
 obtain⟨q,d,e,h⟩:=h
 cases e
 obtain⟨k,o,f,-,-,b⟩:=h i a
 exact⟨k,o,f,b⟩
def QnC (w6:World) (Z cb co:Nat) (pb po:Option Addr) (lb lo:List Int) (t:Tmp) (v:Value) (w:World):Prop :=
 match ([(10,Qjg w6.heap.size lb),(13,Qjg w6.heap.size lo)]:List (Tmp × (Value->World->Prop))).lookup t with
 | some p=>p v w
 | none=>v=(([(3,.pointer (some ⟨Z,0,none⟩)),(8,.pointer (some ⟨Z,1,none⟩)),(9,.slice pb lb.length cb),(11,.pointer (some ⟨Z,2,none⟩)),(12,.slice po lo.length co),(14,.pointer (some ⟨Z,1,none⟩))]:List (Tmp × Value)).lookup t).getD undef
theorem wo2 {Z z u:Nat}{y r:Option Addr}{j lo:List Int}(I:w6.cell? ⟨Z,1,none⟩=some (.slice y j.length z)) (G:w6.cell? ⟨Z,2,none⟩=some (.slice r lo.length u)) (H:Hid (∀ wx,Below w6.heap.size w6 wx->Calls prog 48 #[.slice y j.length z] wx fun e w'=>Qcl wx j e w')) (E:Hid (∀ wx,Below w6.heap.size w6 wx->Calls prog 48 #[.slice r lo.length u] wx fun e w'=>Qcl wx lo e w')){Q:Exit->Act->World->Prop}
 (a:Act) (m:Nat) (F:a.tmps.size=m) (o:17<=m) (f:a.tmps.getD 3 undef=Pv Z 0)
 (hend:∀ ops vs w',(Qjg w6.heap.size j) (vs 10) w'->(Qjg w6.heap.size lo) (vs 13) w'->vs 14=Pv Z 1->Below w6.heap.size w6 w'->wpList prog ops Q (Qal 7 ((Tryz.f37.body.bind (Qi 2)).getD .skip)) (QN a vs [8,9,10,11,12,13,14]) w') :
 Code.wp prog ((Tryz.f37.body.bind (Qi 2)).getD .skip) Q a w6:=by
 conv=>arg 2;whnf
 refine Qg 7 (QnC w6 Z z u y r j lo) (fun w=>Below w6.heap.size w6 w) (fun w w'=>Below w.heap.size w w') (outs:=[3]) (gs:=[]) (bs:=[true,true,true,true,true,true,true]) (by kernel_rfl) (n:=17) F o (by kernel_rfl) (by kernel_rfl) ?hR ?hG (QI Zr 1) ⟨f,Y⟩ ?hA ?hend
 case hR =>
  intro t v w w' B h;unfold QnC at h |-;split at h
  ·rename_i p d
   simp only[List.lookup_cons,List.lookup_nil] at d
   split at d
   ·cases d;exact h.below B
   ·split at d
    ·cases d;exact h.below B
    ·cases d
  ·exact h
 case hG=>exact Y
 case hend=>exact fun ops vs w' b c=>hend ops vs w' (c 10 (by kernel_rfl)) (c 13 (by kernel_rfl)) (c 14 (by kernel_rfl)) b
 case hA =>
  repeat
   refine⟨fun a w b c K l=>?_,?_⟩
   focus first
    | obtain⟨i,-⟩:=c
      conv at i=>whnf;rhs;whnf
      have J:=Qk I b;have L:=Qk G b;go_simp;exact l _ _ Zr b Yz
    | obtain⟨i,-⟩:=c
      conv at i=>whnf;rhs;whnf
      go_simp;refine Xm (H.out w b) ?_;rintro D C ⟨k,q,rfl,s,A,f,g⟩;go_simp;exact l _ _ g (b.trans (g.mono b.size)) ⟨k,q,Yz,s,A,fun x hx=>Zt b.size (f x hx)⟩
    | obtain⟨i,-⟩:=c
      conv at i=>whnf;rhs;whnf
      go_simp;refine Xm (E.out w b) ?_;rintro D C ⟨k,q,rfl,s,A,f,g⟩;go_simp;exact l _ _ g (b.trans (g.mono b.size)) ⟨k,q,Yz,s,A,fun x hx=>Zt b.size (f x hx)⟩
  trivial
section
variable {w w' w2:World}{b most:Nat}{m:List (MFunc 6)}{M M':RM}{g g1:WG}
def QjH (lo:Nat) (M:RM) (v:Value) (w:World):Prop:=∃ vb vo,v=.agg #[Iv M.fin,vb,vo,Iv M.fuel]/\Qjg lo M.back vb w/\Qjg lo M.out vo w
theorem Qco (S:WAt w b most m M g) (ho:M.out.length<=1000000) (hb:M.back.length<=1000000) :
 Calls prog 37 #[Pv b 0] w fun e w'=>∃ v,e=.returned v/\QjH w.heap.size M v w'/\Below w.heap.size w w':=by
 obtain⟨po,co,eo⟩:=QaR S.out
 obtain⟨pb,cb,eb,-⟩:=S.back
 have I:=Qc (ZO w (.cells #[Iv 0,Nv,Nv,Iv 0] 44));have BR:=Qc (Qe w #[Iv 0,Nv,Nv,Iv 0] 44);have F:=S.below I.out;have q5:=Qb F.box 5 _ Yz;have q6:(w.alloc (.cells #[Iv 0,Nv,Nv,Iv 0] 44)).cell? ⟨b,6,none⟩=some g.vb:=Qb F.box 6 _ Yz;have q7:(w.alloc (.cells #[Iv 0,Nv,Nv,Iv 0] 44)).cell? ⟨b,7,none⟩=some g.vo:=Qb F.box 7 _ Yz;have q8:=Qb F.box 8 _ Yz;rw[eb] at q6
 rw[eo] at q7
 have HB:=Qc F.back;have HO:=Qc F.out;rw[eb] at HB
 rw[eo] at HO
 clear S F eo eb;go_enter func37,ntmps37
 go_upto_region 1 with fail
 generalize w.alloc (.cells #[Iv 0,Nv,Nv,Iv 0] 44)=K at I BR q5 q6 q7 q8 HB HO |-;generalize hR:w.heap.size=R at BR |-;have HR:=Qc hR;clear hR;have L:=Qc (ZO K (.cells #[Iv M.fin,.slice pb M.back.length cb,.slice po M.out.length co,Iv M.fuel] 44));have H:=Qc (Qe K #[Iv M.fin,.slice pb M.back.length cb,.slice po M.out.length co,Iv M.fuel] 44);go_upto_region 2 with fail
 have A:Hid (R≠K.heap.size):=by show _≠_;have:=XC BR.out;omega
 have D:Hid (w.heap.size<=K.heap.size):=I.out.size;generalize K.alloc (.cells #[Iv M.fin,.slice pb M.back.length cb,.slice po M.out.length co,Iv M.fuel] 44)=J at L H |-;generalize K.heap.size=Z at H A D |-;have CB:Hid (∀ o,Below J.heap.size J o->Calls prog 48 #[.slice pb M.back.length cb] o fun e w'=>Qcl o M.back e w'):=fun o bx=>Qc6 (WIn.cells (WIn.keep (fun k _ f=>bx.block k f) (fun _ h _=>h) (WIn.keep (fun k _ f=>L.out.block k f) (fun _ h _=>h) HB.out))) hb;have CO:Hid (∀ o,Below J.heap.size J o->Calls prog 48 #[.slice po M.out.length co] o fun e w'=>Qcl o M.out e w'):=fun o bx=>Qc6 (WIn.cells (WIn.keep (fun k _ f=>bx.block k f) (fun _ h _=>h) (WIn.keep (fun k _ f=>L.out.block k f) (fun _ h _=>h) (HO.out.lin (O:=fun _=>True) (fun _ _=>trivial))))) ho;have G:=Qc (I.out.trans (L.out.mono I.out.size));have W:=Qc (Blk.below BR.out L.out);refine wo2 (Qb H.out 1 _ Yz) (Qb H.out 2 _ Yz) CB CO _ _ Yz (Xg (by kernel_rfl)) Yz ?_;rintro af vs r ⟨l,i,u,U,N,T⟩ ⟨j,a,y,aa,ad,ac⟩ t b5;show wpList _ af _ [_,_,_] (QN _ vs [8,9,10,11,12,13,14]) r;simp only[QN,Act.put,List.setIfInBounds_toArray,List.set_cons_zero,List.set_cons_succ,u,y,t]
 have c:=Blk.below H.out b5;have ae:=Qc (Blk.below W.out b5);have B5:=Qc (G.out.trans (b5.mono G.out.size));have ah:Hid (Z<J.heap.size):=XC H.out;have E:=Qc (Xh N T);have C:=Qc (Xh ad ac);have V:=Qc (Xh U aa);have k0:=Qb c 0 _ Yz;have k1:=Qb c 1 _ Yz;have k2:=Qb c 2 _ Yz;have k3:=Qb c 3 _ Yz;have y0:=Qj c 0;have y1:=Qj c 1;have y2:=Qj c 2;have y3:=Qj c 3;have B:=Qh (Qh c 1 (.slice l M.back.length i)) 2 (.slice j M.out.length a);have B:Hid (((r.setCell ⟨Z,1,none⟩ (.slice l M.back.length i)).setCell ⟨Z,2,none⟩ (.slice j M.out.length a)).heap[Z]?=some (.cells #[Iv M.fin,.slice l M.back.length i,.slice j M.out.length a,Iv M.fuel] 44 (0,0))):=B.trans (by simp);have z:Hid (∀ k,k≠Z->((r.setCell ⟨Z,1,none⟩ (.slice l M.back.length i)).setCell ⟨Z,2,none⟩ (.slice j M.out.length a)).heap[k]?=r.heap[k]?):=fun k f=>by rw[Xd _ _ _ _ f,Xd _ _ _ _ f]
 have ag:Hid (r.heap.size=((r.setCell ⟨Z,1,none⟩ (.slice l M.back.length i)).setCell ⟨Z,2,none⟩ (.slice j M.out.length a)).heap.size):=by show _=_;simp
 have P:Hid (Below w.heap.size w ((r.setCell ⟨Z,1,none⟩ (.slice l M.back.length i)).setCell ⟨Z,2,none⟩ (.slice j M.out.length a))):=(B5.out.setCell (p:=⟨Z,1,none⟩) D.out _).setCell (p:=⟨Z,2,none⟩) D.out _;clear u y t U N T aa ad ac b5 CB CO c H q5 q6 q7 q8 HB HO I L;go_upto_region 3 with fail
 generalize (r.setCell ⟨Z,1,none⟩ (.slice l M.back.length i)).setCell ⟨Z,2,none⟩ (.slice j M.out.length a)=w6 at B z ag P |-;clear k0 k1 k2 k3 y0 y1 y2 y3;have d:=Qc ((z.out R A.out).trans ae.out);have e0:=Qb B.out 0 _ Yz;have e1:=Qb B.out 1 _ Yz;have e2:=Qb B.out 2 _ Yz;have e3:=Qb B.out 3 _ Yz;have r0:=Qb d.out 0 _ Yz;have r1:=Qb d.out 1 _ Yz;have r2:=Qb d.out 2 _ Yz;have r3:=Qb d.out 3 _ Yz;have z0:=Qj d.out 0;have z1:=Qj d.out 1;have z2:=Qj d.out 2;have z3:=Qj d.out 3;have ai:¬ R=Z:=A.out;go_wp2_with fail
 have Q:=QhG d.out (Iv M.fin) (.slice l M.back.length i) (.slice j M.out.length a) (Iv M.fuel);have q:w.heap.size<=R:=by rw[HR.out];exact Ze
 have B9:=(((P.out.setCell (p:=⟨R,0,none⟩) q (Iv M.fin)).setCell (p:=⟨R,1,none⟩) q (.slice l M.back.length i)).setCell (p:=⟨R,2,none⟩) q (.slice j M.out.length a)).setCell (p:=⟨R,3,none⟩) q (Iv M.fuel);have O9:∀ k,k≠R->((((w6.setCell ⟨R,0,none⟩ (Iv M.fin)).setCell ⟨R,1,none⟩ (.slice l M.back.length i)).setCell ⟨R,2,none⟩ (.slice j M.out.length a)).setCell ⟨R,3,none⟩ (Iv M.fuel)).heap[k]?=w6.heap[k]?:=fun k f=>by rw[Xd _ _ _ _ f,Xd _ _ _ _ f,Xd _ _ _ _ f,Xd _ _ _ _ f]
 generalize ((((w6.setCell ⟨R,0,none⟩ (Iv M.fin)).setCell ⟨R,1,none⟩ (.slice l M.back.length i)).setCell ⟨R,2,none⟩ (.slice j M.out.length a)).setCell ⟨R,3,none⟩ (Iv M.fuel))=w9 at Q B9 O9 |-
 have n:∀ x,J.heap.size<=x->w9.heap[x]?=r.heap[x]?:=fun x s=>by
  have h1:=ah.out;have h2:=XC W.out;exact(O9 x (by omega)).trans (z.out x (by omega))
 have f0:=Qb Q 0 _ Yz;have f1:=Qb Q 1 _ Yz;have f2:=Qb Q 2 _ Yz;have f3:=Qb Q 3 _ Yz;have X:=G.out.size;exact Xy (v:=.agg #[Iv M.fin,.slice l M.back.length i,.slice j M.out.length a,Iv M.fuel]) (by simp[results,results37,go_sem,f0,f1,f2,f3]) Yz ⟨_,Yz,⟨_,_,Yz,⟨l,i,Yz,V.out.1,QY E.out.1 (fun x s=>n x (E.out.2 x s)),fun x s=>Zt X (E.out.2 x s)⟩,⟨j,a,Yz,V.out.2,QY C.out.1 (fun x s=>n x (C.out.2 x s)),fun x s=>Zt X (C.out.2 x s)⟩⟩,B9⟩
end
def QgX {α:Type}(A:Lay α) (w w':World) (l:List α) (e:Ending):Prop:=∃ a' c',e=.returned (.slice a' l.length c')/\A.list.In w' (Qcr w.heap.size) l [.slice a' l.length c']/\Below w.heap.size w w'
def iv (l:List Int):List Value:=l.map (fun x=>Value.int .i64 x)
theorem Qku {lo:Nat}(h:w.ownsRow lo e 1 v l.length (iv l)) (c:∀ x∈l,I64 x):intsL.In w (Qcr lo) l [v] :=
 Qao.lay (A:=Lay.int) (e:=e) (xs:=iv l) ⟨h,fun i x a=>by
  have f:Lay.int.size=1:=rfl;rw[f,XL]
  have d:((iv l).drop i).take 1=[Iv x]:=by
   obtain⟨b,e⟩:=Zi a
   unfold iv;rw[<-List.map_drop,List.drop_eq_getElem_cons b]
   simp[e]
  rw[d]
  exact⟨Z,c x (Zm a)⟩⟩
theorem Qka (h:intsL.In w O l [.slice a m c]):∀ x∈l,I64 x:=by
 intro x b;obtain⟨i,d⟩:=List.mem_iff_getElem?.1 b
 obtain⟨g,o,f,_,_,_,_,e⟩:=Yf h d
 exact e.2
theorem QkO (h:intsL.In w O l [.slice a m c]) (n:0<l.length) :
 ∃ ad,a=some ad/\ad.block<w.heap.size/\∀ j v,(iv l)[j]?=some v->w.cell? (ad.add j)=some v:=by
 obtain⟨g,o,e,_,d,_⟩:=ZH h n
 refine⟨⟨g,o,none⟩,e,d,fun j v i=>?_⟩
 have b:j<l.length:=by have:=(Zi i).1;simpa[iv] using this
 obtain⟨q,p,f,_,_,k⟩:=ZH h b
 rw[e] at f
 cases f
 rw[show (⟨g,o,none⟩:Addr).add j=⟨g,o+j,none⟩ from by unfold Addr.add;split<;>simp_all,k,<-i]
 simp[iv,List.getD,b]
theorem QcM (l:List Int):(iv l).length=l.length:=by simp[iv]
theorem QmM (l:List Int):∀ v∈iv l,v.oneCell'=true:=by
 intro v a;obtain⟨x,_,rfl⟩:=List.mem_map.1 a
 rfl
theorem underIs:prog.underlying 76=some (.slice 3):=by kernel_rfl
theorem infoI:(prog.info? 3).map (fun i=>(i.zero,i.size,i.bytes))=some (some (Iv 0),1,8):=by kernel_rfl
theorem infoI1:(prog.info? 3).map (·.size)=some 1:=by kernel_rfl
theorem QaX (l:List Int) (p:Option Addr) (c:Nat) (w:World) (i:intsL.In w All l [.slice p l.length c]) (t:l.length<=4294967296) :
 Calls prog 231 #[.slice p l.length c] w fun e w'=>QgX Lay.int w w' l e:=by
 have u:Hid _:=i;have y:Hid _:=Qka i;clear i;have q:=fun s=>run_make_row' (P:=prog) 76 3 (Iv 0) 8 underIs infoI Z .i64 .i64 l.length (by omega) (by omega) s
 have d:(w.alloc (.cells (madeCells #[Iv 0] l.length) 3)).heap[w.heap.size]?=some (.cells (madeCells #[Iv 0] l.length).toList.toArray 3 (0,0)):=by
  rw[Array.toArray_toList];exact Qe w _ _
 have h:(iv l).length=Nat.min l.length l.length:=by rw[QcM];exact(Nat.min_self _).symm
 have f:Hid (0<(iv l).length->(some ⟨w.heap.size,0,none⟩:Option Addr)=some ⟨w.heap.size,0,none⟩/\∃ k,p=some k/\∀ j v,(iv l)[j]?=some v->(w.alloc (.cells (madeCells #[Iv 0] l.length) 3)).cell? (k.add j)=some v):=by
  intro r;rw[QcM] at r
  obtain⟨k,e,o,A⟩:=QkO u.out r
  exact⟨Z,k,e,fun j v x=>(XU (w:=w) (a:=k.add j) (Below.heap_alloc _ _ _ (by unfold Addr.add;split<;>exact o))).trans (A j v x)⟩
 have g:0+(iv l).length<=(madeCells #[Iv 0] l.length).toList.length:=by rw[QcM,toList_madeCells_one];simp
 have m:Hid (Below w.heap.size w (w.alloc (.cells (madeCells #[Iv 0] l.length) 3))):=(Below.refl _ w).alloc Ze _;go_enter func231,ntmps231
 go_wp2_with (refine wpList_copy_splice Z (.tmp 7) (.tmp 8) 76 76 Z 3 underIs infoI1 _ _ l.length l.length l.length c Z Z w.heap.size 0 (madeCells #[Iv 0] l.length).toList 3 d (iv l) h f.out g (QmM l) w.heap.size w m.out Ze ?_)
 ·intro w' n b;clear f g m d h
  have R:Hid (QgX Lay.int w w' l (.returned (.slice (some ⟨w.heap.size,0,none⟩) l.length l.length))):=by
   have z:splice (madeCells #[Iv 0] l.length).toList 0 (iv l)=iv l:=by
    rw[toList_madeCells_one];simp[splice,QcM]
   rw[z] at n
   refine⟨_,_,Z,Qku ⟨by rw[QcM,XL],Or.inr ⟨w.heap.size,l.length,(iv l).toArray,Z,Ze,n.out,Ze,by unfold maxLen;omega,by simp[QcM],?_⟩⟩ y.out,b⟩
   rw[XL,<-QcM l];simp
  clear n b q;go_wp2
  go_ret;exact R.out
theorem QaJ {rest:List Oper}{o:Oper}{a:Act}{Q:Exit->Act->World->Prop}(c:o.guard=none) (s x:Operand) (t:TypeId)
 (e:o.op=.call { callee:=.builtin .append,args:=#[s,x],argTypes:=#[t,t] }) (v d:Value) (g:a.eval s=v) (f:a.eval x=d) (b:(Builtin.append_ #[t,t] o.type #[v,d]).run P w=.ok v w)
 (h:wpList P ops Q rest (a.put o.dst v) w):wpList P ops Q (o::rest) a w:=by
 refine wpList_plain c fun K i=>?_;unfold Oper.wp;simp[execOp,e,resolve,invoke,builtin,g,f,b,Result.andThen]
 exact i _ _ h
abbrev FV:Value:=.func (.func 261) #[] #[]
theorem Qim (n:Nat) (J:Qiy 261 n) (l m:List (TT n)) (a b:Option Addr) (c d:Nat) (w:World) (K:LIn w All l a) (G:LIn w All m b) (aa:l.length<=100000) (u:∀ x∈l,x.count<=100000) :
 Calls prog 260 #[.slice a l.length c,.slice b m.length d,FV] w fun e w'=>ZL e (l=m)/\Below w.heap.size w w':=by
 have IH:Hid (Qiy 261 n):=J;have hl:Hid (LIn w All l a):=K;have hm:Hid (LIn w All m b):=G;have U:Hid (∀ x∈l,x.count<=100000):=u;clear J K G u;by_cases f:l.length=m.length
 ·have F:((l.length:Int) != (m.length:Int))=false:=by simp;omega
  have E:Hid (l.length=m.length):=f;clear f;go_enter func260,ntmps260
  go_wp2_with fail
  go_loopw [17] (fun i wr=>∃ q:Nat,q<=l.length/\i=Iv q/\(∀ j,j<q->l[j]?=m[j]?)/\Below w.heap.size w wr) (fun i _=>l.length - (intOf i).toNat)
  case atStart=>exact⟨0,Xb _,Z,fun j hj=>by omega,Zr⟩
  case round =>
   obtain⟨q,hq,rfl,v,D⟩:=hrel
   have A:Hid (∀ j,j<q->l[j]?=m[j]?):=v;have B:Hid (Below w.heap.size w wr):=D;clear v D;by_cases P:q<l.length
   ·have H:l[q]?=some l[q]:=Zg P;have S:q<m.length:=by have:=E.out;omega
    have L:m[q]?=some m[q]:=Zg S;generalize l[q]=x at H;generalize m[q]=y at L;obtain⟨g,o,W,O,rfl,_,V,d1,d2,hk⟩:=LIn.at (hl.out.below B.out) H
    obtain⟨g',o',X,d',rfl,_,Q,d4,d5,I⟩:=LIn.at (hm.out.below B.out) L
    have C:Hid (∀ z,Below wr.heap.size wr z->Calls prog 261 #[Tv x W O,Tv y X d'] z fun e w'=>ZL e (x=y)/\Below z.heap.size z w') :=
     fun z D=>IH.out x y W X O d' _ (hk.below D) (I.below D) (U.out x (Zm H))
    have s:Hid (l[q]?=some x):=H;have t:Hid (m[q]?=some y):=L;have hg:g<wr.heap.size:=Xi wr ⟨g,o+q*3,none⟩ V;have ad:g'<wr.heap.size:=Xi wr ⟨g',o'+q*3,none⟩ Q;clear hk I H L;simp only[Tv] at C
    generalize x.kind=kx at C V;generalize x.r=rx at C d1;generalize x.len=lx at C d2;generalize y.kind=ky at C Q;generalize y.r=ry at C d4;generalize y.len=ly at C d5;have ac:(0:Int)<=q:=by omega
    have T:(q:Int)<l.length:=by omega
    have ab:(q:Int)<m.length:=by omega
    go_wp2_with fail
    have N:Below wr.heap.size wr ((wr.alloc (.cells #[Iv kx,Iv rx,.slice W lx O] 105)).alloc (.cells #[Iv ky,Iv ry,.slice X ly d'] 105)):=((Below.refl _ wr).alloc Ze _).alloc (by simp) _;refine(C.out _ N).mono ?_
    rintro r w5 ⟨⟨p,rfl,M⟩,b5⟩;have HB:Hid (Below w.heap.size w w5):=(B.out.trans (N.mono B.out.size)).trans (b5.mono (Zt B.out.size N.size));clear C b5 B V d1 d2 Q d4 d5 N
    cases p with
    | true =>
      have k:x=y:=M.1 Z
      have A2:Hid (∀ j,j<q+1->l[j]?=m[j]?):=fun j hj=>by
       by_cases e:j=q
       ·subst e;rw[s.out,t.out,k]
       ·exact A.out j (by omega)
      clear M k s t A;go_wp2
      go_roundw
      case rel=>exact⟨q+1,by omega,by go_num,A2.out,HB.out⟩
      case measure=>simp[intOf];omega
    | false =>
      have k:Hid (¬ l=m):=fun h=>by
       have h1:=s.out;rw[h,t.out] at h1
       have:=M.2 (Xn h1).symm
       cases this
      clear M s t A;go_wp2
      go_ret;exact⟨ZL.no k.out,HB.out⟩
   ·have R:Hid (l=m):=by
     have:=E.out
     refine List.ext_getElem? (fun i=>?_);by_cases hi:i<q
     ·exact A.out i hi
     ·rw[Xk (by omega),Xk (by omega)]
    have T:¬ (q:Int)<l.length:=by omega
    clear A;go_wp2
    go_ret;exact⟨ZL.yes R.out,B.out⟩
 ·have F:((l.length:Int) != (m.length:Int))=true:=by simp;omega
  have E:Hid (l.length≠m.length):=f;clear f;go_enter func260,ntmps260
  go_wp2
  go_ret;exact⟨ZL.no (fun h=>E.out (by rw[h])),Zr⟩
theorem same_any:∀ n,Qiy 261 n:=by
 intro n
 induction n with
 | zero=>intro t;exact Empty.elim t
 | succ n ih =>
   intro t u a b c d w y D J;have i:∀ x∈t.2.2,x.count<=100000:=fun x H=>by have:=t.count_kid H;omega
   have f:t.2.2.length<=100000:=by have:=t.len_lt_count;rw[t.len_eq] at this;omega
   have C:Hid (∀ g,Below w.heap.size w g->Calls prog 260 #[.slice a t.2.2.length c,.slice b u.2.2.length d,FV] g fun e K=>ZL e (t.2.2=u.2.2)/\Below g.heap.size g K) :=
    fun g z=>Qim n ih t.2.2 u.2.2 a b c d g (y.below z) (D.below z) f i
   rw[TT.eq_iff]
   simp only[Tv,TT.len_eq] at C |-
   generalize t.2.2.length=p at C |-;generalize u.2.2.length=q at C |-;generalize (t.2.2=u.2.2)=E at C |-;generalize t.kind=k;generalize t.r=r;generalize u.kind=o;generalize u.r=s;clear i f J y D ih t u;by_cases j:k=o
   ·subst j;by_cases l:r=s
    ·subst l;go_enter func261,ntmps261
     go_wp2_with fail
     have m:Below w.heap.size w ((w.alloc (.cells #[Iv k,Iv r,.slice a p c] 105)).alloc (.cells #[Iv k,Iv r,.slice b q d] 105)):=((Below.refl _ w).alloc Ze _).alloc (by simp) _;refine(C.out _ m).mono ?_
     rintro e G ⟨⟨v,rfl,F⟩,A⟩;have B:Hid (Below w.heap.size w G):=m.trans (A.mono m.size);have V:Hid (v=true↔E):=F;clear A C F m
     cases v
     all_goals
      go_wp2
      go_ret
     ·exact⟨ZL.no (fun h=>by have:=V.out.2 h.2.2;cases this),B.out⟩
     ·exact⟨ZL.yes (by have:=V.out;simpa using this),B.out⟩
    ·have L:(r==s)=false:=by simpa using l
     have R:Hid (¬ r=s):=l;clear l;go_enter func261,ntmps261
     go_wp2_with fail
     go_ret;exact⟨ZL.no (fun h=>R.out h.2.1),((Below.refl _ w).alloc Ze _).alloc (by simp) _⟩
   ·have I:(k==o)=false:=by simpa using j
    have R:Hid (¬ k=o):=j;clear j;go_enter func261,ntmps261
    go_wp2_with fail
    go_ret;exact⟨ZL.no (fun h=>R.out h.1),((Below.refl _ w).alloc Ze _).alloc (by simp) _⟩
section
variable {α:Type}{A:Lay α}{e:TypeId}{w w':World}{lo g n q s:Nat}{l:List α}{xs:List Value}{x:α}{ds:List Value}
theorem Qao.start (q:A.size=s) (h:w.ownsRow lo e s (.slice (some ⟨g,0,none⟩) m m) m xs):Qao A e w lo (.slice (some ⟨g,0,none⟩) 0 m) (l.take 0) []:=by
 subst q;obtain⟨t,p⟩:=h
 rcases p with ⟨a,_⟩|⟨r,j,d,a,n,o,k,c,f,b⟩
 ·simp at a
 ·simp only[Value.slice.injEq,Option.some.injEq,Addr.mk.injEq,and_true,true_and] at a
  obtain⟨rfl,rfl⟩:=a
  exact⟨⟨by simp,.inr ⟨g,m,d,Z,n,o,Xb _,c,f,by simp⟩⟩,fun i x h=>by simp at h⟩
theorem Qao.blk (h:Qao A e w lo (.slice (some ⟨g,0,none⟩) q n) l xs) (m:A.size=s):∃ c,Blk w g c e/\c.size=n*s:=by
 subst m;obtain⟨u,j⟩:=h.own
 rcases j with ⟨a,_⟩|⟨r,i,b,a,t,o,k,p,d,f⟩
 ·simp at a
 ·simp only[Value.slice.injEq,Option.some.injEq,Addr.mk.injEq,and_true,true_and] at a
  obtain⟨rfl,-,rfl⟩:=a
  exact⟨b,o,d⟩
theorem Qao.fillq (h:Qao A e w lo (.slice (some ⟨g,0,none⟩) q n) (l.take q) xs) (f:A.size=s) (j:q<l.length) (i:l.length=n) (b:l[q]?=some x) (c:A.In w (fun k=>lo<=k/\k≠g) x ds) (d:w'=w.setCells g (0+q*s) ds) :
 ∃ xs',Qao A e w' lo (.slice (some ⟨g,0,none⟩) (q+1) n) (l.take (q+1)) xs':=by
 subst f d;have a:(l.take q).length=q:=by simp;omega
 have T:l.take (q+1)=l.take q++[x]:=by rw[XV,b];rfl
 have:=Qao.fill (l:=l.take q) (g:=g) (n:=n) (by rw[a];exact h) c (by omega)
 rw[a] at this
 rw[T,XK]
 exact⟨_,this⟩
theorem Qao.done (h:Qao A e w lo (.slice (some ⟨g,0,none⟩) q n) (l.take q) xs) (a:q=l.length):A.list.In w (Qcr lo) l [.slice (some ⟨g,0,none⟩) l.length n]:=by
 have:=h.lay
 subst a;rw[List.take_length] at this
 exact this
end
theorem QbQ {z:Value}{s:Nat}(h:(prog.info? t).map (fun i=>(i.zero,i.size,i.bytes))=some (some z,s,b)):∃ i,prog.info? t=some i/\i.zero=some z/\i.size=s/\i.bytes=b:=by
 obtain⟨i,a,e⟩:=Option.map_eq_some_iff.1 h
 simp only[Prod.mk.injEq] at e
 exact⟨i,a,e⟩
theorem infoIns:(prog.info? 78).map (fun i=>(i.zero,i.size,i.bytes))=some (some (.agg #[Iv 0,Iv 0,Iv 0,Iv 0,Iv 0,Iv 0,Nv,Nv]),8,96):=by kernel_rfl
theorem infoBlock:(prog.info? 86).map (fun i=>(i.zero,i.size,i.bytes))=some (some (.agg #[Iv 0,Nv,Nv,Iv 0,Iv 0,Iv 0,Nv,Nv,Iv 0,Nv,Nv,Nv]),12,208):=by kernel_rfl
theorem infoFunc:(prog.info? 89).map (fun i=>(i.zero,i.size,i.bytes))=some (some (.agg #[Iv 0,Nv,Nv,Nv]),4,80):=by kernel_rfl
section
open Go.Deep
def Wt {H:Type}(P:Program) (t:TypeId) (d:DataW H):Prop:=∀ n∈d.weights P t,n<=reachBytes
def Qy (P:Program) (t:TypeId){α:Type}(A:Lay α) (n:Nat) (Bd:α->Prop):Prop :=
 P.cellsOf t=A.size/\∀ {H:Type} {enc:TypeId × Value->H} {w:World} {base:Nat} {spare:Nat->Bool} {held:Bool} {fuel:Nat} {cs:List Value} {x:DataW H × List MemPlace},
  fuel<=n->DataW.trod enc P w base spare held fuel t cs=some x->Wt P t x.1->∃ d,A.In w (fun _=>True) d cs/\Bd d
theorem Qy.int (n:Nat) (h:P.underlying t=some (.int .i64)) (c:P.cellsOf t=1):Qy P t Lay.int n (fun _=>True) :=
 ⟨c,fun _ b _=>by
  obtain⟨k,e,_,a⟩:=DataW.trod_int h b
  exact⟨k,⟨e,Go.bounds_i64 a⟩,Y⟩⟩
theorem Qbf {H:Type}{P:Program}{e:TypeId}:∀ {l:List (DataW H)}{d:DataW H},d∈l->∀ n∈d.weights P e,n∈DataW.weightsAll P e l
 | d0::l,d,h,n,hn=>by
   simp only[DataW.weightsAll,List.mem_append]
   rcases List.mem_cons.1 h with rfl | h
   ·exact .inl hn
   ·exact .inr (Qbf h n hn)
theorem Qy.list {α:Type}{A:Lay α}{Bd:α->Prop}(h:P.underlying t=some (.slice e)) (hc:P.cellsOf t=1) (hA:Qy P e A n Bd) (G:0<A.size) (S:0<P.bytesOf e):Qy P t A.list n (fun l=>l.length<1152921504606846976) :=
 ⟨hc,fun {H ad w D Q W aa cs x} hf h' hw=>by
  rcases DataW.trod_slice h h' with ⟨L,_⟩|⟨a,s,R,c,f,q,rfl,L,U,hb,hl,hm,V,T,_,_⟩
  ·exact⟨[],by rw[L];exact Yg A _ _ _ _,by simp⟩
  ·have ae:(c.length+f.length)*P.bytesOf e<=reachBytes:=hw _ (by rw[U];simp[DataW.weights,h])
   have ab:s<1152921504606846976:=by
    have h1:c.length*1<=(c.length+f.length)*P.bytesOf e:=Nat.mul_le_mul (by omega) S;have h2:reachBytes<1152921504606846976:=by decide
    omega
   have B:∀ i,i<s->∃ y,c[i]?=some y/\Wt P e y.1:=fun i v=>by
    refine⟨c[i]'(by omega),Zg (by omega),fun k hk=>hw k ?_⟩
    rw[U]
    simp only[DataW.weights,h,List.mem_cons,List.mem_append]
    exact .inr (.inl (Qbf (List.mem_map_of_mem (List.getElem_mem (by omega))) k hk))
   obtain⟨l,M,hp⟩:=Qkb (P:=fun i (d:α)=>∃ g,w.cells? D (a.add (i*A.size)) A.size=some g/\A.In w (fun _=>True) d g) s (fun i v=>by
    have I:=T i v;obtain⟨y,hy,J⟩:=B i v
    rw[hy,hA.1] at I
    rw[Option.bind_eq_some_iff] at I
    obtain⟨g,m,O⟩:=I
    obtain⟨d,F,_⟩:=hA.2 (by omega) O J
    exact⟨d,g,m,F⟩)
   refine⟨l,⟨some a,R,by rw[L,M],fun i x X=>?_⟩,by omega⟩
   obtain⟨g,m,F⟩:=hp i x X
   obtain⟨_,ac,o⟩:=World.cells?_some m
   obtain⟨b,u,E⟩:=a
   have p:E=none:=by
    have v:0<l.length:=Nat.lt_of_le_of_lt (Xb i) (Zi X).1;obtain⟨K,z,N⟩:=hp 0 l[0] (Zg v)
    have r:0<K.length:=by rw[A.len N];exact G
    have:=(World.cells?_some z).2.2 0 G
    rw[Zg r] at this
    simpa[Addr.add] using World.cell?_spot this
   subst p
   have C:∀ j,j<A.size->w.cell? ⟨b,u+i*A.size+j,none⟩=g[j]?:=fun j hj=>by
    have:=o j hj
    rw[Go.WideShapes.add_plain,Go.WideShapes.add_plain] at this
    exact this
   refine⟨b,u,g,Z,Y,?_,C,F⟩
   have r:0<g.length:=by rw[A.len F];exact G
   have:=C 0 G
   rw[Zg r] at this
   exact Xi w _ this⟩
def QH (P:Program) (fs:Array Field):Nat->Nat->{α:Type}->Lay α->Nat->(α->Prop)->Prop:=fun i o α A n Bd =>
 ∀ (H:Type) (enc:TypeId × Value->H) (w:World) (base:Nat) (spare:Nat->Bool) (held:Bool) (fuel:Nat) (cs:List Value) (xs:List (DataW H × List MemPlace)),
  fuel<=n->cs.length=o+A.size->xs.length=fs.size->(∀ (j:Nat) (f:Field),fs[j]?=some f->DataW.trod enc P w base spare held fuel f.type ((cs.drop f.offset).take (P.cellsOf f.type))=xs[j]?) ->
  (∀ (j:Nat) (f:Field) x,fs[j]?=some f->xs[j]?=some x->Wt P f.type x.1)->∃ d,A.In w (fun _=>True) d (cs.drop o)/\Bd d
theorem QH.last {fs:Array Field}{o:Nat}{f:Field}{α:Type}{A:Lay α}{k:α->Prop}(a:fs[i]?=some f) (m:f.offset=o) (j:Qy P f.type A n k):QH P fs i o A n k:=by
 intro H q w l b c e u y t z x h s;have g:=h i f a;have v:i<fs.size:=(Array.getElem?_eq_some_iff.1 a).1;rw[Zg (by omega),m,j.1] at g
 obtain⟨d,r,p⟩:=j.2 t g (s i f _ a (Zg (by omega)))
 refine⟨d,?_,p⟩
 rwa [XO (by simp;omega)] at r
theorem QH.cons {fs:Array Field}{o:Nat}{f:Field}{α β:Type}{A:Lay α}{B:Lay β}{s:α->Prop}{r:β->Prop}(a:fs[i]?=some f) (t:f.offset=o) (k:Qy P f.type A n s) (D:QH P fs (i+1) (o+A.size) B n r):QH P fs i o (A.pair B) n (fun x=>s x.1/\r x.2):=by
 intro H C w p b j q G I m F z h l;have g:=h i f a;have E:i<fs.size:=(Array.getElem?_eq_some_iff.1 a).1;rw[Zg (by omega),t,k.1] at g
 obtain⟨d,y,v⟩:=k.2 m g (l i f _ a (Zg (by omega)))
 have J:(A.pair B).size=A.size+B.size:=rfl;obtain⟨e,u,c⟩:=D _ _ _ _ _ _ _ _ _ m (by omega) z h l
 refine⟨(d,e),⟨_,_,?_,y,u⟩,v,c⟩
 rw[<-List.drop_drop,List.take_append_drop]
theorem Qy.struct {fs:Array Field}{α:Type}{A:Lay α}{p:α->Prop}(h:P.underlying t=some (.struct fs)) (i:P.cellsOf t=A.size) (E:QH P fs 0 0 A n p):Qy P t A n p :=
 ⟨i,fun {H B w l c g o G x} F C D=>by
  obtain⟨I,m,rfl,s,a,b,e⟩:=DataW.trod_struct h C
  obtain⟨d,v,r⟩:=E _ _ _ _ _ _ _ _ _ (by omega) (by rw[a,i];omega) b e (fun j f y z u k q=>D k (by
   rw[s]
   simp only[DataW.weights,h]
   exact DataW.weights_mem_each (j:=j) (t:=f.type) (d:=y.1) (by simp[z]) (by simp[u]) k q))
  exact⟨d,by simpa using v,r⟩⟩
theorem Qy.via {α β:Type}{A:Lay α}{f:β->α}{a:α->Prop}(h:Qy P t A n a) (g:α->β) (b:∀ d,f (g d)=d):Qy P t (A.via f) n (fun x=>a (f x)) :=
 ⟨h.1,fun c j k=>by
  obtain⟨d,i,e⟩:=h.2 c j k
  exact⟨g d,by show A.In _ _ (f (g d)) _;rw[b];exact i,by show a (f (g d));rw[b];exact e⟩⟩
theorem own:ownKnob prog.godebug=none:=by kernel_rfl
theorem laidOut:laidOutB prog=true:=by kernel_rfl
theorem fieldsT:∃ f0 f1 f2:Field,prog.underlying 105=some (.struct #[f0,f1,f2]) /\
 (f0.offset=0/\prog.cellsOf f0.type=1/\prog.underlying f0.type=some (.int .i64))/\(f1.offset=1/\prog.cellsOf f1.type=1/\prog.underlying f1.type=some (.int .i64)) /\
 (f2.offset=2/\prog.cellsOf f2.type=1/\f2.type=80) :=
 ⟨_,_,_,underlying105,⟨Z,by kernel_rfl,by kernel_rfl⟩,⟨Z,by kernel_rfl,by kernel_rfl⟩,⟨Z,by kernel_rfl,Z⟩⟩
theorem QmT (n:Nat):Qy prog 105 (Lay.tt n) n (fun _=>True) :=
 ⟨by kernel_rfl,fun {H k w g d f b s x} h m y=>by
  obtain⟨r,v,u,e,l,p,q⟩:=fieldsT
  obtain⟨t,a,c,o,i,j⟩:=Qmr (ti:=0) underlying80 e (by kernel_rfl) l p q n b h m
  exact⟨t,⟨a,c,o,i,j⟩,Y⟩⟩
theorem QaQ (n:Nat):Qy prog 3 Lay.int n (fun _=>True):=Qy.int n underlying3 (by kernel_rfl)
theorem QlV (n:Nat):Qy prog 2 Lay.int n (fun _=>True):=Qy.int n underlying2 (by kernel_rfl)
theorem QfY (n:Nat):Qy prog 80 (Qo n) n (fun l=>l.length<1152921504606846976):=Qy.list underlying80 (by kernel_rfl) (QmT n) (by show 0<3;decide) (by rw[show prog.bytesOf 105=40 from by kernel_rfl];decide)
end
def QiP {α:Type}(A:Lay α) (w w':World) (x:α) (e:Ending):Prop:=∃ ds:List Value,e=.returned (.agg ds.toArray)/\A.In w' (Qcr w.heap.size) x ds/\Below w.heap.size w w'
theorem Qm1 (a:World) (z:Array Value) (t:TypeId)(c:cs.length=z.size):(a.alloc (.cells z t)).there a.heap.size 0 cs.toArray.size/\Blk ((a.alloc (.cells z t)).setCells a.heap.size 0 cs) a.heap.size cs.toArray t/\Below a.heap.size a ((a.alloc (.cells z t)).setCells a.heap.size 0 cs):=by
 have b:=Blk.new a z t;refine⟨Blk.there b (by simp[c]),?_,?_⟩
 ·have d:Blk (a.alloc (.cells z t)) a.heap.size ([]++z.toList).toArray t:=b;exact Blk.sets cs [] z.toList _ (by simpa using c) d
 ·exact QJ Ze cs _ _ 0 (Zc a _)
theorem Blk.setsA {c:Array Value}(h:Blk w R c t) (a:List Value) (b:a.length=c.size):Blk (w.setCells R 0 a) R a.toArray t:=Blk.sets a [] c.toList w (by simpa using b) h
theorem infoType0:(prog.info? 105).map (fun i=>(i.zero,i.size,i.bytes))=some (some (.agg #[Iv 0,Iv 0,Nv]),3,40):=by kernel_rfl
theorem Qbl {z:Value}(h:(prog.info? t).map (fun i=>(i.zero,i.size,i.bytes))=some (some z,s,b)):(prog.info? t).map (·.size)=some s:=by
 obtain⟨i,a,-,c,-⟩:=QbQ h
 rw[a];simp[c]
theorem Qb0 {fn:Func}{R:Ending->World->Prop}{a:Act}{t:Tmp}{b l:TypeId}{c:Array Value}{d:TypeDesc}(g:fn.results=#[.cell t b]) (f:a.tmps.getD t undef=Pv B 0) (m:a.defers=[]) (k:Blk w B c l)
 (i:prog.underlying b=some d) (j:d.isRow=true) (hi:(prog.info? b).map (·.size)=some c.size) (h:R (.returned (.agg c)) w):bodyPost prog fn R .ret a w:=by
 refine Xy ?_ m h;have e:=run_loadVar_mid (P:=prog) w B 0 b c.toList d (Blk.range (by simpa using k)) i j (by simpa using hi);simp only[Array.toArray_toList] at e
 rw[Za] at f
 simp[results,g,f,asAddr,e]
theorem Z3 {α:Type}{A:Lay α}{F K:FuncId}{l:List α}
 (hF:F=122/\A.size=3\/F=186/\A.size=8\/F=124/\A.size=12\/F=76/\A.size=4)
 (S:Qaj K) (X:A.list.In w All l [.slice p l.length c]) (hb:l.length<=4294967296) (G:∀ (w:World) (O:Nat->Prop) (x:α) (ds:List Value),A.In w O x ds->∀ v∈ds,v.oneCell'=true)
 (U:∀ x∈l,∀ ds wx,A.In wx All x ds->Calls prog K #[.agg ds.toArray] wx fun e w'=>QiP A wx w' x e) :
 Calls prog F #[.slice p l.length c,.func (.func K) #[] #[]] w fun e w'=>QgX A w w' l e:=by
 have hl:=Qf X;have hf:=Qf U;have h1:=Qf G;have hE:∀ (args:Array Value) (w:World),(callFunc K args).run prog w=.ok (.enter K args) w:=S;clear X U G S;rcases hF with ⟨rfl,s⟩|⟨rfl,s⟩|⟨rfl,s⟩|⟨rfl,s⟩
 have Q:=underlying105;have r:=Qbl infoType0;have V:=Qf fun (wx:World) (cs:List Value) (h:cs.length=3)=>Qm1 wx #[Iv 0,Iv 0,Nv] 105 h;obtain⟨B,t,f,m,d⟩:=QbQ infoType0
 obtain⟨z,y,a,b⟩:=run_make_full (P:=prog) w w.heap.size 80 105 B _ 3 underlying80 t f m .i64 .i64 l.length (by rw[d];omega) (by unfold maxLen;omega) Ze
 clear t f m d;have H:Hid (Below w.heap.size w z):=(Below.refl _ w).grown b Ze (fun k r=>by cases r);have hr:=Qf (Qao.start (l:=l) s a);clear b a;go_enter func122,ntmps122
 rotate_left
 have Q:=underlying78;have r:=Qbl infoIns;have V:=Qf fun (wx:World) (cs:List Value) (h:cs.length=8)=>Qm1 wx #[Iv 0,Iv 0,Iv 0,Iv 0,Iv 0,Iv 0,Nv,Nv] 78 h;obtain⟨B,t,f,m,d⟩:=QbQ infoIns
 obtain⟨z,y,a,b⟩:=run_make_full (P:=prog) w w.heap.size 79 78 B _ 8 underlying79 t f m .i64 .i64 l.length (by rw[d];omega) (by unfold maxLen;omega) Ze
 clear t f m d;have H:Hid (Below w.heap.size w z):=(Below.refl _ w).grown b Ze (fun k r=>by cases r);have hr:=Qf (Qao.start (l:=l) s a);clear b a;go_enter func186,ntmps186
 rotate_left
 have Q:=underlying86;have r:=Qbl infoBlock;have V:=Qf fun (wx:World) (cs:List Value) (h:cs.length=12)=>Qm1 wx #[Iv 0,Nv,Nv,Iv 0,Iv 0,Iv 0,Nv,Nv,Iv 0,Nv,Nv,Nv] 86 h;obtain⟨B,t,f,m,d⟩:=QbQ infoBlock
 obtain⟨z,y,a,b⟩:=run_make_full (P:=prog) w w.heap.size 87 86 B _ 12 underlying87 t f m .i64 .i64 l.length (by rw[d];omega) (by unfold maxLen;omega) Ze
 clear t f m d;have H:Hid (Below w.heap.size w z):=(Below.refl _ w).grown b Ze (fun k r=>by cases r);have hr:=Qf (Qao.start (l:=l) s a);clear b a;go_enter func124,ntmps124
 rotate_left
 have Q:=underlying89;have r:=Qbl infoFunc;have V:=Qf fun (wx:World) (cs:List Value) (h:cs.length=4)=>Qm1 wx #[Iv 0,Nv,Nv,Nv] 89 h;obtain⟨B,t,f,m,d⟩:=QbQ infoFunc
 obtain⟨z,y,a,b⟩:=run_make_full (P:=prog) w w.heap.size 22 89 B _ 4 underlying22 t f m .i64 .i64 l.length (by rw[d];omega) (by unfold maxLen;omega) Ze
 clear t f m d;have H:Hid (Below w.heap.size w z):=(Below.refl _ w).grown b Ze (fun k r=>by cases r);have hr:=Qf (Qao.start (l:=l) s a);clear b a;go_enter func76,ntmps76
 rotate_left
 all_goals
  go_wp2_with fail
  go_loopw [13] (fun i wr=>∃ q:Nat,q<=l.length/\i=Iv q/\(∃ e xs,Qao A e wr w.heap.size (.slice (some ⟨w.heap.size,0,none⟩) q l.length) (l.take q) xs)/\Below w.heap.size w wr) (fun i _=>l.length - (intOf i).toNat)
  case atStart=>exact⟨0,Xb _,Yz,⟨_,_,hr.out⟩,H.out⟩
  case round =>
   obtain⟨q,hq,rfl,⟨e,xs,hA⟩,hB⟩:=hrel
   have HA:=Qf hA;have E:=Qf hB;clear hA hB H hr y;obtain⟨D,ab⟩:∃ D,D=wr:=⟨_,Yz⟩
   subst ab;by_cases aa:q<l.length
   rotate_left
   ·have L:¬ (q:Int)<l.length:=by omega
    have R:Hid (QgX A w D l (.returned (.slice (some ⟨w.heap.size,0,none⟩) l.length l.length))):=⟨_,_,Yz,HA.out.done (by omega),E.out⟩;clear HA E;go_wp2
    go_ret;exact R.out
   have L:(q:Int)<l.length:=by omega
   have M:l[q]?=some l[q]:=Zg aa;generalize l[q]=x at M;obtain⟨g,o,ds,rfl,-,-,E3,I3⟩:=Yf (Ya hl.out E.out) M
   have W:=A.len I3;rw[s] at W E3
   have RG:=Qf (show D.rangeAt g (o+q*_) ds from fun j v hj=>(E3 j (by rw[<-W];exact(Zi hj).1)).trans hj);have TO:=Qf (all_oneCell_toArray (h1.out _ _ _ _ I3));obtain⟨M1,M2,M3⟩:=V.out D ds W
   have HM:=Qf M1;have I:=Qf (r.trans (congrArg some W.symm));have CC:=Qf (hf.out x (Zm M) ds _ (Ya I3 M3));have B2:=Qf M2;have J:=Qf M3;have HX:=Qf M;clear M1 M2 M3 E3 I3 M W;go_upto_region 5 with (first | (refine wpList_load_mid Yz _ (.tmp 16) Yz g _ Yz ds _ RG.out Q Yz I.out ?_) | (refine wpList_store_mid Yz _ (.tmp 7) (.tmp 17) Yz D.heap.size 0 ds.toArray Yz Yz HM.out I.out TO.out ?_))
   clear HM RG TO;generalize World.setCells _ _ _ _=w3 at B2 J CC |-;generalize D.heap.size=Z at B2 |-;have RZ:Hid (w3.rangeAt Z 0 ds):=Blk.range B2.out;clear B2;go_wp2_with (refine wpList_load_mid Yz _ (.tmp 7) Yz Z 0 Yz ds _ RZ.out Q Yz I.out ?_)
   refine CC.out.mono ?_;rintro _ w8 ⟨d2,rfl,I8,B8⟩;have u:=A.len I8;rw[s] at u
   have b8:=J.out.trans (B8.mono J.out.size);have C:=HA.out.below b8;obtain⟨cg,N,T⟩:=C.blk s
   have s1:=(HA.out.lo_le (g:=w.heap.size) Yz).2;have s2:=J.out.size;have NX:=Qf (C.fillq s aa Yz HX.out (Yc I8 (fun k r _=>⟨by have:_<=k:=r;omega,by have:_<=k:=r;omega⟩)) Yz);have BX:=Qf (QJ Ze d2 _ _ (q*A.size) (E.out.trans (b8.mono E.out.size)));have TO:=Qf (all_oneCell_toArray (h1.out _ _ _ _ I8));have I:=Qf (r.trans (congrArg some u.symm));have HT:=Qf (Blk.there (o:=q*A.size) (n:=d2.length) N (by rw[T,u,s];omega));clear u b8 C N T I8 B8 CC RZ J HA E hl hf h1 V s1 s2;rw[XK] at NX
   rw[s] at BX HT
   go_wp2_with (refine wpList_store_mid Yz _ (.tmp 23) (.tmp 22) Yz w.heap.size _ d2.toArray Yz Yz HT.out I.out TO.out ?_)
   go_roundw
   case rel=>exact⟨q+1,by omega,by go_num,(by obtain⟨_,h⟩:=NX.out;exact⟨_,_,h⟩),BX.out⟩
   case measure=>simp[intOf];omega
structure Bxs (w wx:World) (l:List (Nat × Array Value × TypeId)):Prop where
 bel:Below w.heap.size w wx
 ge:∀ b∈l,w.heap.size<=b.1
 box:∀ b∈l,Blk wx b.1 b.2.1 b.2.2
 nd:(l.map (·.1)).Nodup
section
variable {w wx w':World}{l a z:List (Nat × Array Value × TypeId)}{B:Nat}{c:Array Value}{t:TypeId}
theorem Bxs.start (w:World):Bxs w w []:=⟨Zr,fun _ h=>by simp at h,fun _ h=>by simp at h,by simp⟩
theorem Bxs.below (h:Bxs w wx l) (k:Below wx.heap.size wx w'):Bxs w w' l:=⟨h.bel.trans (k.mono h.bel.size),h.ge,fun b a=>(h.box b a).below k,h.nd⟩
theorem Bxs.drewN (h:Bxs w wx l) (n:Nat):Bxs w (wx.drewN n) l:=h.below (QI Zr n)
theorem Bxs.drew (h:Bxs w wx l):Bxs w wx.drew l:=h.drewN 1
theorem Bxs.add (h:Bxs w wx l) (f:Blk wx B c t) (g:w.heap.size<=B) (d:∀ b∈l,b.1≠B):Bxs w wx ((B,c,t)::l) :=
 ⟨h.bel,fun b a=>by rcases List.mem_cons.1 a with rfl | e;exact g;exact h.ge b e,fun b a=>by rcases List.mem_cons.1 a with rfl | e;exact f;exact h.box b e,by
  simp only[List.map_cons,List.nodup_cons]
  refine⟨fun e=>?_,h.nd⟩
  obtain⟨b,a,e⟩:=List.mem_map.1 e
  exact d b a e⟩
theorem Bxs.new (h:Bxs w wx l) (c:Array Value) (t:TypeId):Bxs w (wx.alloc (.cells c t)) ((wx.heap.size,c,t)::l) :=
 (h.below (Zc _ _)).add (Blk.new _ _ _) h.bel.size (fun b a e=>by have:=(h.box b a).lt;omega)
theorem Bxs.made (h:Bxs w wx l) (k:Below wx.heap.size wx w') (d:Blk w' B c t) (f:wx.heap.size<=B):Bxs w w' ((B,c,t)::l) :=
 (h.below k).add d (Zt h.bel.size f) (fun b a e=>by have:=(h.box b a).lt;omega)
theorem Bxs.at (h:Bxs w wx (a++(B,c,t)::z)):Blk wx B c t:=h.box (B,c,t) (by simp)
theorem Bxs.cell (h:Bxs w wx (a++(B,c,t)::z)) (i:Nat) (v:Value) (b:c[i]?=some v):wx.cell? ⟨B,i,none⟩=some v:=Qb h.at i v b
theorem Bxs.free (h:Bxs w wx (a++(B,c,t)::z)) (i:Nat):wx.frozen? ⟨B,i,none⟩=false:=Qj h.at i
theorem Bxs.set (h:Bxs w wx (a++(B,c,t)::z)) (i:Nat) (v:Value):Bxs w (wx.setCell ⟨B,i,none⟩ v) (a++(B,c.setIfInBounds i v,t)::z):=by
 have f:∀ b∈a++z,b.1≠B:=fun b d e=>by
  have g:=h.nd;rw[List.map_append,List.map_cons,List.nodup_append] at g
  obtain⟨-,j,k⟩:=g
  rw[List.nodup_cons] at j
  rcases List.mem_append.1 d with d | d
  ·exact k b.1 (List.mem_map_of_mem d) B (by simp) e
  ·exact j.1 (List.mem_map.2 ⟨b,d,e⟩)
 refine⟨h.bel.setCell (p:=⟨B,i,none⟩) (h.ge (B,c,t) (by simp)) v,fun b d=>?_,fun b d=>?_,?_⟩
 ·simp only[List.mem_append,List.mem_cons] at d
  rcases d with d | rfl | d
  ·exact h.ge b (by simp[d])
  ·exact h.ge (B,c,t) (by simp)
  ·exact h.ge b (by simp[d])
 ·simp only[List.mem_append,List.mem_cons] at d
  rcases d with d | rfl | d
  ·exact(Xd _ _ _ _ (f b (by simp[d]))).trans (h.box b (by simp[d]))
  ·have:=Qh h.at i v
   simpa using this
  ·exact(Xd _ _ _ _ (f b (by simp[d]))).trans (h.box b (by simp[d]))
 ·have:=h.nd
  simpa using this
end
def NuI (lo:Nat) (l:List Int) (v:Value) (w:World):Prop:=∃ p c,v=.slice p l.length c/\intsL.In w (Qcr lo) l [v]
theorem NuI.below {lo:Nat}(b:Below w.heap.size w w') (h:NuI lo l v w):NuI lo l v w':=by
 obtain⟨p,c,rfl,h⟩:=h
 exact⟨p,c,Z,Ya h b⟩
theorem NuI.move {lo a:Nat}(h:NuI lo l v w) (d:∀ k,lo<=k->w'.heap[k]?=w.heap[k]?) (e:a<=lo):NuI a l v w':=by
 obtain⟨p,c,rfl,h⟩:=h
 exact⟨p,c,Z,intsL.keep (fun k b _=>d k b) (fun k b _=>Zt e b) h⟩
theorem Qlj {F:FuncId}(hF:F=232/\(∃ n,cs=[Iv n])\/F=187/\∃ a b c d e f,cs=[Iv a,Iv b,Iv c,Iv d,Iv e,Iv f])
 {l j:List Int}    (B:intsL.In w All l [.slice pR l.length cR]) (D:intsL.In w All j [.slice pA j.length cA]) (b1:l.length<=4294967296) (b2:j.length<=4294967296) :
 Calls prog F #[.agg (cs++[Value.slice pR l.length cR,Value.slice pA j.length cA]).toArray] w fun e w'=>∃ u v,e=.returned (.agg (cs++[u,v]).toArray)/\NuI w.heap.size l u w'/\NuI w.heap.size j v w'/\Below w.heap.size w w':=by
 have E:=Qf B;have hg:=Qf D;clear B D;obtain⟨o,H⟩:∃ o,cs.length=o:=⟨_,Z⟩
 obtain⟨A,r⟩:∃ o,cs.length+1=o:=⟨_,Z⟩
 rcases hF with ⟨rfl,n,rfl⟩|⟨rfl,n1,n2,n3,n4,n5,n6,rfl⟩
 have p:=Qf (((Bxs.start w).new #[Iv n,.slice pR l.length cR,.slice pA j.length cA] 82).new #[Iv 0,Nv,Nv] 82);have V:=underlying82;have s:(prog.info? 82).map (·.size)=some 3:=by kernel_rfl
 go_enter func232,ntmps232
 rotate_left
 have p:=Qf (((Bxs.start w).new #[Iv n1,Iv n2,Iv n3,Iv n4,Iv n5,Iv n6,.slice pR l.length cR,.slice pA j.length cA] 78).new #[Iv 0,Iv 0,Iv 0,Iv 0,Iv 0,Iv 0,Nv,Nv] 78);have V:=underlying78;have s:(prog.info? 78).map (·.size)=some 8:=by kernel_rfl
 go_enter func187,ntmps187
 all_goals
  go_upto_region 1 with fail
  generalize World.alloc (World.alloc w _) _=q at p |-;have N:q.cell? ⟨w.heap.size,o,none⟩=some (.slice pR l.length cR):=p.out.cell (a:=[_]) o _ (by subst H;rfl);have P:q.cell? ⟨w.heap.size,A,none⟩=some (.slice pA j.length cA):=p.out.cell (a:=[_]) A _ (by subst r;rfl);simp only[List.length_cons,List.length_nil,Nat.zero_add,Nat.reduceAdd] at H r
  refine Qg 7 (Qlv [(5,NuI q.heap.size l),(8,NuI q.heap.size j)] [(1,Pv w.heap.size 0),(3,Pv w.heap.size o),(4,.slice pR l.length cR),(6,Pv w.heap.size A),(7,.slice pA j.length cA),(9,Pv w.heap.size o)]) (fun G=>Below q.heap.size q G) (fun w w'=>Below w.heap.size w w') (by kernel_rfl) (outs:=[1]) (gs:=[]) (bs:=[true,true,true,true,true,true,true]) (n:=12) Z Ze (by kernel_rfl) (by kernel_rfl) ?hR ?hG (QI Zr 1) ⟨Z,Y⟩ ?hA ?hend
  case hR=>exact fun t v w w' E h=>h.keep ⟨NuI.below E,NuI.below E,Y⟩
  case hG=>exact Y
  case hA =>
   subst H r
   repeat
    refine⟨fun a G g i K T=>?_,?_⟩
    focus
     obtain⟨k0,-⟩:=i
     conv at k0=>whnf;rhs;whnf
     have c0:=Qk N g;have c1:=Qk P g;have hw:=p.out.bel.trans (g.mono p.out.bel.size);go_simp
     first
      | with_reducible refine Xm (QaX _ _ _ G (Ya E.out hw) b1) ?_
        rintro e w9 ⟨O,R,rfl,Q,C⟩;exact T _ _ C (g.trans (C.mono g.size)) ⟨O,R,Z,Yc Q (fun k i _=>Zt g.size i)⟩
      | with_reducible refine Xm (QaX _ _ _ G (Ya hg.out hw) b2) ?_
        rintro e w9 ⟨O,R,rfl,Q,C⟩;exact T _ _ C (g.trans (C.mono g.size)) ⟨O,R,Z,Yc Q (fun k i _=>Zt g.size i)⟩
      | exact T _ _ Zr g Z
   trivial
  case hend =>
   rintro W x y g i;have L:NuI _ _ (x 5) y:=i 5 (by kernel_rfl);have M:NuI _ _ (x 8) y:=i 8 (by kernel_rfl);obtain⟨p5,c5,e5,-⟩:=id L
   obtain⟨p8,c8,U,-⟩:=id M
   rw[e5] at L
   rw[U] at M
   have e9:x 9=Pv w.heap.size o:=i 9 (by kernel_rfl);have I:=p.out.below g;have c0:=Qk N g;have c1:=Qk P g;have z0:=I.free (a:=[_]) o;have z1:=I.free (a:=[_]) A;have J:=(I.set (a:=[_]) o (.slice p5 l.length c5)).set (a:=[_]) A (.slice p8 j.length c8);have X:=Qf (J.at (a:=[_]));have e1:∀ o,(w.alloc o).heap.size=w.heap.size+1:=fun o=>by simp
   have z:=J.at (a:=[]);have m:=(p.out.at (a:=[])).lt;rw[e1] at z m
   replace z:=Qf z;replace m:=Qf m;clear e1;have E6:=Qf J.bel;have K5:=Qf L;have K8:=Qf M
   have hO:Hid (∀ k,q.heap.size<=k->((y.setCell ⟨w.heap.size,o,none⟩ (.slice p5 l.length c5)).setCell ⟨w.heap.size,A,none⟩ (.slice p8 j.length c8)).heap[k]?=y.heap[k]?):=fun k h=>by
    have:=(p.out.at (a:=[_])).lt
    rw[Xd _ _ _ _ (show k≠w.heap.size by omega),Xd _ _ _ _ (show k≠w.heap.size by omega)]
   subst H r;show wpList _ W _ [_,_,_] (QN _ x [3,4,5,6,7,8,9]) y;simp only[QN,Act.put,List.setIfInBounds_toArray,List.set_cons_zero,List.set_cons_succ,e5,U,e9]
   clear L M i e5 U e9 I J p E hg N P g;go_upto_region 2 with fail
   generalize World.setCell (World.setCell y _ _) _ _=w6 at X z E6 hO |-;have S:=X.out;simp only[List.setIfInBounds_toArray,List.set_cons_zero,List.set_cons_succ] at S
   have RZ:=Qf (Blk.range S);clear X S;go_wp2_with (first | (refine wpList_load_mid Z _ (.tmp 1) Z w.heap.size 0 Z _ _ RZ.out V Z s ?_) | (refine wpList_store_mid Z _ (.tmp 2) (.tmp 11) Z (w.heap.size+1) 0 _ Z Z (Blk.there z.out Ze) s (all_oneCell_toArray (Xe.1 Z)) ?_))
   have i:∀ x k,q.heap.size<=k->(w6.setCells (w.heap.size+1) 0 x).heap[k]?=y.heap[k]?:=fun x k h=>(QE (by have:=m.out;omega) x 0 w6).trans (hO.out k h);have h3:w.heap.size<=q.heap.size:=by have:=m.out;omega
   exact Qb0 (t:=2) Z Z Z (Blk.setsA z.out _ Z) V Z s ⟨_,_,Z,K5.out.move (i _) h3,K8.out.move (i _) h3,QJ (by omega) _ _ _ 0 E6.out⟩
def NuT (lo:Nat) (x:MTo) (v:Value) (w:World):Prop:=∃ a b,v=.agg #[Iv x.block,a,b]/\NuI lo x.regs a w/\NuI lo x.args b w
theorem NuT.below {lo:Nat}{x:MTo}(b:Below w.heap.size w w') (h:NuT lo x v w):NuT lo x v w':=by
 obtain⟨p,q,rfl,h,k⟩:=h
 exact⟨p,q,Z,h.below b,k.below b⟩
theorem NuI.in {lo:Nat}(h:NuI lo l v w):intsL.In w (Qcr lo) l [v]:=by obtain⟨p,c,rfl,h⟩:=h;exact h
theorem NuI.lo {lo a:Nat}(h:NuI lo l v w) (b:a<=lo):NuI a l v w:=h.move (fun _ _=>rfl) b
theorem Qk8 {x:MTo}(h:QhB w All x pR cR pA cA) (a:x.regs.length<=4294967296) (b:x.args.length<=4294967296):Calls prog 232 #[.agg #[Iv x.block,.slice pR x.regs.length cR,.slice pA x.args.length cA]] w fun e w'=>∃ v,e=.returned v/\NuT w.heap.size x v w'/\Below w.heap.size w w' :=
 (Qlj (cs:=[Iv x.block]) (.inl ⟨Z,_,Z⟩) h.regs h.args a b).mono fun e w' ⟨u,v,f,g,c,d⟩=>⟨_,f,⟨u,v,Z,g,c⟩,d⟩
theorem Ql1 {x:ZE}{i:EP}(h0:EIn w All x i) (r:x.small) :
 Calls prog 188 #[.agg #[Iv x.op,Iv x.a,Iv x.yes.block,.slice i.pYR x.yes.regs.length i.cYR,.slice i.pYA x.yes.args.length i.cYA,Iv x.no.block,.slice i.pNR x.no.regs.length i.cNR,.slice i.pNA x.no.args.length i.cNA,.slice i.pA x.args.length i.cA]] w fun e w'=>QiP endL w w' x e:=by
 have H:=Qf h0;have M:x.yes.regs.length<=4294967296:=by have:=r.1.1;omega
 have U:x.yes.args.length<=4294967296:=by have:=r.1.2;omega
 have X:x.no.regs.length<=4294967296:=by have:=r.2.1.1;omega
 have N:x.no.args.length<=4294967296:=by have:=r.2.1.2;omega
 have R:x.args.length<=4294967296:=by have:=r.2.2;omega
 clear h0 r;have l:=Qf (((Bxs.start w).new #[Iv x.op,Iv x.a,Iv x.yes.block,.slice i.pYR x.yes.regs.length i.cYR,.slice i.pYA x.yes.args.length i.cYA,Iv x.no.block,.slice i.pNR x.no.regs.length i.cNR,.slice i.pNA x.no.args.length i.cNA,.slice i.pA x.args.length i.cA] 84).new #[Iv 0,Iv 0,Iv 0,Nv,Nv,Iv 0,Nv,Nv,Nv] 84);go_enter func188,ntmps188
 go_upto_region 1 with fail
 generalize World.alloc (World.alloc w _) _=p at l |-;refine Qg 10 (Qlv [(5,NuT p.heap.size x.yes),(8,NuT p.heap.size x.no),(11,NuI p.heap.size x.args)] [(1,Pv w.heap.size 0),(3,Pv w.heap.size 2),(4,.agg #[Iv x.yes.block,.slice i.pYR x.yes.regs.length i.cYR,.slice i.pYA x.yes.args.length i.cYA]),(6,Pv w.heap.size 5),(7,.agg #[Iv x.no.block,.slice i.pNR x.no.regs.length i.cNR,.slice i.pNA x.no.args.length i.cNA]),(9,Pv w.heap.size 8),(10,.slice i.pA x.args.length i.cA),(12,Pv w.heap.size 2)]) (fun F=>Below p.heap.size p F) (fun w w'=>Below w.heap.size w w') (by kernel_rfl) (outs:=[1]) (gs:=[]) (bs:=[true,true,true,true,true,true,true,true,true,true]) (n:=16) Z Ze (by kernel_rfl) (by kernel_rfl) ?hR ?hG (QI Zr 1) ⟨Z,Y⟩ ?hA ?hend
 case hR=>exact fun t v w w' Q h=>h.keep ⟨NuT.below Q,NuT.below Q,NuI.below Q,Y⟩
 case hG=>exact Y
 case hA =>
  have u:=fun j=>l.out.cell (a:=[_]) j
  repeat
   refine⟨fun a F b d K E=>?_,?_⟩
   focus
    obtain⟨k0,-⟩:=d
    conv at k0=>whnf;rhs;whnf
    have c2:=Qk (u 2 _ Z) b;have c3:=Qk (u 3 _ Z) b;have c4:=Qk (u 4 _ Z) b;have c5:=Qk (u 5 _ Z) b;have c6:=Qk (u 6 _ Z) b;have c7:=Qk (u 7 _ Z) b;have c8:=Qk (u 8 _ Z) b;have f:=l.out.bel.trans (b.mono l.out.bel.size);go_simp
    first
     | with_reducible refine Xm (Qk8 (H.out.yes.below f) M U) ?_
       rintro e w9 ⟨v9,rfl,⟨O,I,rfl,V,B⟩,g⟩;exact E _ _ g (b.trans (g.mono b.size)) ⟨O,I,Z,V.lo b.size,B.lo b.size⟩
     | with_reducible refine Xm (Qk8 (H.out.no.below f) X N) ?_
       rintro e w9 ⟨v9,rfl,⟨O,I,rfl,V,B⟩,g⟩;exact E _ _ g (b.trans (g.mono b.size)) ⟨O,I,Z,V.lo b.size,B.lo b.size⟩
     | with_reducible refine Xm (QaX _ _ _ F (Ya H.out.args f) R) ?_
       rintro e w9 ⟨p9,c9,rfl,B,g⟩;exact E _ _ g (b.trans (g.mono b.size)) ⟨p9,c9,Z,Yc B (fun k d _=>Zt b.size d)⟩
     | exact E _ _ Zr b Z
  trivial
 case hend =>
  rintro L z s b d;obtain⟨y1,y2,e5,G,J⟩:NuT _ _ (z 5) s:=d 5 (by kernel_rfl)
  obtain⟨n1,n2,e8,W,P⟩:NuT _ _ (z 8) s:=d 8 (by kernel_rfl)
  have D:NuI _ _ (z 11) s:=d 11 (by kernel_rfl);have A:z 12=Pv w.heap.size 2:=d 12 (by kernel_rfl);obtain⟨q1,d1,rfl,-⟩:=id G
  obtain⟨q2,d2,rfl,-⟩:=id J
  obtain⟨q3,d3,rfl,-⟩:=id W
  obtain⟨q4,d4,rfl,-⟩:=id P
  obtain⟨q5,d5,q,-⟩:=id D
  rw[q] at D
  have c:=l.out.below b;have z2:=c.free (a:=[_]) 2;have z3:=c.free (a:=[_]) 3;have z4:=c.free (a:=[_]) 4;have z5:=c.free (a:=[_]) 5;have z6:=c.free (a:=[_]) 6;have z7:=c.free (a:=[_]) 7;have z8:=c.free (a:=[_]) 8;have c2:=c.cell (a:=[_]) 2 _ Z;have c3:=c.cell (a:=[_]) 3 _ Z;have c4:=c.cell (a:=[_]) 4 _ Z;have c5:=c.cell (a:=[_]) 5 _ Z;have c6:=c.cell (a:=[_]) 6 _ Z;have c7:=c.cell (a:=[_]) 7 _ Z;have c8:=c.cell (a:=[_]) 8 _ Z;have y:=((((((c.set (a:=[_]) 2 (Iv x.yes.block)).set (a:=[_]) 3 (.slice q1 x.yes.regs.length d1)).set (a:=[_]) 4 (.slice q2 x.yes.args.length d2)).set (a:=[_]) 5 (Iv x.no.block)).set (a:=[_]) 6 (.slice q3 x.no.regs.length d3)).set (a:=[_]) 7 (.slice q4 x.no.args.length d4)).set (a:=[_]) 8 (.slice q5 x.args.length d5);simp only[List.setIfInBounds_toArray,List.set_cons_zero,List.set_cons_succ] at y
  generalize f:World.setCell _ _ _=w6 at y;have e1:∀ o,(w.alloc o).heap.size=w.heap.size+1:=fun o=>by simp
  have C:=y.at (a:=[]);have RZ:=Qf (Blk.range (y.at (a:=[_])));have S:=(l.out.at (a:=[])).lt;have aa:=(l.out.at (a:=[_])).lt;rw[e1] at C S
  replace C:=Qf C;have E6:=Qf y.bel;have T:=Qf (show EIn s (Qcr p.heap.size) x ⟨q1,d1,q2,d2,q3,d3,q4,d4,q5,d5⟩ from ⟨⟨G.in,J.in,H.out.yes.bnd⟩,⟨W.in,P.in,H.out.no.bnd⟩,D.in,H.out.bnd⟩)
  have hO:Hid (∀ k,p.heap.size<=k->w6.heap[k]?=s.heap[k]?):=fun k h=>by
   rw[<-f]
   iterate 7 rw[Xd _ _ _ _ (show k≠w.heap.size by omega)]
  show wpList _ L _ [_,_,_,_,_] (QN _ z [3,4,5,6,7,8,9,10,11,12]) s;simp only[QN,Act.put,List.setIfInBounds_toArray,List.set_cons_zero,List.set_cons_succ,e5,e8,q,A]
  clear e5 e8 q A c y b l H e1 G J W P D d;replace f:=Qf f;go_upto_region 2 with fail
  rw[f.out]
  clear f c2 c3 c4 c5 c6 c7 c8 z2 z3 z4 z5 z6 z7 z8;have hu:=underlying84;have m:(prog.info? 84).map (·.size)=some 9:=by kernel_rfl
  go_wp2_with (first | (refine wpList_load_mid Z _ (.tmp 1) Z w.heap.size 0 Z _ _ RZ.out hu Z m ?_) | (refine wpList_store_mid Z _ (.tmp 2) (.tmp 15) Z (w.heap.size+1) 0 _ Z Z (Blk.there C.out Ze) m (all_oneCell_toArray (Xe.1 Z)) ?_))
  exact Qb0 (t:=2) Z Z Z (Blk.setsA C.out _ Z) hu Z m ⟨_,Z,QgE (T.out.keep (fun k d _=>(QE (by have:_<=k:=d;omega) _ 0 w6).trans (hO.out k d)) (fun k d _=>by have:_<=k:=d;show _<=k;omega)),QJ (by omega) _ _ _ 0 E6.out⟩
def QmR (n:Nat):Prop:=∀ (t:TT n) (ds:List Value) (w:World),(Lay.tt n).In w All t ds->t.count<=100000->Calls prog 123 #[.agg ds.toArray] w fun e w'=>QiP (Lay.tt n) w w' t e
theorem QmD (w:World) (O:Nat->Prop) (x:TT n) (b:List Value) (h:(Lay.tt n).In w O x b):∀ v∈b,v.oneCell'=true:=by
 obtain⟨a,c,rfl,-⟩:=h
 exact Xe.1 Z
theorem enters1:Qaj 123:=fun _ _=>by kernel_rfl
theorem enters2:Qaj 187:=fun _ _=>by kernel_rfl
theorem enters3:Qaj 125:=fun _ _=>by kernel_rfl
theorem enters4:Qaj 77:=fun _ _=>by kernel_rfl
theorem cOwnType_:∀ n,QmR n:=by
 intro n
 induction n with
 | zero=>intro t;exact Empty.elim t
 | succ n ih =>
   intro t H w l R;have y:∀ x∈t.2.2,x.count<=100000:=fun x u=>by have:=t.count_kid u;omega
   have C:t.2.2.length<=100000:=by have:=t.len_lt_count;rw[t.len_eq] at this;omega
   obtain⟨p,c,rfl,l,i⟩:=l
   have b:Hid _:=Qe1 (c:=c) l.list i.2;clear l;simp only[TT.len_eq]
   have g:=Qf (((Bxs.start w).new #[Iv t.kind,Iv t.r,.slice p t.2.2.length c] 105).new #[Iv 0,Iv 0,Nv] 105);have z:∀ o,(w.alloc o).heap.size=w.heap.size+1:=fun o=>by simp
   have e:Hid (w.heap.size+1<((w.alloc (.cells #[Iv t.kind,Iv t.r,.slice p t.2.2.length c] 105)).alloc (.cells #[Iv 0,Iv 0,Nv] 105)).heap.size):=by have:=(g.out.at (a:=[])).lt;rw[z] at this;exact this
   go_enter func123,ntmps123
   go_upto_region 1 with fail
   generalize World.alloc (World.alloc w _) _=N at g e |-;have B:=g.out.cell (a:=[_]) 2 _ Z;have L:=Qf (Z3 (A:=Lay.tt n) (.inl ⟨Z,Z⟩) enters1 (Ya b.out g.out.bel) (by omega) QmD (fun x u H M h=>ih x H M h (y x u)));go_wp2_with fail
   refine L.out.mono ?_;rintro _ v ⟨m,s,rfl,G,K⟩;have q:=g.out.below K;have B:=q.cell (a:=[_]) 2 _ Z;have P:=q.free (a:=[_]) 2;have j:=q.set (a:=[_]) 2 (.slice m t.2.2.length s);simp only[List.setIfInBounds_toArray,List.set_cons_zero,List.set_cons_succ] at j
   have f:=j.at (a:=[]);rw[z] at f
   replace f:=Qf f;have I:=Qf j.bel;have J:=Qf (Blk.range (j.at (a:=[_])));have F:Hid (∀ k,N.heap.size<=k->(v.setCell ⟨w.heap.size,2,none⟩ (.slice m t.2.2.length s)).heap[k]?=v.heap[k]?):=fun k h=>Xd _ _ _ _ (show k≠w.heap.size by have:=e.out;omega);have Q:=Qf G;clear L q j g G K b z;go_upto_region 2 with fail
   generalize World.setCell v _ _=E at f I J F |-;clear B P;have D:=underlying105;have d:=Qbl infoType0;go_wp2_with (first | (refine wpList_load_mid Z _ (.tmp 1) Z w.heap.size 0 Z _ _ J.out D Z d ?_) | (refine wpList_store_mid Z _ (.tmp 2) (.tmp 7) Z (w.heap.size+1) 0 _ Z Z (Blk.there f.out Ze) d (all_oneCell_toArray (Xe.1 Z)) ?_))
   have S:=e.out;have O:=QU (Lay.keep (Qo n) (w':=E.setCells (w.heap.size+1) 0 [Iv t.kind,Iv t.r,.slice m t.2.2.length s]) (O':=Qcr w.heap.size) (fun k b _=>(QE (by have:_<=k:=b;omega) _ 0 E).trans (F.out k b)) (fun k b _=>by have:_<=k:=b;show _<=k;omega) Q.out);exact Qb0 (t:=2) Z Z Z (Blk.setsA f.out _ Z) D Z d ⟨_,Z,⟨m,s,by rw[TT.len_eq],O.1,i⟩,QJ (by omega) _ _ _ 0 I.out⟩
theorem Qdm {α:Type}{A:Lay α}{lo:Nat}{x:α}(h:A.In w (Qcr lo) x ds){p:Addr}(a:p.block<lo) (v:Value):A.In (w.setCell p v) (Qcr lo) x ds:=Lay.setCell h (fun e=>by have:lo<=p.block:=e;omega) v
theorem QbL {α:Type}{A:Lay α}{lo hi:Nat}{x:α}(h:A.In w (Qcr hi) x ds) (b:lo<=hi):A.In w (Qcr lo) x ds:=Yc h (fun k a _=>Zt b a)
theorem Qng (w:World) (O:Nat->Prop) (x:Qs) (a:List Value) (h:insL.In w O x a):∀ v∈a,v.oneCell'=true:=by
 obtain⟨i,rfl,-⟩:=Qem h
 exact Xe.1 Z
theorem QmS (w:World) (O:Nat->Prop) (x:ZE) (a:List Value) (h:endL.In w O x a):∀ v∈a,v.oneCell'=true:=by
 obtain⟨i,rfl,-⟩:=Qel h
 exact Xe.1 Z
theorem Qnp (w:World) (O:Nat->Prop) (x:MBlock n) (a:List Value) (h:(Zj n).In w O x a):∀ v∈a,v.oneCell'=true:=by
 obtain⟨i,rfl,-⟩:=Qcd h
 exact Xe.1 Z
theorem Qnm (w:World) (O:Nat->Prop) (x:MFunc n) (a:List Value) (h:(ZS n).In w O x a):∀ v∈a,v.oneCell'=true:=by
 obtain⟨i,rfl,-⟩:=QcV h
 exact Xe.1 Z
theorem QcS {l:List (TT n)}(h:(Qo n).In w All l [.slice p l.length c]) (a:Qda l):Calls prog 122 #[.slice p l.length c,.func (.func 123) #[] #[]] w fun e w'=>QgX (Lay.tt n) w w' l e :=
 Z3 (.inl ⟨Z,Z⟩) enters1 h (by have:=a.1;omega) QmD (fun x b d f h=>cOwnType_ n x d f h (a.2 x b))
theorem QlJ {l:List Qs}(h:insL.list.In w All l [.slice p l.length c]) (t:l.length<=100000) (j:∀ x∈l,x.small):Calls prog 186 #[.slice p l.length c,.func (.func 187) #[] #[]] w fun e w'=>QgX insL w w' l e :=
 Z3 (.inr (.inl ⟨Z,Z⟩)) enters2 h (by omega) Qng (fun x g s r h=>by
  obtain⟨i,rfl,f⟩:=Qem h
  refine(Qlj (cs:=[Iv x.op,Iv x.a,Iv x.b,Iv x.c,Iv x.k,Iv x.n]) (.inr ⟨Z,_,_,_,_,_,_,Z⟩) f.regs f.args (by have:=(j x g).1;omega) (by have:=(j x g).2;omega)).mono ?_
  rintro e w' ⟨u,v,rfl,⟨a,c,rfl,m⟩,⟨b,d,rfl,o⟩,q⟩;exact⟨_,Z,Qms m o f.bnd,q⟩)
theorem QhR {x:MBlock n}(h:(Zj n).In w All x ds) (hs:x.small):Calls prog 125 #[.agg ds.toArray] w fun e w'=>QiP (Zj n) w w' x e:=by
 obtain⟨i,rfl,hb⟩:=Qcd h
 have H:=Qf hb;have C:=Qf hs;clear h hb hs;have A:=Qf (((Bxs.start w).new #[Iv x.regs,.slice i.pP x.params.length i.cP,.slice i.pC x.code.length i.cC,Iv x.fin.op,Iv x.fin.a,Iv x.fin.yes.block,.slice i.e.pYR x.fin.yes.regs.length i.e.cYR,.slice i.e.pYA x.fin.yes.args.length i.e.cYA,Iv x.fin.no.block,.slice i.e.pNR x.fin.no.regs.length i.e.cNR,.slice i.e.pNA x.fin.no.args.length i.e.cNA,.slice i.e.pA x.fin.args.length i.e.cA] 86).new #[Iv 0,Nv,Nv,Iv 0,Iv 0,Iv 0,Nv,Nv,Iv 0,Nv,Nv,Nv] 86);have e1:∀ o,(w.alloc o).heap.size=w.heap.size+1:=fun o=>by simp
 have b:=Qf ((A.out.at (a:=[])).lt);rw[e1] at b
 go_enter func125,ntmps125
 go_upto_region 1 with fail
 generalize World.alloc (World.alloc w _) _=s at A b |-;have c1:=A.out.cell (a:=[_]) 1 _ Z;have C1:=Qf (QcS (Ya H.out.params A.out.bel) C.out.2.1);go_wp2_with fail
 refine C1.out.mono ?_;rintro _ w4 ⟨u,r,rfl,I1,B4⟩;have N:=A.out.below B4;replace c1:=N.cell (a:=[_]) 1 _ Z;have z1:=N.free (a:=[_]) 1;have F:=Qf (N.set (a:=[_]) 1 (.slice u x.params.length r));have J1:=Qf (Qdm I1 (p:=⟨w.heap.size,1,none⟩) (by have:=b.out;show w.heap.size<_;omega) (.slice u x.params.length r));have b5:=Qf B4.size;clear N C1 I1 B4 A;go_upto_region 2 with fail
 generalize L:World.setCell w4 _ _=w5 at F J1 |-;have y:Hid (s.heap.size<=w5.heap.size):=by show _<=_;rw[<-L];simpa using b5.out
 clear L b5 c1 z1;have c2:=F.out.cell (a:=[_]) 2 _ Z;have C2:=Qf (QlJ (Ya H.out.code F.out.bel) C.out.1 C.out.2.2.2);go_wp2_with fail
 refine C2.out.mono ?_;rintro _ w6 ⟨g,l,rfl,I2,O⟩;have P:=F.out.below O;replace c2:=P.cell (a:=[_]) 2 _ Z;have z2:=P.free (a:=[_]) 2;have j:=P.set (a:=[_]) 2 (.slice g x.code.length l);have hp:w.heap.size<s.heap.size:=by have:=b.out;omega
 have V:=Qf (Qdm (Ya J1.out O) (p:=⟨w.heap.size,2,none⟩) hp (.slice g x.code.length l));have K2:=Qf (Qdm (QbL I2 y.out) (p:=⟨w.heap.size,2,none⟩) hp (.slice g x.code.length l));have b7:=Qf (Zt y.out O.size);simp only[List.setIfInBounds_toArray,List.set_cons_zero,List.set_cons_succ] at j
 replace j:=Qf j;clear P C2 I2 O F J1;go_upto_region 3 with fail
 generalize D:World.setCell w6 _ _=w7 at j V K2 |-;have G:Hid (s.heap.size<=w7.heap.size):=by show _<=_;rw[<-D];simpa using b7.out
 clear D b7 c2 z2 y;have hE:=Qf (QlC (j.out.at (a:=[_])) 3 9 Z);have C3:=Qf (Ql1 (H.out.fin.below j.out.bel) C.out.2.2.1);have hu:=underlying84;have K:(prog.info? 84).map (·.size)=some 9:=by kernel_rfl
 have hp:w.heap.size<s.heap.size:=by have:=b.out;omega
 go_wp2_with (refine wpList_load_mid Z _ (.tmp 11) Z w.heap.size 3 Z _ _ hE.out hu Z K ?_)
 refine C3.out.mono ?_;rintro _ d ⟨c,rfl,R,Q⟩;have I:=endL.len R;have he:=Qf (all_oneCell_toArray (QmS _ _ _ _ R));have M:=j.out.below Q;have HB:=M.at (a:=[_]);have HT:=Qf (Blk.there (o:=3) (n:=c.toArray.size) HB (by rw[List.size_toArray,I];exact Ze));have HK:=Qf (K.trans (congrArg some I.symm));have HZ:=Blk.sets c [Iv x.regs,.slice u x.params.length r,.slice g x.code.length l] _ d (by rw[I];rfl) HB;have T:=M.at (a:=[]);rw[e1] at T
 have X:Hid (Blk (d.setCells w.heap.size 3 c) (w.heap.size+1) _ _):=(QE (by omega) c 3 d).trans T;have E6:=Qf (QJ Ze c d w 3 M.bel);have RZ:=Qf (Blk.range HZ);have hO:Hid (∀ k,s.heap.size<=k->(d.setCells w.heap.size 3 c).heap[k]?=d.heap[k]?):=fun k h=>QE (by omega) c 3 d;have L1:=Qf (Ya V.out Q);have L2:=Qf (Ya K2.out Q);have L3:=Qf (QbL R G.out);have W:=H.out.bnd;clear M HB HZ T C3 V K2 R Q hE j H C G e1;go_upto_region 4 with (refine wpList_store_mid Z _ (.tmp 14) (.tmp 13) Z w.heap.size 3 c.toArray Z Z HT.out HK.out he.out ?_)
 generalize World.setCells d _ _ _=w9 at X E6 RZ hO |-;have E:=underlying86;have m:([Iv x.regs,.slice u x.params.length r,.slice g x.code.length l]++c:List Value).length=12:=by rw[List.length_append,I];rfl
 have f:=Qf ((Qbl infoBlock).trans (congrArg some m.symm));have z:=Qf m;have J:=Qf (all_oneCell_toArray (cs:=[Iv x.regs,.slice u x.params.length r,.slice g x.code.length l]++c) (fun v hv=>(List.mem_append.1 hv).elim (fun h=>Xe.1 (rfl:([Iv x.regs,.slice u x.params.length r,.slice g x.code.length l]:List Value).all (·.oneCell')=true) v h) (QmS _ _ _ _ L3.out v)));generalize B:([Iv x.regs,.slice u x.params.length r,.slice g x.code.length l]++c:List Value)=q at RZ f z J;replace B:=Qf B;clear m HT HK he I;go_wp2_with (first | (refine wpList_load_mid Z _ (.tmp 1) Z w.heap.size 0 Z q _ RZ.out E Z f.out ?_) | (refine wpList_store_mid Z _ (.tmp 2) (.tmp 15) Z (w.heap.size+1) 0 q.toArray Z Z (Blk.there X.out (by rw[List.size_toArray,z.out];exact Ze)) f.out J.out ?_))
 have S:∀ k,s.heap.size<=k->(w9.setCells (w.heap.size+1) 0 q).heap[k]?=d.heap[k]?:=fun k h=>(QE (by have:=b.out;omega) _ 0 w9).trans (hO.out k h);have U:w.heap.size<=s.heap.size:=by omega
 replace B:=B.out;subst B;refine Qb0 (t:=2) Z Z Z (Blk.setsA X.out _ z.out) E Z f.out ⟨_,Z,?_,QJ (by omega) _ _ _ 0 E6.out⟩;exact Qgx (Lay.keep _ (fun k h _=>S k h) (fun k h _=>Zt U h) L1.out) (Lay.keep _ (fun k h _=>S k h) (fun k h _=>Zt U h) L2.out) (Lay.keep _ (fun k h _=>S k h) (fun k h _=>Zt U h) L3.out) W
theorem QkQ {x:MFunc n}(h:(ZS n).In w All x ds) (hs:x.small):Calls prog 77 #[.agg ds.toArray] w fun e w'=>QiP (ZS n) w w' x e:=by
 obtain⟨i,rfl,hb⟩:=QcV h
 have H:=Qf hb;have j:=Qf hs;clear h hb hs;have f:=Qf (((Bxs.start w).new #[Iv x.regs,.slice i.pP x.params.length i.cP,.slice i.pR x.results.length i.cR,.slice i.pB x.blocks.length i.cB] 89).new #[Iv 0,Nv,Nv,Nv] 89);have T:∀ o,(w.alloc o).heap.size=w.heap.size+1:=fun o=>by simp
 have b:=Qf ((f.out.at (a:=[])).lt);rw[T] at b
 go_enter func77,ntmps77
 go_upto_region 1 with fail
 generalize World.alloc (World.alloc w _) _=q at f b |-;have c1:=f.out.cell (a:=[_]) 1 _ Z;have V:=Qf (QcS (Ya H.out.params f.out.bel) j.out.2.1);go_wp2_with fail
 refine V.out.mono ?_;rintro _ w4 ⟨p1,d1,rfl,I1,S⟩;have D:=f.out.below S;replace c1:=D.cell (a:=[_]) 1 _ Z;have z1:=D.free (a:=[_]) 1;have r:=Qf (D.set (a:=[_]) 1 (.slice p1 x.params.length d1));have Q:=Qf (Qdm I1 (p:=⟨w.heap.size,1,none⟩) (by have:=b.out;show w.heap.size<_;omega) (.slice p1 x.params.length d1));have b5:=Qf S.size;clear D V I1 S f;go_upto_region 2 with fail
 generalize v:World.setCell w4 _ _=w5 at r Q |-;have c:Hid (q.heap.size<=w5.heap.size):=by show _<=_;rw[<-v];simpa using b5.out
 clear v b5 c1 z1;have c2:=r.out.cell (a:=[_]) 2 _ Z;have C2:=Qf (QcS (Ya H.out.results r.out.bel) j.out.2.2.1);go_wp2_with fail
 refine C2.out.mono ?_;rintro _ w6 ⟨O,R,rfl,I2,E⟩;have F:=r.out.below E;replace c2:=F.cell (a:=[_]) 2 _ Z;have z2:=F.free (a:=[_]) 2;have l:=Qf (F.set (a:=[_]) 2 (.slice O x.results.length R));have u:w.heap.size<q.heap.size:=by have:=b.out;omega
 have L:=Qf (Qdm (Ya Q.out E) (p:=⟨w.heap.size,2,none⟩) u (.slice O x.results.length R));have U:=Qf (Qdm (QbL I2 c.out) (p:=⟨w.heap.size,2,none⟩) u (.slice O x.results.length R));have b7:=Qf (Zt c.out E.size);clear F C2 I2 E r Q;go_upto_region 3 with fail
 generalize m:World.setCell w6 _ _=w7 at l L U |-;have s:Hid (q.heap.size<=w7.heap.size):=by show _<=_;rw[<-m];simpa using b7.out
 clear m b7 c2 z2 c;have c3:=l.out.cell (a:=[_]) 3 _ Z;have X:=Qf (Z3 (A:=Zj n) (.inr (.inr (.inl ⟨Z,Z⟩))) enters3 (Ya H.out.blocks l.out.bel) (by have:=j.out.1;omega) Qnp (fun y hy ds wx h=>QhR h (j.out.2.2.2 y hy)));go_wp2_with fail
 refine X.out.mono ?_;rintro _ w8 ⟨z,C,rfl,I3,G⟩;have B:=l.out.below G;replace c3:=B.cell (a:=[_]) 3 _ Z;have z3:=B.free (a:=[_]) 3;have g:=B.set (a:=[_]) 3 (.slice z x.blocks.length C);simp only[List.setIfInBounds_toArray,List.set_cons_zero,List.set_cons_succ] at g
 have J:=g.at (a:=[]);rw[T] at J
 have P:=Qf J;have E6:=Qf g.bel;have RZ:=Qf (Blk.range (g.at (a:=[_])));have L1:=Qf (Qdm (Ya L.out G) (p:=⟨w.heap.size,3,none⟩) u (.slice z x.blocks.length C));have W:=Qf (Qdm (Ya U.out G) (p:=⟨w.heap.size,3,none⟩) u (.slice z x.blocks.length C));have L3:=Qf (Qdm (QbL I3 s.out) (p:=⟨w.heap.size,3,none⟩) u (.slice z x.blocks.length C));have M:=H.out.bnd;clear B g J X L U I3 G l H j s T;go_upto_region 4 with fail
 generalize World.setCell w8 _ _=N at P E6 RZ L1 W L3 |-;clear c3 z3;have hu:=underlying89;have d:=Qbl infoFunc;go_wp2_with (first | (refine wpList_load_mid Z _ (.tmp 1) Z w.heap.size 0 Z _ _ RZ.out hu Z d ?_) | (refine wpList_store_mid Z _ (.tmp 2) (.tmp 15) Z (w.heap.size+1) 0 _ Z Z (Blk.there P.out Ze) d (all_oneCell_toArray (Xe.1 Z)) ?_))
 have I:∀ vs k,q.heap.size<=k->(N.setCells (w.heap.size+1) 0 vs).heap[k]?=N.heap[k]?:=fun vs k h=>QE (by have:=b.out;omega) _ 0 N;have K:w.heap.size<=q.heap.size:=by omega
 exact Qb0 (t:=2) Z Z Z (Blk.setsA P.out _ Z) hu Z d ⟨_,Z,Qh5 (Lay.keep _ (fun k h _=>I _ k h) (fun k h _=>Zt K h) L1.out) (Lay.keep _ (fun k h _=>I _ k h) (fun k h _=>Zt K h) W.out) (Lay.keep _ (fun k h _=>I _ k h) (fun k h _=>Zt K h) L3.out) M,QJ (by omega) _ _ _ 0 E6.out⟩
theorem Qgp (m:List (MFunc n)) (p:Option Addr) (c:Nat) (w:World) (h:(QaM n).In w All m [.slice p m.length c]) (g:Qbe m) :
 Calls prog 47 #[.agg #[.slice p m.length c]] w fun e w'=>∃ v,e=.returned v/\(∃ a' c',v=.agg #[.slice a' m.length c']/\(QaM n).In w' (Qcr w.heap.size) m [.slice a' m.length c'])/\Below w.heap.size w w':=by
 have H:=Qf h;have k:=Qf g;clear h g;have d:=Qf (((Bxs.start w).new #[.slice p m.length c] 24).new #[Nv] 24);have q:∀ o,(w.alloc o).heap.size=w.heap.size+1:=fun o=>by simp
 have b:=Qf ((d.out.at (a:=[])).lt);rw[q] at b
 go_enter func47,ntmps47
 go_upto_region 1 with fail
 generalize World.alloc (World.alloc w _) _=z at d b |-;have G:=d.out.cell (a:=[_]) 0 _ Z;have r:=Qf (Z3 (A:=ZS n) (.inr (.inr (.inr ⟨Z,Z⟩))) enters4 (Ya H.out d.out.bel) (by have:=k.out.1;omega) Qnm (fun y x K F h=>QkQ h (k.out.2 y x)));go_wp2_with fail
 refine r.out.mono ?_;rintro _ I ⟨j,i,rfl,s,u⟩;have l:=d.out.below u;have f:=l.at (a:=[]);rw[q] at f
 have J:=Qb f 0 _ Z;have L:=Qj f 0;have C:w.heap.size+1<z.heap.size:=b.out;have E:=Qf (Qh f 0 (.slice j m.length i));have B:=Qf (Qdm s (p:=⟨w.heap.size+1,0,none⟩) C (.slice j m.length i));have D:=Qf (l.bel.setCell (p:=⟨w.heap.size+1,0,none⟩) (by show w.heap.size<=w.heap.size+1;omega) (.slice j m.length i));clear l r s u d f q H k b;go_wp2
 exact Qb0 (t:=2) Z Z Z E.out underlying24 Z (by kernel_rfl) ⟨_,Z,⟨j,i,Z,QbL B.out (by omega)⟩,D.out⟩
abbrev Qcm (be:Nat) (pm:Option Addr) (ml cm:Nat) (pi:Option Addr) (il ci most k:Nat):Array Value :=
 #[Pv be 0,.slice pm ml cm,.slice pi il ci,Iv most,.slice (some ⟨k,0,none⟩) 1 1,Iv 0,Nv,Nv,Iv 0,.bool false]
theorem WAt.begin {a:World}{f:Nat}{m:List (MFunc 6)}{d b lo:Nat}(I:Qdj a f bp (fun x=>d<=x/\x<b) (Est.new pages)) (G:(QaM 6).In a (fun x=>b<=x) m [.slice pm m.length cm])
 (E:intsL.In a (fun x=>b<=x) inp [.slice pi inp.length ci]) (D:inp.length<=ci) (M:b<=a.heap.size) (K:d<=b) (H:lo<=a.heap.size) :
 ∃ g,WAt (((a.alloc (.cells #[Iv 0,Iv 0,Iv 0,Nv] 132)).alloc (.cells #[Pv a.heap.size 0] 130)).alloc (.cells (Qcm f pm m.length cm pi inp.length ci most (a.heap.size+1)) 68)) (a.heap.size+1+1) most m (RM.start inp pages) g/\(∀ x,g.A x->d<=x)/\g.lo=lo/\g.lk=b:=by
 have q:=ZO a (.cells #[Iv 0,Iv 0,Iv 0,Nv] 132);have u:=q.trans ((ZO (a.alloc (.cells #[Iv 0,Iv 0,Iv 0,Nv] 132)) (.cells #[Pv a.heap.size 0] 130)).mono q.size);have l:=Qe a #[Iv 0,Iv 0,Iv 0,Nv] 132;have p:=Qe (a.alloc (.cells #[Iv 0,Iv 0,Iv 0,Nv] 132)) #[Pv a.heap.size 0] 130;have v:(a.alloc (.cells #[Iv 0,Iv 0,Iv 0,Nv] 132)).heap.size=a.heap.size+1:=by simp
 generalize a.alloc (.cells #[Iv 0,Iv 0,Iv 0,Nv] 132)=r at *;rw[v] at p
 have t:(r.alloc (.cells #[Pv a.heap.size 0] 130)).heap.size=a.heap.size+1+1:=by simp[v]
 replace l:(r.alloc (.cells #[Pv a.heap.size 0] 130)).heap[a.heap.size]?=_:=(Below.heap_alloc _ _ _ (by omega)).trans l;generalize r.alloc (.cells #[Pv a.heap.size 0] 130)=n at *;have j:=u.trans ((ZO n (.cells (Qcm f pm m.length cm pi inp.length ci most (a.heap.size+1)) 68)).mono u.size);have s:=Qe n (Qcm f pm m.length cm pi inp.length ci most (a.heap.size+1)) 68;rw[t] at s
 have B:(n.alloc (.cells (Qcm f pm m.length cm pi inp.length ci most (a.heap.size+1)) 68)).heap.size=a.heap.size+1+1+1:=by simp[t]
 replace l:(n.alloc (.cells (Qcm f pm m.length cm pi inp.length ci most (a.heap.size+1)) 68)).heap[a.heap.size]?=_:=(Below.heap_alloc _ _ _ (by omega)).trans l;replace p:(n.alloc (.cells (Qcm f pm m.length cm pi inp.length ci most (a.heap.size+1)) 68)).heap[a.heap.size+1]?=_:=(Below.heap_alloc _ _ _ (by omega)).trans p;generalize n.alloc (.cells (Qcm f pm m.length cm pi inp.length ci most (a.heap.size+1)) 68)=z at *;clear q u v t;obtain⟨F,J⟩:∃ F,a.heap.size=F:=⟨_,Z⟩
 rw[J] at l p s B |-
 let ow:Nat->Nat:=fun x=>if x=F+1+1 then 1 else if d<=x/\x<b then 2 else if x=F+1 then 3 else if x=F then 5 else 0
 have y:∀ x,b<=x->x<F->ow x=0:=fun x L N=>by
  show (if x=F+1+1 then 1 else if d<=x/\x<b then 2 else if x=F+1 then 3 else if x=F then 5 else 0)=0;rw[Xr (by omega),Xr (by omega),Xr (by omega),Xr (by omega)]
 have w:∀ x,ow x≠0->d<=x/\x<F+1+1+1:=fun x h=>by
  have h:(if x=F+1+1 then 1 else if d<=x/\x<b then 2 else if x=F+1 then 3 else if x=F then 5 else 0)≠0:=h;split at h
  ·omega
  ·split at h
   ·omega
   ·split at h
    ·omega
    ·split at h
     ·omega
     ·exact absurd Z h
 refine⟨⟨ow,f,bp,pm,cm,pi,ci,.slice (some ⟨F+1,0,none⟩) 1 1,Nv,Nv,⟨F,Nv⟩,[],lo,b⟩,⟨s,?_,?_,?_,D,?_,⟨none,0,Z,fun i C=>by simp[RM.start] at C⟩,⟨Z,.inl ⟨Z,Z⟩⟩,?_,Xs Z,fun x c=>?_,fun x c=>by simp[Value.ownBlock] at c,fun x c=>?_,?_⟩,fun x c=>(w x c).1,Z,Z⟩
 ·have k:=I.step (P:=fun _=>False) (P':=fun _=>False) (w':=z) ⟨j.os,j.tape,j.output,j.size,fun x c _=>j.block x c,fun _ h=>h.elim⟩ (fun _ _ h=>h);refine⟨k.1.mono (fun x c _=>?_),k.2⟩
  show (if x=F+1+1 then 1 else if d<=x/\x<b then 2 else if x=F+1 then 3 else if x=F then 5 else 0)=2;rw[Xr (by omega),Xs c]
 ·exact(QaM 6).keep (fun k e o=>j.block k o) (fun k e o=>⟨y k e (by omega),e,by show k<F+1+1;omega⟩) G
 ·exact intsL.keep (fun k e o=>j.block k o) (fun k e o=>⟨y k e (by omega),e,by show k<F+1+1;omega⟩) E
 ·exact⟨Z,.inr ⟨F+1,1,#[Pv F 0],Z,Xb _,p,Ze,by unfold maxLen;omega,Z,Z⟩⟩
 ·refine⟨⟨⟨l,⟨Z,.inl ⟨Z,Z⟩⟩⟩,?_,fun k e=>by simp[Value.ownBlock] at e⟩,Y⟩
  show (if F=F+1+1 then 1 else if d<=F/\F<b then 2 else if F=F+1 then 3 else if F=F then 5 else 0)=5;rw[Xr (by omega),Xr (by omega),Xr (by omega),Xs Z]
 ·have:x=F+1:=by simpa[Value.ownBlock] using c.symm
  subst this;show (if F+1=F+1+1 then 1 else if d<=F+1/\F+1<b then 2 else if F+1=F+1 then 3 else if F+1=F then 5 else 0)=3;rw[Xr (by omega),Xr (by omega),Xs Z]
 ·rw[B];exact(w x c).2
 ·show lo<=z.heap.size;omega
def Qju (w:World) (m:List (MFunc 6)) (inp:List Int) (most pages:Nat) (e:Ending) (w':World):Prop :=
 ∃ b g,e=.returned (.tuple #[Pv b 0,Qbv 0 0])/\WAt w' b most m (RM.start inp pages) g/\(∀ x,g.A x->w.heap.size<=x)/\w.heap.size<=b/\(g.lo=w.heap.size/\w.heap.size<=g.lk)/\Below w.heap.size w w'
theorem Qgi {m:List (MFunc 6)}(hM:(QaM 6).In w All m [.slice pm m.length cm]) (hs:Qbe m) (hI:intsL.In w All inp [.slice pi inp.length ci]) (r:∀ x∈inp,Qnd x) (hi:inp.length<=200) (hf:most<=20000) (hp:pages<=64){a0:Int}
 (CV:∀ wx,Below w.heap.size w wx->Calls prog 66 #[.agg #[.slice pm m.length cm]] wx fun e w'=>e=.returned (Qbv 0 a0)/\Below wx.heap.size wx w') :
 Calls prog 32 #[.agg #[.slice pm m.length cm],.slice pi inp.length ci,Iv (most:Int),Iv (pages:Int)] w fun e w'=>Qju w m inp most pages e w':=by
 have HM:=Qc hM;have HS:=Qc hs;have HI:=Qc hI;have Q:=Qc r;have HL:=Qc (Xh hi (Xh hf hp));have u:=Qc (Qko w (.cells #[.slice pm m.length cm] 24) (.cells #[Iv 0,Iv 0] 32));have V:=Qc CV;have d1:decide ((inp.length:Int)>200)=false:=Xu (by omega);have d2:decide ((most:Int)<0)=false:=Xu (by omega);have d3:decide ((most:Int)>20000)=false:=Xu (by omega);clear hM hs hI r hi hf hp CV;go_enter func32,ntmps32
 go_upto_region 1 with fail
 have z:Hid (Blk ((w.alloc (.cells #[.slice pm m.length cm] 24)).alloc (.cells #[Iv 0,Iv 0] 32)) w.heap.size #[.slice pm m.length cm] 24):=QnN w #[.slice pm m.length cm] 24 _;have BY:Hid (Blk ((w.alloc (.cells #[.slice pm m.length cm] 24)).alloc (.cells #[Iv 0,Iv 0] 32)) (w.heap.size+1) #[Iv 0,Iv 0] 32):=Qmo w _ #[Iv 0,Iv 0] 32;generalize (w.alloc (.cells #[.slice pm m.length cm] 24)).alloc (.cells #[Iv 0,Iv 0] 32)=w2 at u z BY |-;obtain⟨Y,hY⟩:∃ Y,w.heap.size+1=Y:=⟨_,Z⟩
 have HY:Hid (w.heap.size<=Y):=by show _<=_;omega
 rw[hY] at BY |-
 clear hY;have x0:=Qb z.out 0 _ Z;generalize hX:w.heap.size=X at x0 z |-;have n:=Qc (V.out w2 u.out);go_upto_region 2 with (go_at_call 66;refine n.out.mono ?_;rintro W E ⟨rfl,M⟩)
 have B:=Qe E #[Iv 0,Iv a0] 32;have A:=Qc (M.trans ((ZO E (.cells #[Iv 0,Iv a0] 32)).mono M.size));clear M n;generalize E.alloc (.cells #[Iv 0,Iv a0] 32)=w4 at B A |-;generalize E.heap.size=F at B |-;have c0:=Qb B 0 _ Z;clear B x0;have CE:=Qc (Qj6 w4 pages HL.out.2.2);go_upto_region 7 with (go_at_call 67;refine CE.out.mono ?_;rintro W i ⟨be,bp,rfl,hE,C⟩)
 clear c0 CE;have B6:=Qc (C.trans ((ZO i (.cells #[Iv 0,Iv 0] 32)).mono C.size));have H:=Qc (hE.step (P:=fun _=>False) (P':=fun _=>False) (w':=i.alloc (.cells #[Iv 0,Iv 0] 32)) ⟨Z,Z,Z,by simp,fun x f _=>Below.heap_alloc _ _ _ f,fun _ h=>h.elim⟩ (fun _ _ h=>h));have j:Hid (w4.heap.size<=i.heap.size/\i.heap.size<=(i.alloc (.cells #[Iv 0,Iv 0] 32)).heap.size):=⟨C.size,by simp⟩;have G:=Qe i #[Iv 0,Iv 0] 32;clear hE C;generalize i.alloc (.cells #[Iv 0,Iv 0] 32)=p at B6 H j G |-;generalize i.heap.size=I at H j G |-;have g0:=Qb G 0 _ Z;clear G;have U:=Qc (A.out.trans (B6.out.mono A.out.size));have X6:=Qk (Qb z.out 0 _ Z) U.out;have y:=Qc (u.out.trans (U.out.mono u.out.size));go_upto_region 9 with fail
 have CO:=Qc (Qgp m pm cm p (Ya HM.out y.out) HS.out);have n:Hid (∀ wx,Below p.heap.size p wx->Calls prog 48 #[.slice pi inp.length ci] wx fun e w'=>Qcl wx inp e w'):=fun wx bx=>QgZ (Ya (Ya HI.out y.out) bx) (by have:=HL.out.1;omega);clear g0;have ad:=Qc (Blk.below BY.out U.out);go_wp2_with (first | (go_at_call 47;refine CO.out.mono ?_;rintro W w7 ⟨v7,rfl,⟨S,N,rfl,s⟩,b⟩) | (go_at_call 48;refine(n.out _ b).mono ?_;rintro W c ⟨L,c8,rfl,O,l,q,d⟩;have K:=(Qko c (.cells #[Iv 0,Iv 0,Iv 0,Nv] 132) (.cells #[Pv c.heap.size 0] 130)).alloc (by simp;omega) (.cells #[Pv be 0,.slice S m.length N,.slice L inp.length c8,Iv (most:Int),.slice (some ⟨c.heap.size+1,0,none⟩) 1 1,Iv 0,Nv,Nv,Iv 0,.bool false] 68);have a:=Blk.below (Blk.below (Blk.below ad.out b) d) K;have y0:=Qb a 0 _ Z;have y1:=Qb a 1 _ Z;have z0:=Qj a 0;have z1:=Qj a 1))
 have ae:p.heap.size<=w7.heap.size:=b.size;have ag:=d.size;have E8:=(H.out.step (P:=fun _=>False) (P':=fun _=>False) (w':=w7) ⟨b.os,b.tape,b.output,b.size,fun x f _=>b.block x f,fun _ h=>h.elim⟩ (fun _ _ h=>h)).step (P:=fun _=>False) (P':=fun _=>False) (w':=c) ⟨d.os,d.tape,d.output,d.size,fun x f _=>d.block x f,fun _ h=>h.elim⟩ (fun _ _ h=>h);obtain⟨T,af⟩:=j.out
 have M8:(QaM 6).In c (fun x=>I<=x) m [.slice S m.length N]:=Ya (Yc s (fun k J _=>by have J:p.heap.size<=k:=J;show I<=k;omega)) d;have I8:intsL.In c (fun x=>I<=x) inp [.slice L inp.length c8]:=Qk3 l Q.out (fun x f=>by have:=q x f;show I<=x;omega);have aa:w.heap.size<=w4.heap.size:=Zt u.out.size A.out.size;obtain⟨g,A9,hg,ab,ah⟩:=WAt.begin (most:=most) (lo:=w.heap.size) E8 M8 I8 O (by omega) T (by omega)
 have C9:=y.out.trans ((b.trans ((d.trans (K.mono d.size)).mono b.size)).mono y.out.size);have ac:w.heap.size<=c.heap.size+1+1:=by omega
 have o:w.heap.size<=g.lk:=by omega
 clear y0 y1 z0 z1 K E8 M8 I8 s l q b d CO n H;generalize ((c.alloc (.cells #[Iv 0,Iv 0,Iv 0,Nv] 132)).alloc (.cells #[Pv c.heap.size 0] 130)).alloc (.cells (Qcm be S m.length N L inp.length c8 most (c.heap.size+1)) 68)=D at *
 have R:((D.setCell ⟨Y,0,none⟩ (Iv 0)).setCell ⟨Y,1,none⟩ (Iv 0)).heap[Y]?=some (.cells #[Iv 0,Iv 0] 32 (0,0)):=by
  rw[Qh (Qh a 0 _) 1 _]
  simp
 have t:Below D.heap.size D ((D.setCell ⟨Y,0,none⟩ (Iv 0)).setCell ⟨Y,1,none⟩ (Iv 0)):=⟨Z,Z,Z,by simp,fun k J=>by
  by_cases e:k=Y
  ·subst e;exact R.trans a.symm
  ·rw[Xd _ _ _ _ e,Xd _ _ _ _ e]⟩
 have f0:=Qb R 0 _ Z;have f1:=Qb R 1 _ Z;exact Xy (v:=.tuple #[Pv (c.heap.size+1+1) 0,Qbv 0 0]) (by simp[results,results32,go_sem,f0,f1]) Z ⟨_,g,Z,A9.below t,fun x f=>Zt aa (hg x f),ac,⟨ab,o⟩,C9.trans (t.mono C9.size)⟩
section
variable {m:List (MFunc 6)}{op:Int->Int->Int->Option Int}{R N r:RM}{x:Qs}{most:Nat}
theorem QdE (h size:Int) (l:List Int):(R.thing h size l).fuel=R.fuel/\(R.thing h size l).back=R.back:=by
 unfold RM.thing;split<;>exact⟨Z,Z⟩
theorem QhT (h:R.part x=some r):r.fuel=R.fuel/\r.back=R.back:=by
 unfold RM.part at h;repeat' split at h
 all_goals first | (cases h;done) | (cases h;exact⟨Z,Z⟩)
def FuO (f:Nat) (k:List Int) (o:Option RM):Prop:=∀ N,o=some N->N.fuel=f/\N.back=k
theorem FuO.no {k:List Int}:FuO f k none:=fun N h=>by cases h
theorem FuO.some {k:List Int}(h:R.fuel=f/\R.back=k):FuO f k (some R):=fun N e=>by cases e;exact h
theorem FuO.ite {k:List Int}{c:Prop}[Decidable c] {a b:Option RM}(d:c->FuO f k a) (e:¬ c->FuO f k b):FuO f k (if c then a else b):=by
 by_cases h:c
 ·rw[Xs h];exact d h
 ·rw[Xr h];exact e h
theorem ins_fuO:FuO R.fuel R.back (RM.ins op R x):=by
 unfold RM.ins;refine FuO.ite (fun _=>.some ⟨Z,Z⟩) fun _=>FuO.ite (fun _=>?_) fun _=>FuO.ite (fun _=>FuO.ite (fun _=>.some ⟨Z,Z⟩) (fun _=>.some ⟨Z,Z⟩)) fun _=>FuO.ite (fun _=>?_) fun _=>FuO.ite (fun _=>?_) fun _=>FuO.ite (fun _=>?_) fun _=>FuO.ite (fun _=>?_) fun _=>FuO.ite (fun _=>?_) fun _=>FuO.ite (fun e=>FuO.ite (fun d=>?_) (fun _=>.some ⟨Z,Z⟩)) (fun _ N h=>QhT h)
 ·cases iAt R.top.v x.a with
  | none=>exact .no
  | some a =>
    cases iAt R.top.v x.b with
    | none=>exact .no
    | some b =>
      simp only
      cases op x.k a b with
      | none=>exact .some ⟨Z,Z⟩
      | some c=>exact .some ⟨Z,Z⟩
 ·cases iAt R.top.v x.a with
  | none=>exact .no
  | some a=>exact .some ⟨Z,Z⟩
 ·cases iAt R.top.v x.a with
  | none=>exact .no
  | some a=>cases Qaz R.top.v x.args with
    | none=>exact .no
    | some l=>exact .some (QdE _ _ _)
 ·cases iAt R.top.v x.a with
  | none=>exact .no
  | some a=>cases iAt R.top.v x.b with
    | none=>exact .no
    | some k=>exact FuO.ite (fun _=>.some (QdE _ _ _)) (fun _=>.some ⟨Z,Z⟩)
 ·cases R.inp with
  | nil=>exact .some ⟨Z,Z⟩
  | cons k l=>exact .some ⟨Z,Z⟩
 ·cases iAt R.top.v x.a with
  | none=>exact .no
  | some a=>exact FuO.ite (fun _=>.some ⟨Z,Z⟩) (fun _=>.some ⟨Z,Z⟩)
 ·cases Qaz R.top.v x.args with
  | none=>exact .no
  | some l=>exact .some ⟨Z,Z⟩
theorem QjS (h:RM.ins op R x=some r):r.fuel=R.fuel/\r.back=R.back:=ins_fuO r h
theorem Qeq {t:MTo}(h:R.to t=some r):r.fuel=R.fuel/\r.back=R.back:=by
 unfold RM.to at h;split at h
 ·cases h
 ·cases h;exact⟨Z,Z⟩
theorem Qi5 {e:ZE}(h:R.endd e=some r):r.fuel=R.fuel/\(r.done=true\/r.back=R.back):=by
 unfold RM.endd at h;split at h
 ·split at h
  ·cases h
  ·split at h
   ·cases h;exact⟨Z,.inl Z⟩
   ·cases h;exact⟨Z,.inr Z⟩
 ·split at h
  ·split at h
   ·cases h
   ·split at h<;>exact⟨(Qeq h).1,.inr (Qeq h).2⟩
  ·exact⟨(Qeq h).1,.inr (Qeq h).2⟩
theorem Qhd (a:N.fuel<=most) (h:RM.step m op most N=some r):r.fuel<=most/\(r.done=false->r.fuel=N.fuel+1/\r.back=N.back):=by
 unfold RM.step at h;split at h
 ·cases h;exact⟨a,fun h=>by cases h⟩
 split at h
 ·cases h
 split at h
 ·cases h
 split at h
 ·have q:r.fuel=N.fuel+1/\r.back=N.back:=QjS h;exact⟨by omega,fun _=>q⟩
 ·obtain⟨q,k⟩:r.fuel=N.fuel+1/\(r.done=true\/r.back=N.back):=Qi5 h
  exact⟨by omega,fun e=>⟨q,k.resolve_left (by rw[e];decide)⟩⟩
theorem rsteps_snoc:∀ (k:Nat) (R:RM),RM.steps m op most (k+1) R=(match RM.steps m op most k R with
 | none=>none
 | some N=>if N.done then some N else RM.step m op most N)
 | 0,R=>by
   simp only[RM.steps]
   split
   ·rfl
   ·cases RM.step m op most R<;>rfl
 | k+1,R=>by
   rw[RM.steps]
   split
   ·rename_i a
    rw[RM.steps,Xs a]
    simp[a]
   ·rename_i a
    rw[RM.steps,Xr a]
    cases RM.step m op most R with
    | none=>rfl
    | some R'=>exact rsteps_snoc k R'
theorem QfS (h:RM.steps m op most k R=some N) (b:N.done=true):∀ n,k<=n->RM.steps m op most n R=some N:=fun n a=>by
 obtain⟨j,rfl⟩:=Nat.le.dest a
 clear a
 induction j with
 | zero=>exact h
 | succ j ih=>rw[<-Nat.add_assoc,rsteps_snoc,ih];simp[b]
theorem Qeb (H:(Qr m).1=0) (inp:List Int)(a:pages<=64) (n:Nat):∃ N,RM.steps m op most n (RM.start inp pages)=some N:=by
 obtain⟨c,b,-,h,-⟩:=QkN (op:=op) (most:=most) H inp a n
 exact⟨b,h⟩
end
def QfA (m:List (MFunc 6)) (most:Nat) (R0:RM):Prop:=∀ k,∃ N,RM.steps m aOp most k R0=some N
structure Qfc (wL w:World) (b most:Nat) (m:List (MFunc 6)) (R0 N:RM) (g:WG) (k:Nat):Prop where
 at_:WAt w b most m N g
 far:∀ x,g.A x->wL.heap.size<=x
 bel:Below wL.heap.size wL w
 st:RM.steps m aOp most k R0=some N
 fu:N.done=false->N.fuel=k
 le:N.fuel<=most
 bk:N.done=false->N.back=[]
def boolW:Value->Bool
 | .bool b=>b
 | _=>false
def Qkm (b most:Nat) (w:World):Nat:=if boolW ((w.cell? ⟨b,9,none⟩).getD undef) then 0 else most+1 - (intOf ((w.cell? ⟨b,8,none⟩).getD undef)).toNat+1
section
variable {wL w w':World}{b most k:Nat}{m:List (MFunc 6)}{R0 N:RM}{g:WG}
theorem WAt.left (S:WAt w b most m N g):Qkm b most w=if N.done then 0 else most+1 - N.fuel+1:=by
 unfold Qkm;have c:w.cell? ⟨b,9,none⟩=some (.bool N.done):=Qb S.box 9 _ Z;have d:w.cell? ⟨b,8,none⟩=some (Iv N.fuel):=Qb S.box 8 _ Z;rw[c,d]
 by_cases a:N.done=true
 ·simp[a,boolW]
 ·simp[a,intOf,boolW]
theorem Qfc.below (Z:Qfc wL w b most m R0 N g k) (h:Below w.heap.size w w'):Qfc wL w' b most m R0 N g k:=⟨Z.at_.below h,Z.far,Z.bel.trans (h.mono Z.bel.size),Z.st,Z.fu,Z.le,Z.bk⟩
theorem WAt.high (S:WAt w b most m N g) (h:N.back=[]):WAt w b most m N { g with lo:=w.heap.size } :=
 ⟨S.box,S.est,S.mod,S.inp,S.inpC,S.calls,by
  obtain⟨p,c,e,-⟩:=S.back
  exact⟨p,c,e,fun i a=>by rw[h] at a;exact absurd a (XG i)⟩,S.out,S.frs,S.ob,S.oc,S.oo,S.lt,Ze⟩
theorem Qfc.go (n:(modFault m).1=0) (t:most<=20000) (u:QfA m most R0) (o:ROk m 0 R0) (Z:Qfc wL w b most m R0 N g k) (d:N.done=false) :
 Calls prog 34 #[Pv b 0] w fun e w'=>e=.returned (.tuple #[])/\∃ N' g',Qfc wL w' b most m R0 N' g' (k+1)/\Qz g.A g'.A w w'/\(g'.lo=w.heap.size/\g'.lk=g.lk)/\(N'.done=false->N'.fuel=N.fuel+1):=by
 obtain⟨r,l⟩:=u (k+1)
 have a:=l;rw[rsteps_snoc,Z.st] at a
 simp only[d] at a
 have a:RM.step m aOp most N=some r:=by simpa using a
 have p:=Z.fu d;have f:=Z.le;have I:=QcI n o k Z.st;obtain⟨q,i⟩:=Qhd f a
 refine(Qic (Z.at_.high (Z.bk d)) I (by omega) n f (by omega) d a).mono ?_
 rintro e w' ⟨rfl,g',s,c⟩;refine⟨Yz,r,g',⟨s,fun x j=>?_,?_,l,fun h=>by rw[(i h).1,p],q,fun h=>by rw[(i h).2,Z.bk d]⟩,c.1,⟨c.lo,c.lk⟩,fun h=>(i h).1⟩
 ·rcases c.own x j with e | e
  ·exact Z.far x e
  ·have:=Z.bel.size;omega
 ·exact⟨c.os.trans Z.bel.os,c.tape.trans Z.bel.tape,c.output.trans Z.bel.output,Zt Z.bel.size c.size,fun x j=>(c.block x (by have:=Z.bel.size;omega) (fun e=>by have:=Z.far x e;omega)).trans (Z.bel.block x j)⟩
theorem Qfc.end_ (Z:Qfc wL w b most m R0 N g k) (c:k<=most+1) (a:N.done=true):RM.steps m aOp most (most+1) R0=some N:=QfS Z.st a _ c
def QdX (w:World) (m:List (MFunc 6)) (inp:List Int) (most pages:Nat) (e:Ending) (w':World):Prop :=
 ∃ N v,RM.steps m aOp most (most+1) (RM.start inp pages)=some N/\N.done=true/\QjH w.heap.size N v w'/\e=.returned (.tuple #[v,Qbv 0 0])/\Below w.heap.size w w'
theorem QjV (hm:(modFault m).1=0) (D:most<=20000) (HS:QfA m most (RM.start inp pages)) (I0:ROk m 0 (RM.start inp pages))
 (K:∀ wx,Below w.heap.size w wx->Calls prog 32 #[.agg #[.slice pm m.length cm],.slice pi inp.length ci,Iv (most:Int),Iv (pages:Int)] wx fun e w'=>Qju wx m inp most pages e w') :
 Calls prog 30 #[.agg #[.slice pm m.length cm],.slice pi inp.length ci,Iv (most:Int),Iv (pages:Int)] w fun e w'=>QdX w m inp most pages e w':=by
 have f:=((((Bxs.start w).new #[.slice pm m.length cm] 24)).new #[Iv 0,Nv,Nv,Iv 0] 44).new #[Iv 0,Iv 0] 32;rw[World.size_alloc,World.size_alloc] at f
 have f:=Qc f;have HM:=Qc hm;have HI:=Qc I0;have ak:=Qc D;have ah:=Qc HS;have ag:=Qc K;clear hm I0 D HS K;go_enter func30,ntmps30
 go_upto_region 1 with fail
 generalize ((w.alloc (.cells #[.slice pm m.length cm] 24)).alloc (.cells #[Iv 0,Nv,Nv,Iv 0] 44)).alloc (.cells #[Iv 0,Iv 0] 32)=r at f |-;have af:Hid (w.heap.size<=w.heap.size+1):=by show _<=_;omega
 have ai:Hid (w.heap.size<=w.heap.size+1+1):=by show _<=_;omega
 generalize w.heap.size+1+1=h at f ai |-;generalize w.heap.size+1=c at f af |-;generalize hX:w.heap.size=X at f |-;have HX:=Qc hX;have K:=Qc (ag.out r (by rw[<-HX.out] at f;exact f.out.bel));have x0:r.cell? ⟨X,0,none⟩=some (.slice pm m.length cm):=f.out.cell (a:=[_,_]) 0 _ Yz;go_upto_region 2 with (go_at_call 32;refine K.out.mono ?_;rintro T o ⟨b,g,rfl,S4,E,aa,H,Q⟩)
 have S:=Qc ((f.out.below Q).new #[Iv 0,Iv 0] 32);have Z5:Hid (Qfc r (o.alloc (.cells #[Iv 0,Iv 0] 32)) b most m (RM.start inp pages) (RM.start inp pages) g 0):=⟨S4.below (ZO _ _),E,Q.trans ((ZO _ _).mono Q.size),Yz,fun _=>rfl,Xb _,fun _=>rfl⟩;have am:Hid (r.heap.size<=o.heap.size):=Q.size;clear S4 E aa H Q K x0;have aq:=Qc f.out.bel
 have G:Hid (r.heap.size<=o.heap.size/\o.heap.size<(o.alloc (.cells #[Iv 0,Iv 0] 32)).heap.size):=by
  constructor
  ·exact am.out
  ·simp
 clear hX;generalize o.alloc (.cells #[Iv 0,Iv 0] 32)=w5 at S Z5 G |-;generalize o.heap.size=F at S G |-;have f0:w5.cell? ⟨F,0,none⟩=some (Iv 0):=S.out.cell (a:=[]) 0 _ Yz;go_upto_region 4 with fail
 clear f0;go_loopw [] (fun wr=>∃ N g k,Qfc r wr b most m (RM.start inp pages) N g k/\k<=most+1) (fun wr=>Qkm b most wr)
 case atStart=>exact⟨_,_,_,Z5.out,Xb _⟩
 case round =>
  obtain⟨N,g',k,Z,hk⟩:=hrel
  have L:=Qc (QeN Z.at_)
  cases hd:N.done with
  | false =>
    have C:=Qc (Z.go HM.out ak.out ah.out HI.out hd);have HL:=Qc Z.at_.left;rw[hd] at L HL
    have ap:=Z.le;have al:k+1<=most+1:=by have:=Z.fu hd;omega
    clear Z hd;go_wp2_with (first | (go_at_call 33;refine L.out.mono ?_;rintro T w' ⟨rfl,p⟩;have p:=p.symm;subst p) | (go_at_call 34;refine C.out.mono ?_;rintro T w6 ⟨rfl,N',g6,Z6,T6,-,aj⟩))
    go_roundw
    case rel=>exact⟨N',g6,_,Z6,al⟩
    case measure =>
     rw[HL.out,Z6.at_.left]
     have h6:=Z6.le
     cases hd6:N'.done with
     | true=>simp
     | false=>have:=aj hd6;simp;omega
  | true =>
    have ad:=Qc (Z.end_ hk hd);have HD:=Qc hd
    have HK:Hid (N.out.length<=1000000/\N.back.length<=1000000):=by
     have J:=QcI HM.out HI.out k Z.st;exact⟨by have:=J.out.1;omega,by have:=J.out.2;omega⟩
    have CO:=Qc (Qco Z.at_ HK.out.1 HK.out.2);have I:=Qc (f.out.below Z.bel);have ac:Hid (c<wr.heap.size/\h<wr.heap.size):=⟨(I.out.at (a:=[_])).lt,(I.out.at (a:=[])).lt⟩;have ae:Hid (w.heap.size<=wr.heap.size):=I.out.bel.size;rw[hd] at L
    clear Z hd hk;go_upto_region 6 with (go_at_call 33;refine L.out.mono ?_;rintro T w' ⟨rfl,p⟩;have p:=p.symm;subst p)
    go_wp2_with fail
    refine CO.out.mono ?_;rintro T w8 ⟨v,rfl,⟨vb,vo,rfl,⟨y,s,rfl,A,R,B⟩,⟨u,q,rfl,M,P,z⟩⟩,b8⟩;have d:=Qc (I.out.below b8);have r0:=d.out.cell (a:=[_]) 0 _ Yz;have r1:=d.out.cell (a:=[_]) 1 _ Yz;have r2:=d.out.cell (a:=[_]) 2 _ Yz;have r3:=d.out.cell (a:=[_]) 3 _ Yz;have z0:=d.out.free (a:=[_]) 0;have z1:=d.out.free (a:=[_]) 1;have z2:=d.out.free (a:=[_]) 2;have z3:=d.out.free (a:=[_]) 3;have s0:=d.out.cell (a:=[]) 0 _ Yz;have s1:=d.out.cell (a:=[]) 1 _ Yz;have y0:=d.out.free (a:=[]) 0;have y1:=d.out.free (a:=[]) 1;have W:¬ c=h:=fun e=>by have:=d.out.nd;simp[e] at this
    have an:¬ h=c:=fun e=>W e.symm;have i:=Qc (Xh A (Xh R B));have j:=Qc (Xh M (Xh P z));clear A R B M P z b8 CO L f S I Z5;go_wp2_with fail
    have n:=(((((d.out.set (a:=[_]) 0 (Iv N.fin)).set (a:=[_]) 1 (.slice y N.back.length s)).set (a:=[_]) 2 (.slice u N.out.length q)).set (a:=[_]) 3 (Iv N.fuel)).set (a:=[]) 0 (Iv 0)).set (a:=[]) 1 (Iv 0)
    have V:∀ x,wr.heap.size<=x->((((((w8.setCell ⟨c,0,none⟩ (Iv N.fin)).setCell ⟨c,1,none⟩ (.slice y N.back.length s)).setCell ⟨c,2,none⟩ (.slice u N.out.length q)).setCell ⟨c,3,none⟩ (Iv N.fuel)).setCell ⟨h,0,none⟩ (Iv 0)).setCell ⟨h,1,none⟩ (Iv 0)).heap[x]?=w8.heap[x]?:=fun x l=>by
     have h1:=ac.out;have U:x≠c:=by omega
     have n9:x≠h:=by omega
     rw[Xd _ _ _ _ n9,Xd _ _ _ _ n9,Xd _ _ _ _ U,Xd _ _ _ _ U,Xd _ _ _ _ U,Xd _ _ _ _ U]
    generalize ((((((w8.setCell ⟨c,0,none⟩ (Iv N.fin)).setCell ⟨c,1,none⟩ (.slice y N.back.length s)).setCell ⟨c,2,none⟩ (.slice u N.out.length q)).setCell ⟨c,3,none⟩ (Iv N.fuel)).setCell ⟨h,0,none⟩ (Iv 0)).setCell ⟨h,1,none⟩ (Iv 0))=t at n V |-;have f0:t.cell? ⟨c,0,none⟩=some (Iv N.fin):=n.cell (a:=[_]) 0 _ Yz;have f1:t.cell? ⟨c,1,none⟩=some (.slice y N.back.length s):=n.cell (a:=[_]) 1 _ Yz;have f2:t.cell? ⟨c,2,none⟩=some (.slice u N.out.length q):=n.cell (a:=[_]) 2 _ Yz;have f3:t.cell? ⟨c,3,none⟩=some (Iv N.fuel):=n.cell (a:=[_]) 3 _ Yz;have q0:t.cell? ⟨h,0,none⟩=some (Iv 0):=n.cell (a:=[]) 0 _ Yz;have q1:t.cell? ⟨h,1,none⟩=some (Iv 0):=n.cell (a:=[]) 1 _ Yz;have O:=ae.out
    exact Xy (v:=.tuple #[.agg #[Iv N.fin,.slice y N.back.length s,.slice u N.out.length q,Iv N.fuel],Qbv 0 0]) (by simp[results,results30,go_sem,f0,f1,f2,f3,q0,q1]) Yz
     ⟨N,_,ad.out,HD.out,⟨_,_,Yz,⟨y,s,Yz,i.out.1,QY i.out.2.1 (fun x l=>V x (i.out.2.2 x l)),fun x l=>Zt O (i.out.2.2 x l)⟩,⟨u,q,Yz,j.out.1,QY j.out.2.1 (fun x l=>V x (j.out.2.2 x l)),fun x l=>Zt O (j.out.2.2 x l)⟩⟩,Yz,n.bel⟩
end
section
variable {wL w w':World}{b bx by_ most j k s F:Nat}{m o:List (MFunc 6)}{R X0 Y0 X Y:RM}{g gx gy:WG}{O O':Nat->Prop}{ff:Array Value}{T:TypeId}
theorem WAt.other (S:WAt w b most m R g) (T:Qz O O' w w') (e:∀ x,g.A x->¬ O x) (f:∀ x,g.lk<=x->x<b->¬ O x) (h:WIn w (fun x=>(g.ow x=0/\g.lo<=x)/\¬ O x) R.back g.vb):WAt w' b most m R g:=by
 have d:∀ x,g.A x->w'.heap[x]?=w.heap[x]?:=fun x a=>T.block x (S.lt x a) (e x a);have i:=S.est.step (P:=O) (P':=O') T (fun x a=>e x (by show g.ow x≠0;have a:g.ow x=2:=a;omega));refine⟨(d b (by show g.ow b≠0;rw[S.ob];decide)).trans S.box,?_,?_,?_,S.inpC,QY S.calls (fun x a=>d x (by show g.ow x≠0;rw[S.oc x a];decide)),?_,QY S.out (fun x a=>d x (by show g.ow x≠0;rw[S.oo x a];decide)),S.frs.keep (fun _ _=>rfl) (fun x a j _=>d x (by show g.ow x≠0;omega)),S.ob,S.oc,S.oo,fun x a=>Zl (S.lt x a) T.size,Zt S.low T.size⟩
 ·exact i
 ·exact(QaM 6).keep (fun x a c=>T.block x c (f x a.2.1 a.2.2)) (fun x a _=>a) S.mod
 ·exact intsL.keep (fun x a c=>T.block x c (f x a.2.1 a.2.2)) (fun x a _=>a) S.inp
 ·exact WIn.keep (fun x a c=>T.block x c a.2) (fun x a _=>a.1) h
structure Qdt (wL w:World) (bx by_ most:Nat) (m o:List (MFunc 6)) (X0 Y0 X Y:RM) (gx gy:WG) (j k s F:Nat) (ff:Array Value) (T:TypeId):Prop where
 x:Qfc wL w bx most m X0 X gx j
 y:Qfc wL w by_ most o Y0 Y gy k
 ap:∀ z,gx.A z->¬ gy.A z
 ys:∀ z,gy.A z->s<=z
 xs:∀ z,gx.A z->z<s\/by_<z
 bs:bx<s
 ly:s<=gy.lk
 xb:WIn w (fun z=>(gx.ow z=0/\gx.lo<=z)/\¬ gy.A z) X.back gx.vb
 yb:WIn w (fun z=>(gy.ow z=0/\gy.lo<=z)/\¬ gx.A z) Y.back gy.vb
 fb:w.heap[F]?=some (.cells ff T (0,0))
 fx:¬ gx.A F
 fy:¬ gy.A F
theorem Qdt.goX (D:(modFault m).1=0) (f:most<=20000) (t:QfA m most X0) (p:ROk m 0 X0) (Z:Qdt wL w bx by_ most m o X0 Y0 X Y gx gy j k s F ff T) (r:X.done=false) :
 Calls prog 34 #[Pv bx 0] w fun e w'=>e=.returned (.tuple #[])/\∃ X' gx',Qdt wL w' bx by_ most m o X0 Y0 X' Y gx' gy (j+1) k s F ff T/\(X'.done=false->X'.fuel=X.fuel+1):=by
 refine(Z.x.go D f t p r).mono ?_
 rintro e w' ⟨rfl,X',gx',i,b,⟨E,v⟩,C⟩;have H:=XC Z.y.at_.box;have n:=XC Z.fb;have l:∀ z,z<w.heap.size->¬ gx.A z->¬ gx'.A z:=fun z a h e=>(b.own z e).elim h (fun q=>by omega);refine⟨Yz,X',gx',⟨i,⟨Z.y.at_.other b (fun z u g=>Z.ap z g u) (fun z B G g=>?_) Z.yb,Z.y.far,i.bel,Z.y.st,Z.y.fu,Z.y.le,Z.y.bk⟩,fun z h c=>?_,Z.ys,fun z h=>?_,Z.bs,Z.ly,?_,?_,(b.block F n Z.fx).trans Z.fb,l F n Z.fx,Z.fy⟩,C⟩
 ·have I:=Z.ly;rcases Z.xs z g with e | e<;>omega
 ·exact l z (Z.y.at_.lt z c) (fun e=>Z.ap z e c) h
 ·rcases b.own z h with e | e
  ·exact Z.xs z e
  ·exact .inr (by omega)
 ·exact WIn.keep (fun _ _ _=>rfl) (fun z a _=>⟨a,fun c=>by
   have B:=Z.y.at_.lt z c;have G:=a.2;omega⟩) i.at_.back
 ·exact WIn.keep (fun z a d=>b.block z d a.2) (fun z a d=>⟨a.1,l z d a.2⟩) Z.yb
theorem Qdt.goY (E:(modFault o).1=0) (f:most<=20000) (v:QfA o most Y0) (t:ROk o 0 Y0) (Z:Qdt wL w bx by_ most m o X0 Y0 X Y gx gy j k s F ff T) :
 Calls prog 34 #[Pv by_ 0] w fun e w'=>e=.returned (.tuple #[])/\∃ Y' gy' k',Qdt wL w' bx by_ most m o X0 Y0 X Y' gx gy' j k' s F ff T:=by
 cases hd:Y.done with
 | true=>exact(Qg2 Z.y.at_ hd).mono fun e w' h=>⟨h.1,Y,gy,k,by rw[h.2];exact Z⟩
 | false =>
   refine(Z.y.go E f v t hd).mono ?_
   rintro e w' ⟨rfl,Y',gy',g,c,⟨G,i⟩,H⟩;have r:=XC Z.fb;have l:∀ z,z<w.heap.size->¬ gy.A z->¬ gy'.A z:=fun z a h e=>(c.own z e).elim h (fun q=>by omega);refine⟨Yz,Y',gy',k+1,⟨⟨Z.x.at_.other c (fun z B b=>Z.ap z B b) (fun z n p b=>?_) Z.xb,Z.x.far,g.bel,Z.x.st,Z.x.fu,Z.x.le,Z.x.bk⟩,g,fun z h b=>?_,fun z h=>?_,Z.xs,Z.bs,by rw[i];exact Z.ly,?_,?_,(c.block F r Z.fy).trans Z.fb,Z.fx,l F r Z.fy⟩⟩
   ·have u:=Z.ys z b;have D:=Z.bs;omega
   ·exact l z (Z.x.at_.lt z h) (Z.ap z h) b
   ·rcases c.own z h with e | e
    ·exact Z.ys z e
    ·have n:=Z.bs;have p:=Z.ly;have u:=XC Z.y.at_.box;have D:=Z.ys by_ (by show gy.ow by_≠0;rw[Z.y.at_.ob];decide);omega
   ·exact WIn.keep (fun z a d=>c.block z d a.2) (fun z a d=>⟨a.1,l z d a.2⟩) Z.xb
   ·exact WIn.keep (fun _ _ _=>rfl) (fun z a _=>⟨a,fun C=>by
     have n:=Z.x.at_.lt z C;have p:=a.2;omega⟩) g.at_.back
theorem Qdt.start {b:World}(a:Qfc wL w2 bx most m X0 X0 gx 0) (r:bx<w2.heap.size) (s:WIn w2 (fun z=>(gx.ow z=0/\gx.lo<=z)/\z<w2.heap.size) X0.back gx.vb)
 (S:WAt b by_ most o (RM.start inp pages) gy) (d:∀ x,gy.A x->w2.heap.size<=x) (v:w2.heap.size<=by_) (f:w2.heap.size<=gy.lk) (g:Below w2.heap.size w2 b) (u:b.heap[F]?=some (.cells ff T (0,0))) (k:¬ gx.A F) (n:¬ gy.A F) :
 Qdt wL b bx by_ most m o X0 (RM.start inp pages) X0 (RM.start inp pages) gx gy 0 0 w2.heap.size F ff T:=by
 have j:=a.bel.size;refine⟨a.below g,⟨S,fun x h=>Zt j (d x h),a.bel.trans (g.mono j),Z,fun _=>rfl,Xb _,fun _=>rfl⟩,fun z h t=>?_,d,fun z h=>.inl (a.at_.lt z h),r,f,?_,?_,u,k,n⟩
 ·have:=a.at_.lt z h
  have:=d z t
  omega
 ·exact WIn.keep (fun z _ f=>g.block z f) (fun z l f=>⟨l.1,fun e=>by have:=d z e;omega⟩) s
 ·obtain⟨p,c,e,-⟩:=S.back
  exact⟨p,c,e,fun i q=>absurd q (XG i)⟩
end
theorem Qjx (x:MTo) (a:Nat):x.form a true=if rangeC x.block 0 ((a:Int) - 1)=0 then handedC x.regs.length 16 x.args.length else rangeC x.block 0 ((a:Int) - 1):=by
 unfold MTo.form rangeC handedC manyC;simp only[Bool.true_eq_false,if_false]
 repeat' split
 all_goals omega
theorem Qi9 (x:MTo) (a:Nat):x.form a false=if x.block=0/\x.regs.length=0/\x.args.length=0 then 0 else 4:=by
 unfold MTo.form;simp only[if_true]
 repeat' split
 all_goals omega
theorem Qg1 (e:ZE) (b:Nat):e.form b=if e.op<1\/3<e.op then 3 else if (e.op≠2/\e.a≠0)\/(e.op≠3/\0<e.args.length) then 4 else if 8<e.args.length then 2
 else if e.yes.form b (e.op != 3)=0 then e.no.form b (e.op==2) else e.yes.form b (e.op != 3):=by
 unfold ZE.form;have i:decide (e.op≠3)=(e.op != 3):=by by_cases h:e.op=3<;>simp[h]
 have j:decide (e.op=2)=(e.op==2):=by by_cases h:e.op=2<;>simp[h]
 rw[i,j]
 by_cases d:e.op<1\/3<e.op
 ·simp[d]
 ·rw[Xr d,Xr d]
  by_cases c:(e.op≠2/\e.a≠0)\/(e.op≠3/\0<e.args.length)
  ·rw[Xs c,Xs (c.imp (fun h=>⟨h.2,h.1⟩) (fun h=>⟨h.2,h.1⟩))]
  ·rw[Xr c,Xr (fun h=>c (h.imp (fun h=>⟨h.2,h.1⟩) (fun h=>⟨h.2,h.1⟩)))]
   by_cases f:8<e.args.length
   ·simp[f]
   ·rw[Xr f,Xr f]
    by_cases g:e.yes.form b (e.op != 3)=0
    ·simp[g]
    ·simp[g]
theorem Ql5 {a:Int}{b c:Nat}{m e k:Option Addr}{i d l f j h:Nat}:Rd prog 230 #[.agg #[Iv fr,.slice m i d,.slice e l f,.slice k j h],.agg #[Iv a,.slice pR b cR,.slice pA c cA],.bool false] w (Iv (if a=0/\b=0/\c=0 then 0 else 4)):=by
 unfold Rd;rcases (show a=0/\b=0/\c=0\/¬ a=0\/a=0/\(0:Int)<b\/a=0/\b=0/\(0:Int)<c by omega) with ⟨rfl,rfl,rfl⟩ | g | ⟨rfl,g⟩|⟨rfl,rfl,g⟩
 rw[Xs ⟨Z,Z,Z⟩]
 rotate_left
 all_goals
  try rw[Xr (by omega)]
  try rw[<-bne_iff_ne,bne,Bool.not_eq_true'] at g
  go_enter func230,ntmps230
  go_wp2
  go_ret;exact⟨Z,QhA _ _ _⟩
theorem QlA {a:Int}{c d:Nat}{m o r:Option Addr}{j n l p b k:Nat}(G:b<2305843009213693952):Rd prog 230 #[.agg #[Iv fr,.slice m j n,.slice o l p,.slice r b k],.agg #[Iv a,.slice pR c cR,.slice pA d cA],.bool true] w (Iv (if rangeC a 0 ((b:Int) - 1)=0 then handedC c 16 d else rangeC a 0 ((b:Int) - 1))):=by
 have C:Hid (∀ f:World,Calls prog 262 #[Iv a,Iv 0,Iv ((b:Int) - 1)] f fun e z=>e=.returned (Iv (rangeC a 0 ((b:Int) - 1)))/\Below f.heap.size f z):=fun f=>QaB;have s:Hid (∀ f:World,Calls prog 264 #[.slice pR c cR,Iv 16,.slice pA d cA] f fun e z=>e=.returned (Iv (handedC c 16 d))/\Below f.heap.size f z):=fun f=>Qbg;generalize rangeC a 0 ((b:Int) - 1)=v at C |-;generalize handedC c 16 d=u at s |-;have i:Blk ((w.alloc (.cells #[Iv fr,.slice m j n,.slice o l p,.slice r b k] 89)).alloc (.cells #[Iv a,.slice pR c cR,.slice pA d cA] 82)) (w.heap.size+1) #[Iv a,.slice pR c cR,.slice pA d cA] 82:=Blk.new2 _ _ _ _;have g:Hid (Below w.heap.size w ((w.alloc (.cells #[Iv fr,.slice m j n,.slice o l p,.slice r b k] 89)).alloc (.cells #[Iv a,.slice pR c cR,.slice pA d cA] 82))):=QhA _ _ _;unfold Rd;by_cases x:v=0
 ·subst x;rw[Xs Z]
  go_enter func230,ntmps230
  go_wp2_with fail
  generalize ((w.alloc (.cells #[Iv fr,.slice m j n,.slice o l p,.slice r b k] 89)).alloc (.cells #[Iv a,.slice pR c cR,.slice pA d cA] 82))=B at i g |-;refine(C.out _).mono ?_
  rintro e t ⟨rfl,h⟩;have y:=(h.block _ (XC i)).trans i;have q:Hid (Below w.heap.size w t):=g.out.trans (h.mono g.out.size);have H:=Qb y 1 _ Z;have I:=Qb y 2 _ Z;clear h C i g y;go_wp2_with fail
  refine(s.out _).mono ?_
  rintro e E ⟨rfl,A⟩;have D:Hid (Below w.heap.size w E):=q.out.trans (A.mono q.out.size);clear A s q;go_wp2
  go_ret;exact⟨Z,D.out⟩
 ·rw[Xr x]
  have F:(v==0)=false:=by simpa using x
  go_enter func230,ntmps230
  go_wp2_with fail
  generalize ((w.alloc (.cells #[Iv fr,.slice m j n,.slice o l p,.slice r b k] 89)).alloc (.cells #[Iv a,.slice pR c cR,.slice pA d cA] 82))=B at i g |-;refine(C.out _).mono ?_
  rintro e t ⟨rfl,h⟩;have q:Hid (Below w.heap.size w t):=g.out.trans (h.mono g.out.size);clear h C s i g;go_wp2
  go_ret;exact⟨Z,q.out⟩
theorem QdG {x:MTo}{k e i:Option Addr}{h d j f c g:Nat}(a:Bool)(b:c<2305843009213693952) :
 Rd prog 230 #[.agg #[Iv fr,.slice k h d,.slice e j f,.slice i c g],.agg #[Iv x.block,.slice pR x.regs.length cR,.slice pA x.args.length cA],.bool a] w (Iv (x.form c a)):=by
 cases a
 ·rw[Qi9];exact Ql5
 ·rw[Qjx];exact QlA b
theorem Qk0 {a r G:Int}{p c l n J:Option Addr}{m k h o b g d j q K:Nat}{y B E:Option Addr}{u A x C D v:Nat}{t P:Int}(V:¬ (a<1\/3<a)) (W:¬ ((a≠2/\r≠0)\/(a≠3/\0<q))) (R:¬ 8<q)
 (M:Hid (∀ wx:World,Calls prog 230 #[.agg #[Iv fr,.slice y u A,.slice B x C,.slice E D v],.agg #[Iv yb,.slice p m k,.slice c h o],.bool (a != 3)] wx fun e w'=>e=.returned (Iv t)/\Below wx.heap.size wx w'))
 (I:Hid (∀ wx:World,Calls prog 230 #[.agg #[Iv fr,.slice y u A,.slice B x C,.slice E D v],.agg #[Iv G,.slice l b g,.slice n d j],.bool (a==2)] wx fun e w'=>e=.returned (Iv P)/\Below wx.heap.size wx w')) :
 Rd prog 185 #[.agg #[Iv fr,.slice y u A,.slice B x C,.slice E D v],.agg #[Iv a,Iv r,Iv yb,.slice p m k,.slice c h o,Iv G,.slice l b g,.slice n d j,.slice J q K]] w (Iv (if t=0 then P else t)):=by
 obtain⟨s,z⟩:∃ s,s=(w.alloc (.cells #[Iv fr,.slice y u A,.slice B x C,.slice E D v] 89)).alloc (.cells #[Iv a,Iv r,Iv yb,.slice p m k,.slice c h o,Iv G,.slice l b g,.slice n d j,.slice J q K] 84):=⟨_,Z⟩
 have f:Blk s w.heap.size #[Iv fr,.slice y u A,.slice B x C,.slice E D v] 89:=by rw[z];exact Blk.new1 _ _ _ _ _
 have i:Blk s (w.heap.size+1) #[Iv a,Iv r,Iv yb,.slice p m k,.slice c h o,Iv G,.slice l b g,.slice n d j,.slice J q K] 84:=by rw[z];exact Blk.new2 _ _ _ _
 have L:Hid (Below w.heap.size w s):=by rw[z];exact QhA _ _ _
 unfold Rd;have X:¬ (8:Int)<q:=by omega
 rcases (show a=1/\r=0/\q=0\/a=2/\q=0\/a=3/\r=0 by omega) with ⟨rfl,rfl,rfl⟩|⟨rfl,rfl⟩|⟨rfl,rfl⟩
 all_goals
  clear V W R;go_enter func185,ntmps185
  go_wp2_with fail
  rw[<-z]
  clear z;refine(M.out _).mono ?_
  rintro e Q ⟨rfl,F⟩;replace f:=(F.block _ (XC f)).trans f;replace i:=(F.block _ (XC i)).trans i;have H:Hid (Below w.heap.size w Q):=L.out.trans (F.mono L.out.size);clear F M L;by_cases O:t=0
  ·subst O;have c0:=Qb f 0 _ Z;have c1:=Qb f 1 _ Z;have c2:=Qb f 2 _ Z;have c3:=Qb f 3 _ Z;have d0:=Qb i 0 _ Z;have d5:=Qb i 5 _ Z;have d6:=Qb i 6 _ Z;have d7:=Qb i 7 _ Z;clear f i;go_wp2_with fail
   refine(I.out _).mono ?_
   rintro e T ⟨rfl,N⟩;have S:Hid (Below w.heap.size w T):=H.out.trans (N.mono H.out.size);clear N I H;go_wp2
   go_ret;exact⟨Z,S.out⟩
  ·have U:(t==0)=false:=by simpa using O
   clear I f i;go_wp2
   go_ret;exact⟨Z,H.out⟩
theorem Qf8 {a b x:Int}{q d m o r:Option Addr}{n l j p e i f k c s:Nat}{z B E:Option Addr}{t A y C D u:Nat}{v:Int}(h:(v=3/\(a<1\/3<a))\/(v=4/\¬ (a<1\/3<a)/\((a≠2/\b≠0)\/(a≠3/\0<c)))\/(v=2/\¬ (a<1\/3<a)/\¬ ((a≠2/\b≠0)\/(a≠3/\0<c))/\8<c)) :
 Rd prog 185 #[.agg #[Iv fr,.slice z t A,.slice B y C,.slice E D u],.agg #[Iv a,Iv b,Iv yb,.slice q n l,.slice d j p,Iv x,.slice m e i,.slice o f k,.slice r c s]] w (Iv v):=by
 unfold Rd;rcases (show v=3/\a<1\/v=3/\¬ a<1/\3<a\/v=4/\a=1/\b=0/\(0:Int)<c\/v=4/\a=1/\¬ b=0\/v=4/\a=2/\(0:Int)<c\/v=4/\a=3/\¬ b=0\/v=2/\a=3/\b=0/\(8:Int)<c by omega) with ⟨rfl,g⟩|⟨rfl,F,g⟩|⟨rfl,rfl,rfl,g⟩|⟨rfl,rfl,g⟩|⟨rfl,rfl,g⟩|⟨rfl,rfl,g⟩|⟨rfl,rfl,rfl,g⟩
 all_goals
  try rw[<-bne_iff_ne,bne,Bool.not_eq_true'] at g
  clear h;go_enter func185,ntmps185
  go_wp2
  go_ret;exact⟨Z,QhA _ _ _⟩
theorem Qgv {x:ZE}{e:EP}{o i m:Option Addr}{l h n j g k:Nat}(p:x.yes.regs.length<2305843009213693952/\x.yes.args.length<2305843009213693952/\x.no.regs.length<2305843009213693952/\x.no.args.length<2305843009213693952) (c:g<2305843009213693952):Rd prog 185 #[.agg #[Iv fr,.slice o l h,.slice i n j,.slice m g k],.agg #[Iv x.op,Iv x.a,Iv x.yes.block,.slice e.pYR x.yes.regs.length e.cYR,.slice e.pYA x.yes.args.length e.cYA,Iv x.no.block,.slice e.pNR x.no.regs.length e.cNR,.slice e.pNA x.no.args.length e.cNA,.slice e.pA x.args.length e.cA]] w (Iv (x.form g)):=by
 rw[Qg1]
 by_cases b:x.op<1\/3<x.op
 ·rw[Xs b];exact Qf8 (.inl ⟨Z,b⟩)
 rw[Xr b]
 by_cases d:(x.op≠2/\x.a≠0)\/(x.op≠3/\0<x.args.length)
 ·rw[Xs d];exact Qf8 (.inr (.inl ⟨Z,b,d⟩))
 rw[Xr d]
 by_cases f:8<x.args.length
 ·rw[Xs f];exact Qf8 (.inr (.inr ⟨Z,b,d,f⟩))
 rw[Xr f]
 exact Qk0 b d f (fun _=>QdG _ c) (fun _=>QdG _ c)
theorem typeFault_any:∀ n,Qeh 127 n:=by
 intro n
 induction n with
 | zero=>intro t;exact Empty.elim t
 | succ n ih =>
   intro t a c b w ht ab;have IH:Hid (Qeh 127 n):=ih;clear ih;have hT:Hid (LIn w All t.2.2 a):=ht.list;have S:Hid (∀ x∈t.2.2,x.count<=100000):=fun x J=>by have:=t.count_kid J;omega
   have H:t.2.2.length<=100000:=by have:=t.len_lt_count;rw[t.len_eq] at this;omega
   have m:Hid (t.fault b=if ownC t.kind t.r t.2.2.length b≠0 then ownC t.kind t.r t.2.2.length b else Qu (TT.fault b) t.2.2):=rfl;generalize t.fault b=h at m |-;simp only[Tv,TT.len_eq]
   generalize t.2.2=l at hT S m H |-;generalize t.kind=k at m |-;generalize t.r=r at m |-;clear ht ab t;generalize O:l.length=d at m H |-;have Q:Hid (l.length=d):=O;clear O;rcases (show k<1\/(¬ k<1/\4<k)\/k=1\/k=2\/k=4\/k=3 by omega) with p | ⟨p,F⟩ | rfl | rfl | rfl | rfl
   ·have f:=m.out;rw[show ownC _ _ d b=3 by unfold ownC;repeat' split;all_goals omega] at f
    clear m;replace f:Hid (h=3):=by show h=3;simpa using f
    go_enter func127,ntmps127
    go_wp2_with fail
    go_ret;exact⟨by rw[f.out];rfl,(Below.refl _ w).alloc Ze _⟩
   ·have f:=m.out;rw[show ownC _ _ d b=3 by unfold ownC;repeat' split;all_goals omega] at f
    clear m;replace f:Hid (h=3):=by show h=3;simpa using f
    go_enter func127,ntmps127
    go_wp2_with fail
    go_ret;exact⟨by rw[f.out];rfl,(Below.refl _ w).alloc Ze _⟩
   ·rcases (show r≠0\/(r=0/\0<d)\/(r=0/\d=0) by omega) with p | ⟨rfl,p⟩|⟨rfl,p⟩
    ·have z:(r != 0)=true:=by simpa using p
     have f:=m.out;rw[show ownC _ _ d b=4 by unfold ownC;repeat' split;all_goals omega] at f
     clear m;replace f:Hid (h=4):=by show h=4;simpa using f
     go_enter func127,ntmps127
     go_wp2_with fail
     go_ret;exact⟨by rw[f.out];rfl,(Below.refl _ w).alloc Ze _⟩
    ·have z:(0:Int)<(d:Int):=by omega
     have f:=m.out;rw[show ownC _ _ d b=4 by unfold ownC;repeat' split;all_goals omega] at f
     clear m;replace f:Hid (h=4):=by show h=4;simpa using f
     go_enter func127,ntmps127
     go_wp2_with fail
     go_ret;exact⟨by rw[f.out];rfl,(Below.refl _ w).alloc Ze _⟩
    ·have z:¬ (0:Int)<(d:Int):=by omega
     have E:¬ (8:Int)<(d:Int):=by omega
     have f:=m.out;rw[show ownC _ _ d b=0 by unfold ownC;repeat' split;all_goals omega] at f
     clear m;have R:Hid (h=Qu (TT.fault b) l):=by show h=Qu (TT.fault b) l;simpa using f
     clear f
     have P:Hid (h=0):=by
      have D:l=[]:=Xf.1 (Q.out.trans p)
      have:=R.out
      rw[D] at this
      exact this
     subst p;clear R z E;go_enter func127,ntmps127
     go_wp2_with fail
     have B:=Bx.start w 1 0 a 0 c;generalize w.alloc (.cells #[Iv 1,Iv 0,.slice a 0 c] 105)=I at B |-;have s:Hid (Bx w I 1 0 a 0 c):=B;clear B;go_loopw [5] (fun i wr=>i=Iv 0/\Bx w wr 1 0 a 0 c) (fun _ _=>0)
     case atStart=>exact⟨Z,s.out⟩
     case round =>
      clear s;obtain⟨rfl,u⟩:=hrel
      have s:Hid (Bx w wr 1 0 a 0 c):=u;have V:wr.cell? ⟨w.heap.size,2,none⟩=some (.slice a 0 c):=Qb u.box 2 _ Z;clear u;go_wp2
      go_ret;exact⟨by rw[P.out];rfl,s.out.bel⟩
   ·rcases (show 0<d\/(d=0/\r<0)\/(d=0/\0<=r/\b<=r)\/(d=0/\0<=r/\r<b) by omega) with p | ⟨p,F⟩|⟨p,F,N⟩|⟨p,F,N⟩
    ·have z:(0:Int)<(d:Int):=by omega
     have f:=m.out;rw[show ownC _ _ d b=4 by unfold ownC;repeat' split;all_goals omega] at f
     clear m;replace f:Hid (h=4):=by show h=4;simpa using f
     go_enter func127,ntmps127
     go_wp2_with fail
     go_ret;exact⟨by rw[f.out];rfl,(Below.refl _ w).alloc Ze _⟩
    ·have z:¬ (0:Int)<(d:Int):=by omega
     have E:¬ (8:Int)<(d:Int):=by omega
     have f:=m.out;rw[show ownC _ _ d b=1 by unfold ownC;repeat' split;all_goals omega] at f
     clear m;replace f:Hid (h=1):=by show h=1;simpa using f
     go_enter func127,ntmps127
     go_wp2_with fail
     go_ret;exact⟨by rw[f.out];rfl,(Below.refl _ w).alloc Ze _⟩
    ·have z:¬ (0:Int)<(d:Int):=by omega
     have E:¬ (8:Int)<(d:Int):=by omega
     have f:=m.out;rw[show ownC _ _ d b=1 by unfold ownC;repeat' split;all_goals omega] at f
     clear m;replace f:Hid (h=1):=by show h=1;simpa using f
     go_enter func127,ntmps127
     go_wp2_with fail
     go_ret;exact⟨by rw[f.out];rfl,(Below.refl _ w).alloc Ze _⟩
    ·have z:¬ (0:Int)<(d:Int):=by omega
     have E:¬ (8:Int)<(d:Int):=by omega
     have f:=m.out;rw[show ownC _ _ d b=0 by unfold ownC;repeat' split;all_goals omega] at f
     clear m;have R:Hid (h=Qu (TT.fault b) l):=by show h=Qu (TT.fault b) l;simpa using f
     clear f
     have P:Hid (h=0):=by
      have D:l=[]:=Xf.1 (Q.out.trans p)
      have:=R.out
      rw[D] at this
      exact this
     subst p;clear R z E;go_enter func127,ntmps127
     go_wp2_with fail
     have B:=Bx.start w 2 r a 0 c;generalize w.alloc (.cells #[Iv 2,Iv r,.slice a 0 c] 105)=I at B |-;have s:Hid (Bx w I 2 r a 0 c):=B;clear B;go_loopw [5] (fun i wr=>i=Iv 0/\Bx w wr 2 r a 0 c) (fun _ _=>0)
     case atStart=>exact⟨Z,s.out⟩
     case round =>
      clear s;obtain⟨rfl,u⟩:=hrel
      have s:Hid (Bx w wr 2 r a 0 c):=u;have V:wr.cell? ⟨w.heap.size,2,none⟩=some (.slice a 0 c):=Qb u.box 2 _ Z;clear u;go_wp2
      go_ret;exact⟨by rw[P.out];rfl,s.out.bel⟩
   ·rcases (show 0<d\/(d=0/\r<0)\/(d=0/\0<=r/\b<=r)\/(d=0/\0<=r/\r<b) by omega) with p | ⟨p,F⟩|⟨p,F,N⟩|⟨p,F,N⟩
    ·have z:(0:Int)<(d:Int):=by omega
     have f:=m.out;rw[show ownC _ _ d b=4 by unfold ownC;repeat' split;all_goals omega] at f
     clear m;replace f:Hid (h=4):=by show h=4;simpa using f
     go_enter func127,ntmps127
     go_wp2_with fail
     go_ret;exact⟨by rw[f.out];rfl,(Below.refl _ w).alloc Ze _⟩
    ·have z:¬ (0:Int)<(d:Int):=by omega
     have E:¬ (8:Int)<(d:Int):=by omega
     have f:=m.out;rw[show ownC _ _ d b=1 by unfold ownC;repeat' split;all_goals omega] at f
     clear m;replace f:Hid (h=1):=by show h=1;simpa using f
     go_enter func127,ntmps127
     go_wp2_with fail
     go_ret;exact⟨by rw[f.out];rfl,(Below.refl _ w).alloc Ze _⟩
    ·have z:¬ (0:Int)<(d:Int):=by omega
     have E:¬ (8:Int)<(d:Int):=by omega
     have f:=m.out;rw[show ownC _ _ d b=1 by unfold ownC;repeat' split;all_goals omega] at f
     clear m;replace f:Hid (h=1):=by show h=1;simpa using f
     go_enter func127,ntmps127
     go_wp2_with fail
     go_ret;exact⟨by rw[f.out];rfl,(Below.refl _ w).alloc Ze _⟩
    ·have z:¬ (0:Int)<(d:Int):=by omega
     have E:¬ (8:Int)<(d:Int):=by omega
     have f:=m.out;rw[show ownC _ _ d b=0 by unfold ownC;repeat' split;all_goals omega] at f
     clear m;have R:Hid (h=Qu (TT.fault b) l):=by show h=Qu (TT.fault b) l;simpa using f
     clear f
     have P:Hid (h=0):=by
      have D:l=[]:=Xf.1 (Q.out.trans p)
      have:=R.out
      rw[D] at this
      exact this
     subst p;clear R z E;go_enter func127,ntmps127
     go_wp2_with fail
     have B:=Bx.start w 4 r a 0 c;generalize w.alloc (.cells #[Iv 4,Iv r,.slice a 0 c] 105)=I at B |-;have s:Hid (Bx w I 4 r a 0 c):=B;clear B;go_loopw [5] (fun i wr=>i=Iv 0/\Bx w wr 4 r a 0 c) (fun _ _=>0)
     case atStart=>exact⟨Z,s.out⟩
     case round =>
      clear s;obtain⟨rfl,u⟩:=hrel
      have s:Hid (Bx w wr 4 r a 0 c):=u;have V:wr.cell? ⟨w.heap.size,2,none⟩=some (.slice a 0 c):=Qb u.box 2 _ Z;clear u;go_wp2
      go_ret;exact⟨by rw[P.out];rfl,s.out.bel⟩
   ·rcases (show 8<d\/(d<=8/\r<0)\/(d<=8/\0<=r/\b<=r)\/(d<=8/\0<=r/\r<b) by omega) with p | ⟨p,F⟩|⟨p,F,N⟩|⟨p,F,N⟩
    ·have z:(8:Int)<(d:Int):=by omega
     have f:=m.out;rw[show ownC _ _ d b=2 by unfold ownC;repeat' split;all_goals omega] at f
     clear m;replace f:Hid (h=2):=by show h=2;simpa using f
     go_enter func127,ntmps127
     go_wp2_with fail
     go_ret;exact⟨by rw[f.out];rfl,(Below.refl _ w).alloc Ze _⟩
    ·have z:¬ (8:Int)<(d:Int):=by omega
     have f:=m.out;rw[show ownC _ _ d b=1 by unfold ownC;repeat' split;all_goals omega] at f
     clear m;replace f:Hid (h=1):=by show h=1;simpa using f
     go_enter func127,ntmps127
     go_wp2_with fail
     go_ret;exact⟨by rw[f.out];rfl,(Below.refl _ w).alloc Ze _⟩
    ·have z:¬ (8:Int)<(d:Int):=by omega
     have f:=m.out;rw[show ownC _ _ d b=1 by unfold ownC;repeat' split;all_goals omega] at f
     clear m;replace f:Hid (h=1):=by show h=1;simpa using f
     go_enter func127,ntmps127
     go_wp2_with fail
     go_ret;exact⟨by rw[f.out];rfl,(Below.refl _ w).alloc Ze _⟩
    ·have z:¬ (8:Int)<(d:Int):=by omega
     have f:=m.out;rw[show ownC _ _ d b=0 by unfold ownC;repeat' split;all_goals omega] at f
     clear m;have R:Hid (h=Qu (TT.fault b) l):=by show h=Qu (TT.fault b) l;simpa using f
     clear f;go_enter func127,ntmps127
     go_wp2_with fail
     have B:=Bx.start w 3 r a d c;generalize w.alloc (.cells #[Iv 3,Iv r,.slice a d c] 105)=I at B |-;have s:Hid (Bx w I 3 r a d c):=B;clear B;go_loopw [5] (fun i wr=>∃ q:Nat,q<=d/\i=Iv q/\(∀ (j:Nat) x,j<q->l[j]?=some x->x.fault b=0)/\Bx w wr 3 r a d c) (fun i _=>d - (intOf i).toNat)
     case atStart=>exact⟨0,Xb _,Z,fun j x hj=>by omega,s.out⟩
     case round =>
      clear s;obtain⟨q,hq,rfl,G,u⟩:=hrel
      have A:Hid (∀ (j:Nat) x,j<q->l[j]?=some x->x.fault b=0):=G;have s:Hid (Bx w wr 3 r a d c):=u;have V:wr.cell? ⟨w.heap.size,2,none⟩=some (.slice a d c):=Qb u.box 2 _ Z;clear G;by_cases ad:q<d
      ·have U:q<l.length:=by have:=Q.out;omega
       have J:l[q]?=some l[q]:=Zg U;generalize l[q]=x at J;clear U;obtain⟨g,o,a',c',rfl,_,d0,d1,d2,hk⟩:=LIn.at (hT.out.below u.bel) J
       have T:Hid (l[q]?=some x):=J;have ac:(0:Int)<=q:=by omega
       have aa:(q:Int)<d:=by omega
       have C:Hid (∀ K,Below wr.heap.size wr K->Calls prog 127 #[Tv x a' c',Iv b] K fun e w'=>e=.returned (Iv (x.fault b))/\Below K.heap.size K w') :=
        fun K hb=>IH.out x a' c' b K (hk.below hb) (S.out x (Zm J))
       clear u hk J;simp only[Tv] at C
       generalize x.kind=kx at C d0;generalize x.r=rx at C d1;generalize x.len=lx at C d2;go_wp2_with fail
       refine(C.out _ Zr).mono ?_
       rintro e w2 ⟨rfl,b2⟩;have X2:Hid (Bx w w2 3 r (some ⟨g,o,none⟩) d c):=s.out.below b2;clear s b2 C d0 d1 d2 V;by_cases M:x.fault b=0
       ·have A2:Hid (∀ (j:Nat) x,j<q+1->l[j]?=some x->x.fault b=0):=fun j y hj L=>by
         by_cases e:j=q
         ·subst e;rw[T.out] at L
          cases L
          exact M
         ·exact A.out j y (by omega) L
        rw[M]
        clear M A;go_wp2
        go_roundw
        case rel=>exact⟨q+1,by omega,by go_num,A2.out,X2.out⟩
        case measure=>simp[intOf];omega
       ·have W:Hid (h=x.fault b):=R.out.trans (Qav T.out A.out M);have X:(x.fault b != 0)=true:=by simpa using M
        generalize x.fault b=v at X W |-;clear M A;go_wp2
        go_ret;exact⟨by rw[W.out];rfl,X2.out.bel⟩
      ·have W:Hid (h=0):=R.out.trans (ZZ (fun j y L=>A.out j y (by have:=(Zi L).1;have:=Q.out;omega) L));have aa:¬ (q:Int)<d:=by omega
       clear u A;go_wp2
       go_ret;exact⟨by rw[W.out];rfl,s.out.bel⟩
theorem Qdr {α:Type}(f:α->Nat) (l:List α) (i:Nat) (x:α) (h:l[i]?=some x):((l.map f).take (i+1)).foldl max 0=max (((l.map f).take i).foldl max 0) (f x):=by
 rw[XV,XS,h]
 simp
theorem Qcn (l:List Nat) (i:Nat):(l.take i).foldl max 0<=l.foldl max 0:=by
 rw[QaN]
 exact⟨Xb _,fun x a=>(QaN.1 (Nat.le_refl (l.foldl max 0))).2 x (List.mem_of_mem_take a)⟩
theorem deepOf_any:∀ (n:Nat) (t:TT n) (a:Option Addr) (c:Nat) (w:World) (m:Nat),TIn w All t a->t.count<=100000->m<=4 ->
 Calls prog 126 #[Tv t a c,Iv m] w fun e w'=>e=.returned (Iv ((min t.height (m+1):Nat):Int))/\Below w.heap.size w w':=by
 intro n
 induction n with
 | zero=>intro t;exact Empty.elim t
 | succ n ih =>
   intro t a c w m P M ac
   have IH:Hid (∀ (t:TT n) (a:Option Addr) (c:Nat) (w:World) (m:Nat),TIn w All t a->t.count<=100000->m<=4 ->
    Calls prog 126 #[Tv t a c,Iv m] w fun e w'=>e=.returned (Iv ((min t.height (m+1):Nat):Int))/\Below w.heap.size w w'):=ih
   clear ih;have W:Hid (LIn w All t.2.2 a):=P.list;have E:Hid (∀ x∈t.2.2,x.count<=100000):=fun x d=>by have:=t.count_kid d;omega
   have u:t.2.2.length<=100000:=by have:=t.len_lt_count;rw[t.len_eq] at this;omega
   have D:Hid (t.height=(t.2.2.map (fun x=>1+x.height)).foldl max 0):=rfl;generalize t.height=h at D |-;simp only[Tv,TT.len_eq]
   generalize t.2.2=l at W E D u |-;generalize t.kind=k;generalize t.r=r;clear P M t;generalize f:((min h (m+1):Nat):Int)=b;have I:Hid (((min h (m+1):Nat):Int)=b):=f;clear f;go_enter func126,ntmps126
   go_wp2_with fail
   have N:Hid (Bx w (w.alloc (.cells #[Iv k,Iv r,.slice a l.length c] 105)) k r a l.length c):=Bx.start w k r a l.length c;generalize w.alloc (.cells #[Iv k,Iv r,.slice a l.length c] 105)=w1 at N |-;go_loopw [5,6] (fun v i wr=>∃ q y:Nat,q<=l.length/\i=Iv q/\v=Iv y/\y=min (((l.map (fun x=>1+x.height)).take q).foldl max 0) (m+1)/\Bx w wr k r a l.length c) (fun _ i _=>l.length - (intOf i).toNat)
   case atStart=>exact⟨0,0,Xb _,Yz,Yz,by simp,N.out⟩
   case round =>
    clear N;obtain⟨q,y,hq,rfl,rfl,Q,p⟩:=hrel
    have Y:Hid (y=min (((l.map (fun x=>1+x.height)).take q).foldl max 0) (m+1)):=Q;have A:Hid (Bx w wr k r a l.length c):=p;have e2:wr.cell? ⟨w.heap.size,2,none⟩=some (.slice a l.length c):=Qb p.box 2 _ Yz;have ad:(y:Int)<=5:=by omega
    clear Q;by_cases J:q<l.length
    ·have ae:(0:Int)<=q:=by omega
     have L:(q:Int)<l.length:=by omega
     by_cases j:y<=m
     ·have d:l[q]?=some l[q]:=Zg J;generalize l[q]=x at d;obtain⟨g,o,a',U,rfl,_,d0,T,d2,H⟩:=LIn.at (W.out.below p.bel) d
      have G:=Qdr (fun x:TT n=>1+x.height) l q x d;have B:(y:Int)<=m:=by omega
      by_cases hz:m=0
      ·have O:((m:Int)==0)=true:=by simp;omega
       have F:Hid (b=1):=by
        have V:=Qcn (l.map (fun x=>1+x.height)) (q+1);have h2:=D.out;have R:=I.out;rw[G] at V
        show b=1;omega
       clear p H d hz G j;go_wp2_with fail
       go_ret;exact⟨by rw[F.out];rfl,A.out.bel⟩
      ·have O:((m:Int)==0)=false:=by simp;omega
       have C:Hid (∀ s,Below wr.heap.size wr s->Calls prog 126 #[Tv x a' U,Iv ((m:Int) - 1)] s fun e w'=>e=.returned (Iv ((min x.height m:Nat):Int))/\Below s.heap.size s w'):=fun s hb=>by
        have:=IH.out x a' U s (m - 1) (H.below hb) (E.out x (Zm d)) (by omega)
        rw[show ((m - 1:Nat):Int)=(m:Int) - 1 by omega,show m - 1+1=m by omega] at this
        exact this
       have ab:(1:Int)<=m:=by omega
       have aa:(m:Int)<=4:=by omega
       generalize K:min x.height m=z at C;have af:(z:Int)<=4:=by omega
       have Z:Hid (max y (1+z)=min (((l.map (fun x=>1+x.height)).take (q+1)).foldl max 0) (m+1)):=by
        rw[G]
        have:=Y.out
        show _=_;omega
       clear p H d hz G K Y j;simp only[Tv] at C
       generalize x.kind=kx at C d0;generalize x.r=rx at C T;generalize x.len=lx at C d2;go_wp2_with fail
       refine(C.out _ Zr).mono ?_
       rintro e w2 ⟨rfl,S⟩;have X:Hid (Bx w w2 k r (some ⟨g,o,none⟩) l.length c):=A.out.below S;clear A S C d0 T d2 e2;by_cases hd:(y:Int)<1+z
       ·go_wp2
        go_roundw
        case rel=>exact⟨q+1,1+z,by omega,by go_num,by go_num,by rw[<-Z.out];omega,X.out⟩
        case measure=>simp[intOf];omega
       ·go_wp2
        go_roundw
        case rel=>exact⟨q+1,y,by omega,by go_num,Yz,by rw[<-Z.out];omega,X.out⟩
        case measure=>simp[intOf];omega
     ·have F:Hid (b=y):=by
       have V:=Qcn (l.map (fun x=>1+x.height)) q;have h2:=D.out;have R:=I.out
       have:=Y.out
       show b=y;omega
      have B:¬ (y:Int)<=m:=by omega
      clear p j Y;go_wp2
      go_ret;exact⟨by rw[F.out];rfl,A.out.bel⟩
    ·have F:Hid (b=y):=by
      have h2:=D.out;have R:=I.out
      have:=Y.out
      rw[XO (by simp;omega)] at this
      show b=y;omega
     have L:¬ (q:Int)<l.length:=by omega
     clear p Y;go_wp2
     go_ret;exact⟨by rw[F.out];rfl,A.out.bel⟩
def Qh8 (f:Nat):Prop:=∀ (n:Nat) (t:TT n) (a:Option Addr) (c:Nat) (regs:Int) (w:World),TIn w All t a->t.count<=100000 ->
 Calls prog f #[Tv t a c,Iv regs] w fun e w'=>e=.returned (Iv (t.check regs))/\Below w.heap.size w w'
theorem typeFaultT_any:Qh8 78:=by
 intro n t a c b w o s
 have g:Hid (∀ d,Below w.heap.size w d->Calls prog 126 #[Tv t a c,Iv 4] d fun e u=>e=.returned (Iv ((min t.height 5:Nat):Int))/\Below d.heap.size d u) :=
  fun d p=>deepOf_any n t a c d 4 (o.below p) s (by omega)
 have i:Hid (∀ d,Below w.heap.size w d->Calls prog 127 #[Tv t a c,Iv b] d fun e u=>e=.returned (Iv (t.fault b))/\Below d.heap.size d u) :=
  fun d p=>typeFault_any n t a c b d (o.below p) s
 have E:Hid (t.check b=if 4<t.height then 19 else t.fault b):=rfl;generalize t.check b=j at E |-;clear o s;simp only[Tv] at g i |-
 generalize t.kind=k at g i |-;generalize t.r=r at g i |-;generalize t.len=f at g i |-;generalize t.fault b=v at i E;generalize z:min t.height 5=q at g;go_enter func78,ntmps78
 go_wp2_with fail
 have m:=Bx.start w k r a f c;generalize w.alloc (.cells #[Iv k,Iv r,.slice a f c] 105)=I at m |-;refine(g.out _ m.bel).mono ?_
 rintro e B ⟨rfl,y⟩;have h:Hid (Bx w B k r a f c):=m.below y;have A:=Qb h.out.box 0 _ Z;have H:=Qb h.out.box 1 _ Z;have D:=Qb h.out.box 2 _ Z;clear m y g;by_cases l:4<t.height
 ·have R:Hid (j=19):=by have:=E.out;rwa [Xs l] at this
  have C:(4:Int)<q:=by omega
  clear l z;go_wp2_with fail
  go_ret;exact⟨by rw[R.out];rfl,h.out.bel⟩
 ·have R:Hid (j=v):=by have:=E.out;rwa [Xr l] at this
  have C:¬ (4:Int)<q:=by omega
  clear l z;go_wp2_with fail
  refine(i.out _ h.out.bel).mono ?_
  rintro e F ⟨rfl,x⟩;have G:Hid (Bx w F k r a f c):=h.out.below x;clear h x i A H D;go_wp2_with fail
  go_ret;exact⟨by rw[R.out];rfl,G.out.bel⟩
theorem QfK (k r:Int) (a:Option Addr) (len c:Nat) (regs:Int) (w:World) :
 Calls prog 282 #[.agg #[Iv k,Iv r,.slice a len c],Iv regs] w fun e w'=>e=.returned (Iv (ownC k r len regs))/\Below w.heap.size w w':=by
 rcases (show k<1\/(¬ k<1/\4<k)\/k=1\/k=2\/k=4\/k=3 by omega) with b | ⟨b,f⟩ | rfl | rfl | rfl | rfl
 ·rw[show ownC _ _ len regs=3 by unfold ownC;repeat' split;all_goals omega]
  go_enter func282,ntmps282
  go_wp2_with fail
  go_ret;exact⟨Z,(Below.refl _ w).alloc Ze _⟩
 ·rw[show ownC _ _ len regs=3 by unfold ownC;repeat' split;all_goals omega]
  go_enter func282,ntmps282
  go_wp2_with fail
  go_ret;exact⟨Z,(Below.refl _ w).alloc Ze _⟩
 ·rcases (show r≠0\/(r=0/\0<len)\/(r=0/\len=0) by omega) with b | ⟨rfl,b⟩|⟨rfl,b⟩
  ·have d:(r != 0)=true:=by simpa using b
   rw[show ownC _ _ len regs=4 by unfold ownC;repeat' split;all_goals omega]
   go_enter func282,ntmps282
   go_wp2_with fail
   go_ret;exact⟨Z,(Below.refl _ w).alloc Ze _⟩
  ·have d:(0:Int)<(len:Int):=by omega
   rw[show ownC _ _ len regs=4 by unfold ownC;repeat' split;all_goals omega]
   go_enter func282,ntmps282
   go_wp2_with fail
   go_ret;exact⟨Z,(Below.refl _ w).alloc Ze _⟩
  ·have d:¬ (0:Int)<(len:Int):=by omega
   have g:¬ (8:Int)<(len:Int):=by omega
   rw[show ownC _ _ len regs=0 by unfold ownC;repeat' split;all_goals omega]
   go_enter func282,ntmps282
   go_wp2_with fail
   go_ret;exact⟨Z,(Below.refl _ w).alloc Ze _⟩
 ·rcases (show 0<len\/(len=0/\r<0)\/(len=0/\0<=r/\regs<=r)\/(len=0/\0<=r/\r<regs) by omega) with b | ⟨b,f⟩|⟨b,f,h⟩|⟨b,f,h⟩
  ·have d:(0:Int)<(len:Int):=by omega
   rw[show ownC _ _ len regs=4 by unfold ownC;repeat' split;all_goals omega]
   go_enter func282,ntmps282
   go_wp2_with fail
   go_ret;exact⟨Z,(Below.refl _ w).alloc Ze _⟩
  ·have d:¬ (0:Int)<(len:Int):=by omega
   have g:¬ (8:Int)<(len:Int):=by omega
   rw[show ownC _ _ len regs=1 by unfold ownC;repeat' split;all_goals omega]
   go_enter func282,ntmps282
   go_wp2_with fail
   go_ret;exact⟨Z,(Below.refl _ w).alloc Ze _⟩
  ·have d:¬ (0:Int)<(len:Int):=by omega
   have g:¬ (8:Int)<(len:Int):=by omega
   rw[show ownC _ _ len regs=1 by unfold ownC;repeat' split;all_goals omega]
   go_enter func282,ntmps282
   go_wp2_with fail
   go_ret;exact⟨Z,(Below.refl _ w).alloc Ze _⟩
  ·have d:¬ (0:Int)<(len:Int):=by omega
   have g:¬ (8:Int)<(len:Int):=by omega
   rw[show ownC _ _ len regs=0 by unfold ownC;repeat' split;all_goals omega]
   go_enter func282,ntmps282
   go_wp2_with fail
   go_ret;exact⟨Z,(Below.refl _ w).alloc Ze _⟩
 ·rcases (show 0<len\/(len=0/\r<0)\/(len=0/\0<=r/\regs<=r)\/(len=0/\0<=r/\r<regs) by omega) with b | ⟨b,f⟩|⟨b,f,h⟩|⟨b,f,h⟩
  ·have d:(0:Int)<(len:Int):=by omega
   rw[show ownC _ _ len regs=4 by unfold ownC;repeat' split;all_goals omega]
   go_enter func282,ntmps282
   go_wp2_with fail
   go_ret;exact⟨Z,(Below.refl _ w).alloc Ze _⟩
  ·have d:¬ (0:Int)<(len:Int):=by omega
   have g:¬ (8:Int)<(len:Int):=by omega
   rw[show ownC _ _ len regs=1 by unfold ownC;repeat' split;all_goals omega]
   go_enter func282,ntmps282
   go_wp2_with fail
   go_ret;exact⟨Z,(Below.refl _ w).alloc Ze _⟩
  ·have d:¬ (0:Int)<(len:Int):=by omega
   have g:¬ (8:Int)<(len:Int):=by omega
   rw[show ownC _ _ len regs=1 by unfold ownC;repeat' split;all_goals omega]
   go_enter func282,ntmps282
   go_wp2_with fail
   go_ret;exact⟨Z,(Below.refl _ w).alloc Ze _⟩
  ·have d:¬ (0:Int)<(len:Int):=by omega
   have g:¬ (8:Int)<(len:Int):=by omega
   rw[show ownC _ _ len regs=0 by unfold ownC;repeat' split;all_goals omega]
   go_enter func282,ntmps282
   go_wp2_with fail
   go_ret;exact⟨Z,(Below.refl _ w).alloc Ze _⟩
 ·rcases (show 8<len\/(len<=8/\r<0)\/(len<=8/\0<=r/\regs<=r)\/(len<=8/\0<=r/\r<regs) by omega) with b | ⟨b,f⟩|⟨b,f,h⟩|⟨b,f,h⟩
  ·have d:(8:Int)<(len:Int):=by omega
   rw[show ownC _ _ len regs=2 by unfold ownC;repeat' split;all_goals omega]
   go_enter func282,ntmps282
   go_wp2_with fail
   go_ret;exact⟨Z,(Below.refl _ w).alloc Ze _⟩
  ·have d:¬ (8:Int)<(len:Int):=by omega
   rw[show ownC _ _ len regs=1 by unfold ownC;repeat' split;all_goals omega]
   go_enter func282,ntmps282
   go_wp2_with fail
   go_ret;exact⟨Z,(Below.refl _ w).alloc Ze _⟩
  ·have d:¬ (8:Int)<(len:Int):=by omega
   rw[show ownC _ _ len regs=1 by unfold ownC;repeat' split;all_goals omega]
   go_enter func282,ntmps282
   go_wp2_with fail
   go_ret;exact⟨Z,(Below.refl _ w).alloc Ze _⟩
  ·have d:¬ (8:Int)<(len:Int):=by omega
   rw[show ownC _ _ len regs=0 by unfold ownC;repeat' split;all_goals omega]
   go_enter func282,ntmps282
   go_wp2_with fail
   go_ret;exact⟨Z,(Below.refl _ w).alloc Ze _⟩
theorem firstCode_any:∀ n,Qeh 258 n:=by
 intro n
 induction n with
 | zero=>intro t;exact Empty.elim t
 | succ n ih =>
   intro t a c b w Q M;have IH:Hid (Qeh 258 n):=ih;clear ih;have W:Hid (LIn w All t.2.2 a):=Q.list;have E:Hid (∀ x∈t.2.2,x.count<=100000):=fun x p=>by have:=t.count_kid p;omega
   have D:t.2.2.length<=100000:=by have:=t.len_lt_count;rw[t.len_eq] at this;omega
   have m:Hid (t.fault b=if ownC t.kind t.r t.2.2.length b≠0 then ownC t.kind t.r t.2.2.length b else Qu (TT.fault b) t.2.2):=rfl;generalize t.fault b=d at m |-;simp only[Tv,TT.len_eq]
   generalize t.2.2=l at W E m D |-;generalize t.kind=k at m |-;generalize t.r=r at m |-;clear Q M t;go_enter func258,ntmps258
   go_wp2_with fail
   have X0:Hid (Bx w (w.alloc (.cells #[Iv k,Iv r,.slice a l.length c] 105)) k r a l.length c):=Bx.start w k r a l.length c;refine(QfK k r a l.length c b _).mono ?_
   rintro e S ⟨rfl,X⟩;have h:Hid (Bx w S k r a l.length c):=X0.out.below X;clear X0 X;by_cases B:ownC k r l.length b=0
   ·have R:Hid (d=Qu (TT.fault b) l):=by
     have:=m.out
     rw[B] at this
     show d=Qu (TT.fault b) l;simpa using this
    rw[B]
    clear B m;have e2:S.cell? ⟨w.heap.size,2,none⟩=some (.slice a l.length c):=Qb h.out.box 2 _ Z;go_wp2_with fail
    clear e2;go_loopw [18] (fun i wr=>∃ q:Nat,q<=l.length/\i=Iv q/\(∀ (j:Nat) x,j<q->l[j]?=some x->x.fault b=0)/\Bx w wr k r a l.length c) (fun i _=>l.length - (intOf i).toNat)
    case atStart=>exact⟨0,Xb _,Z,fun j x hj=>by omega,h.out⟩
    case round =>
     clear h;obtain⟨q,hq,rfl,f,G⟩:=hrel
     have A:Hid (∀ (j:Nat) x,j<q->l[j]?=some x->x.fault b=0):=f;have h:Hid (Bx w wr k r a l.length c):=G;clear f;by_cases K:q<l.length
     ·have p:l[q]?=some l[q]:=Zg K;generalize l[q]=x at p;obtain⟨g,o,N,J,rfl,_,d0,V,d2,T⟩:=LIn.at (W.out.below G.bel) p
      have F:Hid (l[q]?=some x):=p;have aa:(0:Int)<=q:=by omega
      have L:(q:Int)<l.length:=by omega
      have C:Hid (∀ s,Below wr.heap.size wr s->Calls prog 258 #[Tv x N J,Iv b] s fun e w'=>e=.returned (Iv (x.fault b))/\Below s.heap.size s w') :=
       fun s hb=>IH.out x N J b s (T.below hb) (E.out x (Zm p))
      clear G T p;simp only[Tv] at C
      generalize x.kind=kx at C d0;generalize x.r=rx at C V;generalize x.len=lx at C d2;go_wp2_with fail
      have P:Below wr.heap.size wr (wr.alloc (.cells #[Iv kx,Iv rx,.slice N lx J] 105)):=(Below.refl _ wr).alloc Ze _;refine(C.out _ P).mono ?_
      rintro e w2 ⟨rfl,U⟩;have X2:Hid (Bx w w2 k r (some ⟨g,o,none⟩) l.length c):=(h.out.below P).below U;clear h U P C d0 V d2;by_cases z:x.fault b=0
      ·have A2:Hid (∀ (j:Nat) x,j<q+1->l[j]?=some x->x.fault b=0):=fun j y hj u=>by
        by_cases e:j=q
        ·subst e;rw[F.out] at u
         cases u
         exact z
        ·exact A.out j y (by omega) u
       rw[z]
       clear z A;go_wp2
       go_roundw
       case rel=>exact⟨q+1,by omega,by go_num,A2.out,X2.out⟩
       case measure=>simp[intOf];omega
      ·have H:Hid (d=x.fault b):=R.out.trans (Qav F.out A.out z);have I:(x.fault b != 0)=true:=by simpa using z
       generalize x.fault b=v at I H |-;clear z A;go_wp2
       go_ret;exact⟨by rw[H.out];rfl,X2.out.bel⟩
     ·have H:Hid (d=0):=R.out.trans (ZZ (fun j y u=>A.out j y (by have:=(Zi u).1;omega) u));have L:¬ (q:Int)<l.length:=by omega
      clear G A;go_wp2
      go_ret;exact⟨by rw[H.out];rfl,h.out.bel⟩
   ·have R:Hid (d=ownC k r l.length b):=by
     have:=m.out
     rwa [Xs B] at this
    have O:(ownC k r l.length b != 0)=true:=by simpa using B
    generalize ownC k r l.length b=v at O R |-;clear B m;go_wp2_with fail
    go_ret;exact⟨by rw[R.out];rfl,h.out.bel⟩
theorem QhS {l:List (TT n)}{k r:Int}:m<TT.height (n:=n+1) (mkT k r l)↔∃ (i:Nat) (x:TT n),l[i]?=some x/\m<1+x.height:=by
 rw[<-Nat.not_le,Q7]
 constructor
 ·intro h;simp only[Classical.not_forall] at h
  obtain⟨x,a,c⟩:=h
  obtain⟨i,b,rfl⟩:=List.mem_iff_getElem.1 a
  exact⟨i,_,Zg b,by omega⟩
 ·rintro ⟨i,x,a,c⟩ h
  have:=h x (Zm (l:=l) a)
  omega
theorem deeper_any:∀ (n:Nat) (t:TT n) (a:Option Addr) (c:Nat) (w:World) (m:Nat),TIn w All t a->t.count<=100000->m<=4 ->
 Calls prog 257 #[Tv t a c,Iv m] w fun e w'=>e=.returned (.bool (decide (m<t.height)))/\Below w.heap.size w w':=by
 intro n
 induction n with
 | zero=>intro t;exact Empty.elim t
 | succ n ih =>
   intro t a c w m R N ac
   have IH:Hid (∀ (t:TT n) (a:Option Addr) (c:Nat) (w:World) (m:Nat),TIn w All t a->t.count<=100000->m<=4 ->
    Calls prog 257 #[Tv t a c,Iv m] w fun e w'=>e=.returned (.bool (decide (m<t.height)))/\Below w.heap.size w w'):=ih
   clear ih;have U:Hid (LIn w All t.2.2 a):=R.list;have z:Hid (∀ x∈t.2.2,x.count<=100000):=fun x b=>by have:=t.count_kid b;omega
   have s:t.2.2.length<=100000:=by have:=t.len_lt_count;rw[t.len_eq] at this;omega
   have v:Hid (m<t.height↔∃ (i:Nat) (x:TT n),t.2.2[i]?=some x/\m<1+x.height):=QhS;generalize t.height=h at v |-;simp only[Tv,TT.len_eq]
   generalize t.2.2=l at U z v s |-;generalize t.kind=k;generalize t.r=r;clear R N t;go_enter func257,ntmps257
   go_wp2_with fail
   have M:Hid (Bx w (w.alloc (.cells #[Iv k,Iv r,.slice a l.length c] 105)) k r a l.length c):=Bx.start w k r a l.length c;generalize w.alloc (.cells #[Iv k,Iv r,.slice a l.length c] 105)=w1 at M |-;go_loopw [10] (fun i wr=>∃ q:Nat,q<=l.length/\i=Iv q/\(∀ (j:Nat) x,j<q->l[j]?=some x->1+x.height<=m)/\Bx w wr k r a l.length c) (fun i _=>l.length - (intOf i).toNat)
   case atStart=>exact⟨0,Xb _,Z,fun j x hj=>by omega,M.out⟩
   case round =>
    clear M;obtain⟨q,hq,rfl,d,u⟩:=hrel
    have A:Hid (∀ (j:Nat) x,j<q->l[j]?=some x->1+x.height<=m):=d;have F:Hid (Bx w wr k r a l.length c):=u;clear d;by_cases J:q<l.length
    ·have b:l[q]?=some l[q]:=Zg J;generalize l[q]=x at b;obtain⟨g,o,O,I,rfl,_,L,T,W,G⟩:=LIn.at (U.out.below u.bel) b
     have hg:g<wr.heap.size:=Xi wr ⟨g,o+q*3,none⟩ L;have D:Hid (l[q]?=some x):=b;have ad:(0:Int)<=q:=by omega
     have K:(q:Int)<l.length:=by omega
     by_cases X:m=0
     ·have p:Hid (m<h):=v.out.2 ⟨q,x,b,by omega⟩;have P:((m:Int)==0)=true:=by simp;omega
      clear u G b X;go_wp2_with fail
      go_ret;exact⟨by rw[Xt p.out];rfl,(F.out.alloc _).bel⟩
     ·have P:((m:Int)==0)=false:=by simp;omega
      have C:Hid (∀ f,Below wr.heap.size wr f->Calls prog 257 #[Tv x O I,Iv ((m:Int) - 1)] f fun e w'=>e=.returned (.bool (decide (m - 1<x.height)))/\Below f.heap.size f w'):=fun f hb=>by
       have:=IH.out x O I f (m - 1) (G.below hb) (z.out x (Zm b)) (by omega)
       rw[show ((m - 1:Nat):Int)=(m:Int) - 1 by omega] at this
       exact this
      have ab:(1:Int)<=m:=by omega
      have aa:(m:Int)<=4:=by omega
      have B:Hid (1<=m):=by show 1<=m;omega
      clear u G b X;simp only[Tv] at C
      generalize x.kind=kx at C L;generalize x.r=rx at C T;generalize x.len=lx at C W;go_wp2_with fail
      have Q:Below wr.heap.size wr (wr.alloc (.cells #[Iv kx,Iv rx,.slice O lx I] 105)):=(Below.refl _ wr).alloc Ze _;refine(C.out _ Q).mono ?_
      rintro e w2 ⟨rfl,S⟩;have V:Hid (Bx w w2 k r (some ⟨g,o,none⟩) l.length c):=(F.out.below Q).below S;clear F S Q C L T W;by_cases E:m - 1<x.height
      ·have p:Hid (m<h):=v.out.2 ⟨q,x,D.out,by have:=B.out;omega⟩;rw[Xt E]
       clear E;go_wp2
       go_ret;exact⟨by rw[Xt p.out];rfl,V.out.bel⟩
      ·have A2:Hid (∀ (j:Nat) x,j<q+1->l[j]?=some x->1+x.height<=m):=fun j y hj H=>by
        by_cases e:j=q
        ·subst e;rw[D.out] at H
         cases H
         have:=B.out
         omega
        ·exact A.out j y (by omega) H
       rw[Xu E]
       clear E A;go_wp2
       go_roundw
       case rel=>exact⟨q+1,by omega,by go_num,A2.out,V.out⟩
       case measure=>simp[intOf];omega
    ·have p:Hid (¬ m<h):=fun hc=>by
      obtain⟨i,x,b,h3⟩:=v.out.1 hc
      have:=A.out i x (by have:=(Zi b).1;omega) b
      omega
     have K:¬ (q:Int)<l.length:=by omega
     clear u A;go_wp2
     go_ret;exact⟨by rw[Xu p.out];rfl,F.out.bel⟩
theorem check_any:Qh8 223:=by
 intro n t a c b w o q
 have i:Hid (∀ d,Below w.heap.size w d->Calls prog 257 #[Tv t a c,Iv 4] d fun e s=>e=.returned (.bool (decide (4<t.height)))/\Below d.heap.size d s) :=
  fun d p=>deeper_any n t a c d 4 (o.below p) q (by omega)
 have h:Hid (∀ d,Below w.heap.size w d->Calls prog 258 #[Tv t a c,Iv b] d fun e s=>e=.returned (Iv (t.fault b))/\Below d.heap.size d s) :=
  fun d p=>firstCode_any n t a c b d (o.below p) q
 have E:Hid (t.check b=if 4<t.height then 19 else t.fault b):=rfl;generalize t.check b=l at E |-;clear o q;simp only[Tv] at i h |-
 generalize t.kind=k at i h |-;generalize t.r=r at i h |-;generalize t.len=f at i h |-;generalize t.fault b=v at h E;go_enter func223,ntmps223
 go_wp2_with fail
 have m:=Bx.start w k r a f c;generalize w.alloc (.cells #[Iv k,Iv r,.slice a f c] 105)=F at m |-;refine(i.out _ m.bel).mono ?_
 rintro e z ⟨rfl,x⟩;have g:Hid (Bx w z k r a f c):=m.below x;have y:=Qb g.out.box 0 _ Z;have D:=Qb g.out.box 1 _ Z;have A:=Qb g.out.box 2 _ Z;clear m x i;by_cases j:4<t.height
 ·rw[Xt j]
  have R:Hid (l=19):=by have:=E.out;rwa [Xs j] at this
  clear j;go_wp2_with fail
  go_ret;exact⟨by rw[R.out];rfl,g.out.bel⟩
 ·rw[Xu j]
  have R:Hid (l=v):=by have:=E.out;rwa [Xr j] at this
  clear j;go_wp2_with fail
  refine(h.out _ g.out.bel).mono ?_
  rintro e B ⟨rfl,u⟩;have C:Hid (Bx w B k r a f c):=g.out.below u;clear g u h y D A;go_wp2_with fail
  go_ret;exact⟨by rw[R.out];rfl,C.out.bel⟩
abbrev QG (p:Int × Int):Value:=.agg #[Iv p.1,Iv p.2]
def atF (c p:Int):Int × Int:=if c=0 then (0,0) else (c,p)
theorem QeL {α:Type}{f:Nat->α->Int × Int}:∀ {l:List α}{j:Nat},firstF (fun i x=>atF (f i x).1 (f i x).2) j l=firstF f j l
 | [],_=>rfl
 | x::xs,j=>by
   simp only[firstF,atF]
   by_cases h:(f j x).1=0
   ·simp only[h,if_true,ne_eq,not_true_eq_false,if_false]
    exact QeL
   ·simp[h]
def MFunc.code {n:Nat}(f:Nat) (x:MFunc n):Int :=
 if x.regs<0\/6<x.regs then 1 else if listC x.regs x.params≠0 then listC x.regs x.params else if listC x.regs x.results≠0 then listC x.regs x.results
 else if x.blocks.length<1\/12<x.blocks.length then 2 else if f=0/\¬ (x.regs=0/\x.params.length=0/\x.results.all (fun t=>t.kind==1)=true) then 18 else 0
theorem MFunc.fault_eq (a f:Nat) (x:MFunc n):MFunc.fault a f x=if x.code f=0 then firstF (fun b y=>MBlock.fault a f x b y) 0 x.blocks else (x.code f,10000*(f:Int)+9999):=by
 unfold MFunc.fault MFunc.code;generalize listC x.regs x.params=d;generalize listC x.regs x.results=c;generalize firstF (fun b y=>MBlock.fault a f x b y) 0 x.blocks=e;repeat' split
 all_goals first | rfl | (exfalso;omega) | contradiction
def MBlock.code' {n:Nat}(fn:MFunc n) (b:Nat) (x:MBlock n):Int :=
 if x.regs<fn.regs\/16<x.regs then 1 else if listC x.regs x.params≠0 then listC x.regs x.params
 else if b=0/\(x.regs≠fn.regs\/Qc0 x.params fn.params=false) then 9 else if 40<x.code.length then 2 else 0
theorem MBlock.fault_eq (a f:Nat) (fn:MFunc n) (b:Nat) (x:MBlock n):MBlock.fault a f fn b x =
 if x.code' fn b=0 then (if (firstF (fun i y=>(Qs.form a y,(10000*f+100*b+i:Int))) 0 x.code).1=0 then atF (x.fin.form fn.blocks.length) (10000*(f:Int)+100*(b:Int)+91)
  else firstF (fun i y=>(Qs.form a y,(10000*f+100*b+i:Int))) 0 x.code) else (x.code' fn b,10000*(f:Int)+100*(b:Int)+90):=by
 unfold MBlock.fault MBlock.code' atF;generalize firstF (fun i y=>(Qs.form a y,(10000*f+100*b+i:Int))) 0 x.code=e;generalize x.fin.form fn.blocks.length=d;generalize listC x.regs x.params=c;repeat' split
 all_goals first | rfl | (exfalso;omega) | contradiction
def idxK {n:Nat}:Nat->List (TT n)->Int
 | _,[]=>-1
 | i,t::ts=>if t.kind=1 then idxK (i+1) ts else (i:Int)
theorem QiE {l:List (TT n)}{x:TT n}(h:l[q]?=some x):idxK q (l.drop q)=if x.kind=1 then idxK (q+1) (l.drop (q+1)) else (q:Int):=by
 obtain⟨a,rfl⟩:=Zi h
 rw[List.drop_eq_getElem_cons a]
 rfl
theorem Qgh {n:Nat}:∀ (l:List (TT n)) (j:Nat),(0<=idxK j l)↔¬ l.all (fun t=>t.kind==1)=true
 | [],j=>by simp[idxK]
 | y::ys,j=>by
   by_cases h:y.kind=1
   ·simp only[idxK,h,if_true,List.all_cons,beq_self_eq_true,Bool.true_and]
    exact Qgh ys (j+1)
   ·simp[idxK,h]
theorem QeB {t:TT n}{regs:Int}(b:TIn w All t a) (d:t.count<=100000):Rd prog 78 #[Tv t a c,Iv regs] w (Iv (t.check regs)):=typeFaultT_any n t a c regs w b d
theorem Qkc {t:TT n}{regs:Int}(b:TIn w All t a) (d:t.count<=100000):Rd prog 223 #[Tv t a c,Iv regs] w (Iv (t.check regs)):=check_any n t a c regs w b d
theorem Qc8 {α:Type}{f:α->Int}{l:List α}{x:α}(h:l[q]?=some x):Qu f (l.drop q)=if f x≠0 then f x else Qu f (l.drop (q+1)):=by
 obtain⟨a,rfl⟩:=Zi h
 rw[List.drop_eq_getElem_cons a]
 rfl
theorem Qlg {l:List (TT n)}{regs:Int}(f:(Qo n).In w All l [.slice p l.length c]) (a:Qda l) :
 Rd prog 51 #[.slice p l.length c,Iv regs] w (Iv (listC regs l)):=by
 have J:=Qf (QU f).1;have G:=Qf a.2;by_cases m:8<l.length
 ·have E:Hid (listC regs l=2):=Xs m;have d:decide ((l.length:Int)>8)=true:=Xt (by omega);clear m a f;go_enter func51,ntmps51
  go_wp2
  go_ret;exact⟨by rw[E.out];rfl,Zr⟩
 have E:Hid (listC regs l=Qu (TT.check regs) (l.drop 0)):=Xr m;have d:decide ((l.length:Int)>8)=false:=Xu (by omega);have m:l.length<=8:=by omega
 generalize listC regs l=V at E |-;clear a f;go_enter func51,ntmps51
 go_wp2
 go_loopw [5] (fun i wr=>∃ q:Nat,q<=l.length/\i=Iv q/\Hid (V=Qu (TT.check regs) (l.drop q))/\Hid (Below w.heap.size w wr)) (fun i _=>l.length - (intOf i).toNat)
 case atStart=>exact⟨0,Xb _,Z,E,Zr⟩
 case round =>
  obtain⟨q,O,rfl,e,k⟩:=hrel
  clear E;by_cases h:q<l.length
  ·have j:l[q]?=some l[q]:=Zg h;have z:=Qf (G.out _ (List.getElem_mem h));generalize l[q]=t at j z;obtain⟨g,o,I,K,rfl,-,B,H,L,In⟩:=LIn.at (TIn.below J.out k.out) j
   have M:(q:Int)<l.length:=by omega
   have b:=Qf (e.out.trans (Qc8 j));have C:Hid (∀ u,Below wr.heap.size wr u->Rd prog 78 #[.agg #[Iv t.kind,Iv t.r,.slice I t.len K],Iv regs] u (Iv (t.check regs))):=fun u F=>QeB (In.below F) z.out;clear j e In;generalize t.check regs=v at b C;have C:=Qf (C.out wr Zr);go_wp2_with fail
   refine C.out.mono ?_;rintro P D ⟨rfl,y⟩;have A:Hid (Below w.heap.size w D):=k.out.trans (y.mono k.out.size);clear y C B H L;by_cases s:v=0
   ·subst s;have b:=Qf (b.out.trans (Xr (by simp)));go_wp2
    go_roundw
    case rel=>exact⟨q+1,by omega,by go_num,b,A⟩
    case measure=>simp[intOf];omega
   ·have b:=Qf (b.out.trans (Xs s));have N:(v != 0)=true:=bne_iff_ne.2 s;clear s;go_wp2
    go_ret;exact⟨by rw[b.out];rfl,A.out⟩
  ·have x:q=l.length:=by omega
   subst x;go_wp2
   go_ret;exact⟨by rw[e.out,List.drop_length];rfl,k.out⟩
theorem QaH {l:List (TT n)}{regs:Int}(f:(Qo n).In w All l [.slice p l.length c]) (a:Qda l) :
 Rd prog 178 #[.slice p l.length c,Iv regs] w (Iv (listC regs l)):=by
 have K:=Qf (QU f).1;have I:=Qf a.2;by_cases m:8<l.length
 ·have E:Hid (listC regs l=2):=Xs m;have d:decide ((l.length:Int)>8)=true:=Xt (by omega);clear m a f;go_enter func178,ntmps178
  go_wp2
  go_ret;exact⟨by rw[E.out];rfl,Zr⟩
 have E:Hid (listC regs l=Qu (TT.check regs) (l.drop 0)):=Xr m;have d:decide ((l.length:Int)>8)=false:=Xu (by omega);have m:l.length<=8:=by omega
 generalize listC regs l=V at E |-;clear a f;go_enter func178,ntmps178
 go_wp2
 go_loopw [13] (fun i wr=>∃ q:Nat,q<=l.length/\i=Iv q/\Hid (V=Qu (TT.check regs) (l.drop q))/\Hid (Below w.heap.size w wr)) (fun i _=>l.length - (intOf i).toNat)
 case atStart=>exact⟨0,Xb _,Z,E,Zr⟩
 case round =>
  obtain⟨q,O,rfl,e,k⟩:=hrel
  clear E;by_cases h:q<l.length
  ·have j:l[q]?=some l[q]:=Zg h;have A:=Qf (I.out _ (List.getElem_mem h));generalize l[q]=t at j A;obtain⟨g,o,z,B,rfl,-,F,J,L,In⟩:=LIn.at (TIn.below K.out k.out) j
   have M:(q:Int)<l.length:=by omega
   have b:=Qf (e.out.trans (Qc8 j));have C:Hid (∀ u,Below wr.heap.size wr u->Rd prog 223 #[.agg #[Iv t.kind,Iv t.r,.slice z t.len B],Iv regs] u (Iv (t.check regs))):=fun u H=>Qkc (In.below H) A.out;clear j e In;generalize t.check regs=v at b C;have C:=Qf (C.out _ (Zc wr (.cells #[Iv t.kind,Iv t.r,.slice z t.len B] 105)));go_wp2_with fail
   refine C.out.mono ?_;rintro P G ⟨rfl,y⟩;have D:Hid (Below w.heap.size w G):=k.out.trans (((Zc wr _).trans (y.mono (Zc wr _).size)).mono k.out.size);clear y C F J L;by_cases s:v=0
   ·subst s;have b:=Qf (b.out.trans (Xr (by simp)));go_wp2
    go_roundw
    case rel=>exact⟨q+1,by omega,by go_num,b,D⟩
    case measure=>simp[intOf];omega
   ·have b:=Qf (b.out.trans (Xs s));have N:(v != 0)=true:=bne_iff_ne.2 s;clear s;go_wp2
    go_ret;exact⟨by rw[b.out];rfl,D.out⟩
  ·have x:q=l.length:=by omega
   subst x;go_wp2
   go_ret;exact⟨by rw[e.out,List.drop_length];rfl,k.out⟩
theorem Qbr {b:Int}:Rd prog 117 #[Iv xc,Iv b] w (QG (atF xc b)):=by
 have f:=Qf ((Bxs.start w).new #[Iv 0,Iv 0] 32);go_enter func117,ntmps117
 go_upto_region 1 with fail
 generalize w.alloc (.cells #[Iv 0,Iv 0] 32)=j at f |-;generalize w.heap.size=R at f |-;have i:=f.out.cell (a:=[]) 0 _ Z;have m:=f.out.cell (a:=[]) 1 _ Z;have l:=f.out.free (a:=[]) 0;have k:=f.out.free (a:=[]) 1;have g:Hid (∀ c p:Int,_):=fun c p=>(f.out.set (a:=[]) 0 (Iv c)).set (a:=[]) 1 (Iv p);by_cases h:xc=0
 ·subst h;go_wp2
  exact Xy (v:=QG (atF 0 b)) (by simp[results,results117,go_sem,(g.out 0 0).cell (a:=[]) 0 _ Z,(g.out 0 0).cell (a:=[]) 1 _ Z,atF,QG]) Z ⟨Z,(g.out 0 0).bel⟩
 ·have d:(xc==0)=false:=by simpa using h
  have e:=Qf h;clear h;go_wp2
  exact Xy (v:=QG (atF xc b)) (by simp[results,results117,go_sem,(g.out xc b).cell (a:=[]) 0 _ Z,(g.out xc b).cell (a:=[]) 1 _ Z,atF,QG,e.out]) Z ⟨Z,(g.out xc b).bel⟩
theorem Qhp {l:List (TT n)}(d:(Qo n).In w All l [.slice p l.length c]) (y:l.length<=100000) :
 Rd prog 259 #[.slice p l.length c,.func (.func 225) #[] #[]] w (Iv (idxK 0 l)):=by
 have x:=Qf (QU d).1;have E:Hid (idxK 0 l=idxK 0 (l.drop 0)):=rfl;have z:∀ (args:Array Value) (w:World),(callFunc 225 args).run prog w=.ok (.enter 225 args) w:=fun _ _=>by kernel_rfl
 generalize idxK 0 l=V at E |-;clear d;go_enter func259,ntmps259
 go_wp2
 go_loopw [8] (fun i wr=>∃ q:Nat,q<=l.length/\i=Iv q/\Hid (V=idxK q (l.drop q))/\Hid (Below w.heap.size w wr)) (fun i _=>l.length - (intOf i).toNat)
 case atStart=>exact⟨0,Xb _,Z,E,Zr⟩
 case round =>
  obtain⟨q,F,rfl,e,k⟩:=hrel
  clear E;by_cases j:q<l.length
  ·have f:l[q]?=some l[q]:=Zg j;generalize l[q]=t at f;obtain⟨g,o,v,s,rfl,-,u,D,B,In⟩:=LIn.at (TIn.below x.out k.out) f
   have A:(q:Int)<l.length:=by omega
   have a:=Qf (e.out.trans (QiE f));have h:Hid (Below w.heap.size w (wr.alloc (.cells #[Iv t.kind,Iv t.r,.slice v t.len s] 105))):=k.out.trans ((Zc wr _).mono k.out.size);clear f e In;by_cases b:t.kind=1
   ·have a:=Qf (a.out.trans (Xs b));rw[b] at u h
    clear b;go_wp2
    go_roundw
    case rel=>exact⟨q+1,by omega,by go_num,a,h⟩
    case measure=>simp[intOf];omega
   ·have a:=Qf (a.out.trans (Xr b));have C:(t.kind != 1)=true:=bne_iff_ne.2 b;clear b;go_wp2
    go_ret;exact⟨by rw[a.out];rfl,h.out⟩
  ·have m:q=l.length:=by omega
   subst m;go_wp2
   go_ret;exact⟨by rw[e.out,List.drop_length];rfl,k.out⟩
theorem Qei {l:List (TT n)}(a:(Qo n).In w All l [.slice p l.length c]) (b:l.length<=100000) :
 Rd prog 224 #[.slice p l.length c,.func (.func 225) #[] #[]] w (.bool (decide (0<=idxK 0 l))):=by
 have C:=Qf (Qhp a b);clear a;go_enter func224,ntmps224
 go_wp2_with fail
 refine C.out.mono ?_;rintro f g ⟨rfl,d⟩;have e:=Qf d;clear d C;go_wp2
 go_ret;exact⟨Z,e.out⟩
def MFunc.begins {n:Nat}(x:MFunc n):Prop:=x.regs=0/\x.params.length=0/\x.results.all (fun t=>t.kind==1)=true
def MBlock.takes {n:Nat}(fn:MFunc n) (x:MBlock n):Prop:=x.regs=fn.regs/\x.params=fn.params
theorem QkR {fn:MFunc n}{x:MBlock n}(h:¬ x.takes fn):x.regs≠fn.regs\/Qc0 x.params fn.params=false:=by
 by_cases a:x.regs=fn.regs
 ·refine .inr ?_
  cases e:Qc0 x.params fn.params with
  | false=>rfl
  | true=>exact absurd ⟨a,QcL.1 e⟩ h
 ·exact .inl a
theorem QiL {fn:MFunc n}{x:MBlock n}(h:x.takes fn):¬ (x.regs≠fn.regs\/Qc0 x.params fn.params=false):=by
 rintro (a | a)
 ·exact a h.1
 ·rw[QcL.2 h.2] at a;cases a
abbrev bkA {n:Nat}(m:List (MFunc n)) (p:Option Addr) (c:Nat) (x:MFunc n) (fp:FP) (fi:Nat) (y:MBlock n) (bp:BP) (bi:Nat):Array Value:=#[.slice p m.length c,Iv x.regs,.slice fp.pP x.params.length fp.cP,.slice fp.pR x.results.length fp.cR,.slice fp.pB x.blocks.length fp.cB,Iv (fi:Int),Iv y.regs,.slice bp.pP y.params.length bp.cP,.slice bp.pC y.code.length bp.cC,Iv y.fin.op,Iv y.fin.a,Iv y.fin.yes.block,.slice bp.e.pYR y.fin.yes.regs.length bp.e.cYR,.slice bp.e.pYA y.fin.yes.args.length bp.e.cYA,Iv y.fin.no.block,.slice bp.e.pNR y.fin.no.regs.length bp.e.cNR,.slice bp.e.pNA y.fin.no.args.length bp.e.cNA,.slice bp.e.pA y.fin.args.length bp.e.cA,Iv (bi:Int)]
theorem Qey {m:List (MFunc n)}{x:MFunc n}{a:FP}(i:FIn w All x a) (g:x.small) :
 Rd prog 179 #[.agg #[.slice p m.length c,Iv x.regs,.slice a.pP x.params.length a.cP,.slice a.pR x.results.length a.cR,.slice a.pB x.blocks.length a.cB,Iv (fi:Int)]] w (.bool (ZR x.begins)):=by
 have e:=Qf (Zc w (.cells #[.slice p m.length c,Iv x.regs,.slice a.pP x.params.length a.cP,.slice a.pR x.results.length a.cR,.slice a.pB x.blocks.length a.cB,Iv (fi:Int)] 139));have j:=Qf (Blk.new w #[.slice p m.length c,Iv x.regs,.slice a.pP x.params.length a.cP,.slice a.pR x.results.length a.cR,.slice a.pB x.blocks.length a.cB,Iv (fi:Int)] 139);have C:=Qf (Qei (Ya i.results e.out) (by have:=g.2.2.1.1;omega));have q:x.begins↔x.regs=0/\x.params.length=0/\¬ 0<=idxK 0 x.results:=by unfold MFunc.begins;rw[Qgh,Classical.not_not]
 have b:=Qf q;clear q;generalize idxK 0 x.results=o at C b;clear i g;go_enter func179,ntmps179
 go_upto_region 1 with fail
 generalize w.alloc (.cells #[.slice p m.length c,Iv x.regs,.slice a.pP x.params.length a.cP,.slice a.pR x.results.length a.cR,.slice a.pB x.blocks.length a.cB,Iv (fi:Int)] 139)=y at e j C |-;generalize s:w.heap.size=X at j |-;have z:=Qf s;clear s;have G:=Qb j.out 1 _ Z;have E:=Qb j.out 2 _ Z;have F:=Qb j.out 3 _ Z;by_cases d:x.regs=0
 ·have t:(x.regs==0)=true:=by simpa using d
  by_cases f:x.params.length=0
  ·have v:((x.params.length:Int)==0)=true:=by simpa using f
   have k:Hid (ZR x.begins=!(decide (0<=o))):=by
    by_cases l:0<=o
    ·exact(QB (fun h=>(b.out.1 h).2.2 l)).trans (by simp[l])
    ·exact(QC (b.out.2 ⟨d,f,l⟩)).trans (by simp[l])
   clear d f b;go_wp2_with fail
   refine C.out.mono ?_;rintro D B ⟨rfl,r⟩;have u:=Qf (e.out.trans (r.mono e.out.size));clear r C;go_wp2
   go_ret;exact⟨by rw[k.out];rfl,u.out⟩
  ·have v:((x.params.length:Int)==0)=false:=by simpa using f
   have k:=Qf (QB (A:=x.begins) (fun h=>f (b.out.1 h).2.1));clear d f b;go_wp2
   go_ret;exact⟨by rw[k.out];rfl,e.out⟩
 ·have t:(x.regs==0)=false:=by simpa using d
  have k:=Qf (QB (A:=x.begins) (fun h=>d (b.out.1 h).1));clear d b;go_wp2
  go_ret;exact⟨by rw[k.out];rfl,e.out⟩
theorem Qfk {m:List (MFunc n)}{x:MFunc n}{a:FP}(k:FIn w All x a) (i:x.small) :
 Rd prog 116 #[.agg #[.slice p m.length c,Iv x.regs,.slice a.pP x.params.length a.cP,.slice a.pR x.results.length a.cR,.slice a.pB x.blocks.length a.cB,Iv (fi:Int)]] w (Iv (x.code fi)):=by
 have r:=Qf (Zc w (.cells #[.slice p m.length c,Iv x.regs,.slice a.pP x.params.length a.cP,.slice a.pR x.results.length a.cR,.slice a.pB x.blocks.length a.cB,Iv (fi:Int)] 139));have d:=Qf (Blk.new w #[.slice p m.length c,Iv x.regs,.slice a.pP x.params.length a.cP,.slice a.pR x.results.length a.cR,.slice a.pB x.blocks.length a.cB,Iv (fi:Int)] 139);have s:Hid (∀ f,Below w.heap.size w f->Calls prog 178 #[.slice a.pP x.params.length a.cP,Iv x.regs] f fun e z=>e=.returned (Iv (listC x.regs x.params))/\Below f.heap.size f z):=fun f v=>QaH (regs:=x.regs) (Ya k.params v) i.2.1;have q:Hid (∀ f,Below w.heap.size w f->Calls prog 178 #[.slice a.pR x.results.length a.cR,Iv x.regs] f fun e z=>e=.returned (Iv (listC x.regs x.results))/\Below f.heap.size f z):=fun f v=>QaH (regs:=x.regs) (Ya k.results v) i.2.2.1;have g:Hid (∀ f,Below w.heap.size w f->Calls prog 179 #[.agg #[.slice p m.length c,Iv x.regs,.slice a.pP x.params.length a.cP,.slice a.pR x.results.length a.cR,.slice a.pB x.blocks.length a.cB,Iv (fi:Int)]] f fun e z=>e=.returned (.bool (ZR x.begins))/\Below f.heap.size f z):=fun f v=>Qey (k.below v) i;have aa:=i.1;have b:Hid (x.code fi=if x.regs<0\/6<x.regs then 1 else if listC x.regs x.params≠0 then listC x.regs x.params else if listC x.regs x.results≠0 then listC x.regs x.results else if x.blocks.length<1\/12<x.blocks.length then 2 else if fi=0/\¬ (x.regs=0/\x.params.length=0/\x.results.all (fun t=>t.kind==1)=true) then 18 else 0):=rfl;generalize x.code fi=V at b |-;generalize listC x.regs x.params=W at b s;generalize listC x.regs x.results=Q at b q;clear k i;go_enter func116,ntmps116
 go_upto_region 1 with fail
 generalize w.alloc (.cells #[.slice p m.length c,Iv x.regs,.slice a.pP x.params.length a.cP,.slice a.pR x.results.length a.cR,.slice a.pB x.blocks.length a.cB,Iv (fi:Int)] 139)=w1 at r d |-;generalize S:w.heap.size=X at d |-;have HX:=Qf S;clear S;have K:=Qb d.out 1 _ Z;have H:=Qb d.out 2 _ Z;have J:=Qb d.out 3 _ Z;have I:=Qb d.out 4 _ Z;have D:=Qb d.out 5 _ Z;by_cases y:x.regs<0\/6<x.regs
 ·have E:=Qf (b.out.trans (Xs y));by_cases l:x.regs<0
  ·have F:decide (x.regs<0)=true:=Xt l;clear l y b s q g;go_wp2
   go_ret;exact⟨by rw[E.out];rfl,r.out⟩
  ·have F:decide (x.regs<0)=false:=Xu l;have U:decide (x.regs>6)=true:=Xt (by omega);clear l y b s q g;go_wp2
   go_ret;exact⟨by rw[E.out];rfl,r.out⟩
 replace b:=Qf (b.out.trans (Xr y));have F:decide (x.regs<0)=false:=Xu (by omega);have U:decide (x.regs>6)=false:=Xu (by omega);clear y;go_wp2_with fail
 refine(s.out w1 r.out).mono ?_
 rintro O w2 ⟨rfl,N⟩;have L:=Qf (r.out.trans (N.mono r.out.size));have d:=Qf (d.out.below N);clear N s K H J I D;have K:=Qb d.out 1 _ Z;have H:=Qb d.out 2 _ Z;have J:=Qb d.out 3 _ Z;have I:=Qb d.out 4 _ Z;have D:=Qb d.out 5 _ Z;by_cases C:W=0
 rotate_left
 ·have E:=Qf (b.out.trans (Xs C));have T:(W != 0)=true:=bne_iff_ne.2 C;clear C b q g;go_wp2
  go_ret;exact⟨by rw[E.out];rfl,L.out⟩
 replace b:=Qf (b.out.trans (Xr (fun h=>h C)));subst C;go_wp2_with fail
 refine(q.out w2 L.out).mono ?_
 rintro O R ⟨rfl,M⟩;have j:=Qf (L.out.trans (M.mono L.out.size));have d:=Qf (d.out.below M);clear M q K H J I D;have x0:=Qb d.out 0 _ Z;have K:=Qb d.out 1 _ Z;have H:=Qb d.out 2 _ Z;have J:=Qb d.out 3 _ Z;have I:=Qb d.out 4 _ Z;have D:=Qb d.out 5 _ Z;by_cases u:Q=0
 rotate_left
 ·have E:=Qf (b.out.trans (Xs u));have T:(Q != 0)=true:=bne_iff_ne.2 u;clear u b g;go_wp2
  go_ret;exact⟨by rw[E.out];rfl,j.out⟩
 replace b:=Qf (b.out.trans (Xr (fun h=>h u)));subst u;by_cases A:x.blocks.length<1\/12<x.blocks.length
 ·have E:=Qf (b.out.trans (Xs A));by_cases l:x.blocks.length<1
  ·have F:decide ((x.blocks.length:Int)<1)=true:=Xt (by omega);clear l A b g;go_wp2
   go_ret;exact⟨by rw[E.out];rfl,j.out⟩
  ·have F:decide ((x.blocks.length:Int)<1)=false:=Xu (by omega);have U:decide ((x.blocks.length:Int)>12)=true:=Xt (by omega);clear l A b g;go_wp2
   go_ret;exact⟨by rw[E.out];rfl,j.out⟩
 replace b:=Qf (b.out.trans (Xr A));have T:decide ((x.blocks.length:Int)<1)=false:=Xu (by omega);have d4:decide ((x.blocks.length:Int)>12)=false:=Xu (by omega);clear A;by_cases G:fi=0
 rotate_left
 ·have E:=Qf (b.out.trans (Xr (fun h=>G h.1)));have d5:((fi:Int)==0)=false:=by simpa using G
  clear G b g;go_wp2
  go_ret;exact⟨by rw[E.out];rfl,j.out⟩
 subst G;by_cases o:x.begins
 ·have E:=Qf (b.out.trans (Xr (fun h=>h.2 o)));have g:=Qf (g.out R j.out);rw[QC o] at g
  clear o b;go_wp2_with fail
  refine g.out.mono ?_;rintro O w4 ⟨rfl,B⟩;have P:=Qf (j.out.trans (B.mono j.out.size));clear B g;go_wp2
  go_ret;exact⟨by rw[E.out];rfl,P.out⟩
 ·have E:=Qf (b.out.trans (Xs ⟨Z,o⟩));have g:=Qf (g.out R j.out);rw[QB o] at g
  clear o b;go_wp2_with fail
  refine g.out.mono ?_;rintro O w4 ⟨rfl,B⟩;have P:=Qf (j.out.trans (B.mono j.out.size));clear B g;go_wp2
  go_ret;exact⟨by rw[E.out];rfl,P.out⟩
theorem ZM {rest:List Oper}{op:Oper}{a:Act}{Q:Exit->Act->World->Prop}(l:Region.wanted op (yielded ops a.tmps)=true) (c:TypeId) (x:Operand) (e:op.op=.load c x)
 (b o:Nat) (f:a.eval x=Pv b o) (cs:List Value) (d:TypeDesc) (k:w.rangeAt b o cs) (i:P.underlying c=some d) (j:d.isRow=true) (hi:(P.info? c).map (·.size)=some cs.length)
 (h:wpList P ops Q rest (a.put op.dst (.agg cs.toArray)) w):wpList P ops Q (op::rest) a w :=
 wpList_step fun K g=>by
  rw[Xs l]
  exact wp_load_mid c x e b o f cs d k i j hi (g _ _ h)
theorem bkSize:(prog.info? 194).map (·.size)=some 19:=by kernel_rfl
theorem Qi3 {m:List (MFunc n)}{x:MFunc n}{d:FP}{y:MBlock n}{b:BP}(k:FIn w All x d) (r:x.small) (l:BIn w All y b) (f:y.small) :
 Rd prog 226 #[.agg (bkA m p c x d fi y b bi)] w (.bool (ZR (y.takes x))):=by
 have o:=Qf (Zc w (.cells (bkA m p c x d fi y b bi) 194));have j:=Qf (Blk.new w (bkA m p c x d fi y b bi) 194);have C:Hid (∀ g,Below w.heap.size w g->Calls prog 260 #[.slice b.pP y.params.length b.cP,.slice d.pP x.params.length d.cP,FV] g fun e F=>ZL e (y.params=x.params)/\Below g.heap.size g F):=fun g s=>Qim n (same_any n) _ _ _ _ _ _ g (QU (Ya l.params s)).1 (QU (Ya k.params s)).1 (by have:=f.2.1.1;omega) f.2.1.2;clear k r l f;unfold Rd;go_enter func226,ntmps226
 go_upto_region 1 with fail
 generalize w.alloc (.cells #[.slice p m.length c,Iv x.regs,.slice d.pP x.params.length d.cP,.slice d.pR x.results.length d.cR,.slice d.pB x.blocks.length d.cB,Iv (fi:Int),Iv y.regs,.slice b.pP y.params.length b.cP,.slice b.pC y.code.length b.cC,Iv y.fin.op,Iv y.fin.a,Iv y.fin.yes.block,.slice b.e.pYR y.fin.yes.regs.length b.e.cYR,.slice b.e.pYA y.fin.yes.args.length b.e.cYA,Iv y.fin.no.block,.slice b.e.pNR y.fin.no.regs.length b.e.cNR,.slice b.e.pNA y.fin.no.args.length b.e.cNA,.slice b.e.pA y.fin.args.length b.e.cA,Iv (bi:Int)] 194)=z at o j |-;generalize v:w.heap.size=X at j |-;have H:=Qf v;clear v;have M:=Qb j.out 1 _ Z;have K:=Qb j.out 2 _ Z;have N:=Qb j.out 6 _ Z;have L:=Qb j.out 7 _ Z;by_cases i:y.regs=x.regs
 ·have B:(y.regs==x.regs)=true:=by simpa using i
  have D:=Qf i;clear i;go_wp2_with fail
  refine(C.out z o.out).mono ?_
  rintro J I ⟨⟨q,rfl,t⟩,u⟩;have G:=Qf (o.out.trans (u.mono o.out.size));have E:Hid (ZR (y.takes x)=q):=(Qf9 (t.trans ⟨fun h=>⟨D.out,h⟩,fun h=>h.2⟩)).symm;clear u C t;go_wp2
  go_ret;exact⟨by rw[E.out];rfl,G.out⟩
 ·have B:(y.regs==x.regs)=false:=by simpa using i
  have E:=Qf (QB (A:=y.takes x) (fun h=>i h.1));clear i C;go_wp2
  go_ret;exact⟨by rw[E.out];rfl,o.out⟩
theorem Qev {m:List (MFunc n)}{x:MFunc n}{f:FP}{y:MBlock n}{b:BP}(B:FIn w All x f) (A:x.small) (s:BIn w All y b) (q:y.small) :
 Rd prog 180 #[.agg (bkA m p c x f fi y b bi)] w (Iv (y.code' x bi)):=by
 have u:=Qf (Zc w (.cells (bkA m p c x f fi y b bi) 194));have i:=Qf (Blk.new w (bkA m p c x f fi y b bi) 194);have z:Hid (∀ j,Below w.heap.size w j->Calls prog 178 #[.slice b.pP y.params.length b.cP,Iv y.regs] j fun e O=>e=.returned (Iv (listC y.regs y.params))/\Below j.heap.size j O):=fun j I=>QaH (Ya s.params I) q.2.1;have g:Hid (∀ j,Below w.heap.size w j->Calls prog 226 #[.agg #[.slice p m.length c,Iv x.regs,.slice f.pP x.params.length f.cP,.slice f.pR x.results.length f.cR,.slice f.pB x.blocks.length f.cB,Iv (fi:Int),Iv y.regs,.slice b.pP y.params.length b.cP,.slice b.pC y.code.length b.cC,Iv y.fin.op,Iv y.fin.a,Iv y.fin.yes.block,.slice b.e.pYR y.fin.yes.regs.length b.e.cYR,.slice b.e.pYA y.fin.yes.args.length b.e.cYA,Iv y.fin.no.block,.slice b.e.pNR y.fin.no.regs.length b.e.cNR,.slice b.e.pNA y.fin.no.args.length b.e.cNA,.slice b.e.pA y.fin.args.length b.e.cA,Iv (bi:Int)]] j fun e O=>e=.returned (.bool (ZR (y.takes x)))/\Below j.heap.size j O):=fun j I=>Qi3 (B.below I) A (s.below I) q;have W:=q.1;have d:Hid (y.code' x bi=if y.regs<x.regs\/16<y.regs then 1 else if listC y.regs y.params≠0 then listC y.regs y.params else if bi=0/\(y.regs≠x.regs\/Qc0 y.params x.params=false) then 9 else if 40<y.code.length then 2 else 0):=rfl;generalize y.code' x bi=V at d |-;generalize listC y.regs y.params=T at d z;clear B A s q;unfold Rd;go_enter func180,ntmps180
 go_upto_region 1 with fail
 generalize w.alloc (.cells #[.slice p m.length c,Iv x.regs,.slice f.pP x.params.length f.cP,.slice f.pR x.results.length f.cR,.slice f.pB x.blocks.length f.cB,Iv (fi:Int),Iv y.regs,.slice b.pP y.params.length b.cP,.slice b.pC y.code.length b.cC,Iv y.fin.op,Iv y.fin.a,Iv y.fin.yes.block,.slice b.e.pYR y.fin.yes.regs.length b.e.cYR,.slice b.e.pYA y.fin.yes.args.length b.e.cYA,Iv y.fin.no.block,.slice b.e.pNR y.fin.no.regs.length b.e.cNR,.slice b.e.pNA y.fin.no.args.length b.e.cNA,.slice b.e.pA y.fin.args.length b.e.cA,Iv (bi:Int)] 194)=U at u i |-;generalize R:w.heap.size=X at i |-;have HX:=Qf R;clear R;have x1:=Qb i.out 1 _ Z;have x6:=Qb i.out 6 _ Z;have x7:=Qb i.out 7 _ Z;have t:=Qb i.out 8 _ Z;have D:=Qb i.out 18 _ Z;by_cases C:y.regs<x.regs\/16<y.regs
 ·have E:=Qf (d.out.trans (Xs C));by_cases J:y.regs<x.regs
  ·have Q:decide (y.regs<x.regs)=true:=Xt J;clear J C d z g;go_wp2
   go_ret;exact⟨by rw[E.out];rfl,u.out⟩
  ·have Q:decide (y.regs<x.regs)=false:=Xu J;have d2:decide (y.regs>16)=true:=Xt (by omega);clear J C d z g;go_wp2
   go_ret;exact⟨by rw[E.out];rfl,u.out⟩
 replace d:=Qf (d.out.trans (Xr C));have Q:decide (y.regs<x.regs)=false:=Xu (by omega);have d2:decide (y.regs>16)=false:=Xu (by omega);clear C;go_wp2_with fail
 refine(z.out U u.out).mono ?_
 rintro M P ⟨rfl,K⟩;have k:=Qf (u.out.trans (K.mono u.out.size));replace i:=Qf (i.out.below K);have N:=Qf (Blk.range (c:=(bkA m p c x f fi y b bi).toList) i.out);clear K z x1 x6 x7 t D;have t:=Qb i.out 8 _ Z;have D:=Qb i.out 18 _ Z;by_cases G:T=0
 rotate_left
 ·have E:=Qf (d.out.trans (Xs G));have d3:(T != 0)=true:=bne_iff_ne.2 G;clear G d g;go_wp2
  go_ret;exact⟨by rw[E.out];rfl,k.out⟩
 replace d:=Qf (d.out.trans (Xr (fun h=>h G)));subst G;by_cases o:bi=0/\¬ y.takes x
 ·have E:=Qf (d.out.trans (Xs ⟨o.1,QkR o.2⟩));have g:=Qf (g.out P k.out);rw[QB o.2] at g
  have v:=o.1;subst v;clear o d;go_wp2_with (refine ZM Z 194 (.tmp 1) Z X 0 Z (bkA m p c x f fi y b 0).toList _ N.out underlying194 Z bkSize ?_)
  refine g.out.mono ?_;rintro M S ⟨rfl,l⟩;have F:=Qf (k.out.trans (l.mono k.out.size));clear l g;go_wp2
  go_ret;exact⟨by rw[E.out];rfl,F.out⟩
 replace d:=Qf (d.out.trans (Xr (fun h=>o ⟨h.1,fun H=>QiL H h.2⟩)));by_cases v:bi=0
 ·subst v;have H:y.takes x:=Classical.byContradiction (fun h=>o ⟨Z,h⟩);have g:=Qf (g.out P k.out);rw[QC H] at g
  clear o H;by_cases r:40<y.code.length
  ·have L:decide ((y.code.length:Int)>40)=true:=Xt (by omega);have E:=Qf (d.out.trans (Xs r));clear r d;go_wp2_with (refine ZM Z 194 (.tmp 1) Z X 0 Z (bkA m p c x f fi y b 0).toList _ N.out underlying194 Z bkSize ?_)
   refine g.out.mono ?_;rintro M S ⟨rfl,l⟩;have F:=Qf (k.out.trans (l.mono k.out.size));have t:=Qk t l;clear l g;go_wp2
   go_ret;exact⟨by rw[E.out];rfl,F.out⟩
  ·have L:decide ((y.code.length:Int)>40)=false:=Xu (by omega);have E:=Qf (d.out.trans (Xr r));clear r d;go_wp2_with (refine ZM Z 194 (.tmp 1) Z X 0 Z (bkA m p c x f fi y b 0).toList _ N.out underlying194 Z bkSize ?_)
   refine g.out.mono ?_;rintro M S ⟨rfl,l⟩;have F:=Qf (k.out.trans (l.mono k.out.size));have t:=Qk t l;clear l g;go_wp2
   go_ret;exact⟨by rw[E.out];rfl,F.out⟩
 ·have d5:((bi:Int)==0)=false:=by simpa using v
  clear o v g;by_cases r:40<y.code.length
  ·have L:decide ((y.code.length:Int)>40)=true:=Xt (by omega);have E:=Qf (d.out.trans (Xs r));clear r d;go_wp2
   go_ret;exact⟨by rw[E.out];rfl,k.out⟩
  ·have L:decide ((y.code.length:Int)>40)=false:=Xu (by omega);have E:=Qf (d.out.trans (Xr r));clear r d;go_wp2
   go_ret;exact⟨by rw[E.out];rfl,k.out⟩
theorem FbS.start0 (w:World):FbS w (w.alloc (.cells #[Iv 0,Iv 0] 32)) w.heap.size []:=⟨Zc w _,Ze,Blk.new _ _ _,fun i b a=>by simp at a⟩
theorem Qjo {l:List Qs}{Bc:Nat}(G:Nat->Qs->Int × Int) (J:insL.list.In w All l [.slice p l.length c]) (aa:l.length<=100000)
 (A:∀ (i:Nat) x (z:IP) wx,l[i]?=some x->IIn wx All x z->Below w.heap.size w wx->Rd prog 183 #[Iv (i:Int),.agg #[Iv x.op,Iv x.a,Iv x.b,Iv x.c,Iv x.k,Iv x.n,.slice z.pR x.regs.length z.cR,.slice z.pA x.args.length z.cA],Pv Bc 0] wx (QG (G i x))) :
 Rd prog 182 #[.slice p l.length c,.func (.func 183) #[] #[Pv Bc 0]] w (QG (firstF G 0 l)):=by
 have HL:=Qf J;have HC:=Qf A;have S:=Qf (FbS.start0 w);have hE:∀ (args:Array Value) (w:World),(callFunc 183 args).run prog w=.ok (.enter 183 args) w:=fun _ _=>by kernel_rfl
 clear J A;unfold Rd;go_enter func182,ntmps182
 go_upto_region 1 with fail
 generalize w.alloc (.cells #[Iv 0,Iv 0] 32)=w1 at S |-;generalize w.heap.size=R at S |-;go_wp2_with fail
 go_loopw [10] (fun i wr=>∃ q:Nat,q<=l.length/\i=Iv q/\FbS w wr R []/\∀ (j:Nat) x,j<q->l[j]?=some x->(G j x).1=0) (fun i _=>l.length - (intOf i).toNat)
 case atStart=>exact⟨0,Xb _,Yz,S.out,fun j z B=>absurd B (XG _)⟩
 case round =>
  obtain⟨q,hq,rfl,hs,y⟩:=hrel
  have e:=Qf hs;have F:=Qf y;clear hs y S;obtain⟨L,T⟩:∃ L,L=wr:=⟨_,Yz⟩
  subst T;by_cases U:q<l.length
  rotate_left
  ·have H:¬ (q:Int)<l.length:=by omega
   have E:firstF G 0 l=(0,0):=Q0 fun j x B=>by rw[XK];exact F.out j x (by have:=(Zi B).1;omega) B
   obtain⟨r0,r1,z0,z1⟩:=e.out.cells
   have D:=Qf (e.out.fin 0 0);go_wp2_with fail
   generalize World.setCell _ _ _=V at D |-;exact Xy (v:=.agg #[Iv 0,Iv 0]) (by simp[results,results182,go_sem,Qb D.out.1 0 _ Yz,Qb D.out.1 1 _ Yz]) Yz ⟨by first | rfl | rw[E],D.out.2⟩
  have H:(q:Int)<l.length:=by omega
  have K:l[q]?=some l[q]:=Zg U;generalize l[q]=x at K;have M:=Qf K;obtain⟨g,o,z,rfl,h,I3⟩:=QiB HL.out K
  have HI:=Qf I3;have v0:=Qk (show w.cell? ⟨g,o+q*8,none⟩=_ from h 0 _ Yz) e.out.bel;have v1:=Qk (show w.cell? ⟨g,o+q*8+1,none⟩=_ from h 1 _ Yz) e.out.bel;have v2:=Qk (show w.cell? ⟨g,o+q*8+2,none⟩=_ from h 2 _ Yz) e.out.bel;have v3:=Qk (show w.cell? ⟨g,o+q*8+3,none⟩=_ from h 3 _ Yz) e.out.bel;have v4:=Qk (show w.cell? ⟨g,o+q*8+4,none⟩=_ from h 4 _ Yz) e.out.bel;have v5:=Qk (show w.cell? ⟨g,o+q*8+5,none⟩=_ from h 5 _ Yz) e.out.bel;have v6:=Qk (show w.cell? ⟨g,o+q*8+6,none⟩=_ from h 6 _ Yz) e.out.bel;have v7:=Qk (show w.cell? ⟨g,o+q*8+7,none⟩=_ from h 7 _ Yz) e.out.bel;have d:=Qf (e.out.new #[Iv x.op,Iv x.a,Iv x.b,Iv x.c,Iv x.k,Iv x.n,.slice z.pR x.regs.length z.cR,.slice z.pA x.args.length z.cA] 78);clear K h I3;go_upto_region 4 with fail
  generalize L.alloc (.cells #[Iv x.op,Iv x.a,Iv x.b,Iv x.c,Iv x.k,Iv x.n,.slice z.pR x.regs.length z.cR,.slice z.pA x.args.length z.cA] 78)=w3 at d |-;generalize L.heap.size=Z at d |-;clear e v0 v1 v2 v3 v4 v5 v6 v7;have t0:=Qb (d.out.box 0 _ Yz) 0 _ Yz;have t1:=Qb (d.out.box 0 _ Yz) 1 _ Yz;have t2:=Qb (d.out.box 0 _ Yz) 2 _ Yz;have t3:=Qb (d.out.box 0 _ Yz) 3 _ Yz;have t4:=Qb (d.out.box 0 _ Yz) 4 _ Yz;have t5:=Qb (d.out.box 0 _ Yz) 5 _ Yz;have t6:=Qb (d.out.box 0 _ Yz) 6 _ Yz;have t7:=Qb (d.out.box 0 _ Yz) 7 _ Yz;have W:=Qf (HC.out q x z w3 M.out (HI.out.below d.out.bel) d.out.bel);unfold Rd at W;obtain⟨m,C,O⟩:∃ m C,G q x=(m,C):=⟨_,_,Yz⟩
  rw[O] at W
  have N:=Qf O;clear O;go_wp2_with fail
  refine W.out.mono ?_;rintro _ w8 ⟨rfl,X⟩;have t:=Qf ((d.out.below X).new #[Iv m,Iv C] 32);clear X d;simp only[QG]
  go_upto_region 5 with fail
  generalize w8.alloc (.cells #[Iv m,Iv C] 32)=w9 at t |-;generalize w8.heap.size=F8 at t |-;have f0:=Qb (t.out.box 0 _ Yz) 0 _ Yz;have f1:=Qb (t.out.box 0 _ Yz) 1 _ Yz;have P:Hid (FbS w w9 R []):=⟨t.out.bel,t.out.ge,t.out.r,fun i b hb=>by simp at hb⟩;clear t;by_cases s:m=0
  ·subst s;go_wp2
   go_roundw
   case rel =>
    refine⟨q+1,by omega,by go_num,P.out,fun j u B I=>?_⟩
    by_cases Q:j<q
    ·exact F.out j u Q I
    ·have:j=q:=by omega
     subst this;rw[M.out] at I
     cases I
     rw[N.out]
   case measure=>simp[intOf];omega
  ·have d9:(m != 0)=true:=by simpa using s
   have E:firstF G 0 l=(m,C):=by
    have hF:=Qat (f:=G) (j:=0) M.out (fun j u B I=>by rw[XK];exact F.out j u B I) (by rw[XK,N.out];exact s);rw[XK,N.out] at hF
    exact hF
   clear s;obtain⟨r0,r1,z0,z1⟩:=P.out.cells
   have D:=Qf (P.out.fin m C);go_wp2_with fail
   generalize World.setCell _ _ _=V at D |-;exact Xy (v:=.agg #[Iv m,Iv C]) (by simp[results,results182,go_sem,Qb D.out.1 0 _ Yz,Qb D.out.1 1 _ Yz]) Yz ⟨by first | rfl | rw[E],D.out.2⟩
theorem Qfy {l:List (MBlock n)}{Bc:Nat}(G:Nat->(MBlock n)->Int × Int) (P:(Zj n).list.In w All l [.slice p l.length c]) (ae:l.length<=100000)
 (A:∀ (i:Nat) x (z:BP) wx,l[i]?=some x->BIn wx All x z->Below w.heap.size w wx->Rd prog 120 #[Iv (i:Int),.agg #[Iv x.regs,.slice z.pP x.params.length z.cP,.slice z.pC x.code.length z.cC,Iv x.fin.op,Iv x.fin.a,Iv x.fin.yes.block,.slice z.e.pYR x.fin.yes.regs.length z.e.cYR,.slice z.e.pYA x.fin.yes.args.length z.e.cYA,Iv x.fin.no.block,.slice z.e.pNR x.fin.no.regs.length z.e.cNR,.slice z.e.pNA x.fin.no.args.length z.e.cNA,.slice z.e.pA x.fin.args.length z.e.cA],Pv Bc 0] wx (QG (G i x))) :
 Rd prog 119 #[.slice p l.length c,.func (.func 120) #[] #[Pv Bc 0]] w (QG (firstF G 0 l)):=by
 have HL:=Qf P;have HC:=Qf A;have S:=Qf (FbS.start0 w);have hE:∀ (args:Array Value) (w:World),(callFunc 120 args).run prog w=.ok (.enter 120 args) w:=fun _ _=>by kernel_rfl
 clear P A;unfold Rd;go_enter func119,ntmps119
 go_upto_region 1 with fail
 generalize w.alloc (.cells #[Iv 0,Iv 0] 32)=w1 at S |-;generalize w.heap.size=R at S |-;go_wp2_with fail
 go_loopw [10] (fun i wr=>∃ q:Nat,q<=l.length/\i=Iv q/\FbS w wr R []/\∀ (j:Nat) x,j<q->l[j]?=some x->(G j x).1=0) (fun i _=>l.length - (intOf i).toNat)
 case atStart=>exact⟨0,Xb _,Yz,S.out,fun j z h=>absurd h (XG _)⟩
 case round =>
  obtain⟨q,hq,rfl,hs,y⟩:=hrel
  have N:=Qf hs;have I:=Qf y;clear hs y S;obtain⟨B,ab⟩:∃ B,B=wr:=⟨_,Yz⟩
  subst ab;by_cases ac:q<l.length
  rotate_left
  ·have J:¬ (q:Int)<l.length:=by omega
   have E:firstF G 0 l=(0,0):=Q0 fun j x h=>by rw[XK];exact I.out j x (by have:=(Zi h).1;omega) h
   obtain⟨r0,r1,z0,z1⟩:=N.out.cells
   have D:=Qf (N.out.fin 0 0);go_wp2_with fail
   generalize World.setCell _ _ _=ad at D |-;exact Xy (v:=.agg #[Iv 0,Iv 0]) (by simp[results,results119,go_sem,Qb D.out.1 0 _ Yz,Qb D.out.1 1 _ Yz]) Yz ⟨by first | rfl | rw[E],D.out.2⟩
  have J:(q:Int)<l.length:=by omega
  have Q:l[q]?=some l[q]:=Zg ac;generalize l[q]=x at Q;have U:=Qf Q;obtain⟨g,o,z,rfl,T,I3⟩:=Qeu HL.out Q
  have HI:=Qf I3;generalize k:([Iv x.regs,.slice z.pP x.params.length z.cP,.slice z.pC x.code.length z.cC,Iv x.fin.op,Iv x.fin.a,Iv x.fin.yes.block,.slice z.e.pYR x.fin.yes.regs.length z.e.cYR,.slice z.e.pYA x.fin.yes.args.length z.e.cYA,Iv x.fin.no.block,.slice z.e.pNR x.fin.no.regs.length z.e.cNR,.slice z.e.pNA x.fin.no.args.length z.e.cNA,.slice z.e.pA x.fin.args.length z.e.cA]:List Value)=d at T;have hl:d.length=12:=by rw[<-k];rfl
  have C:=Qf (Qm4.of B hl);have TO:Hid (d.toArray.all (·.oneCell')=true):=by show _=_;rw[<-k];exact all_oneCell_toArray (Xe.1 Yz)
  have RG:Hid (B.rangeAt g (o+q*12) d):=fun j v h=>Qk (T j v h) N.out.bel;clear Q T I3 hl;go_upto_region 4 with (first | (refine wpList_load_mid Yz 86 (.tmp 13) Yz g (o+q*12) Yz d _ RG.out underlying86 Yz C.out.size ?_) | (refine wpList_store_mid Yz 86 (.tmp 6) (.tmp 14) Yz B.heap.size 0 d.toArray Yz Yz C.out.there C.out.size2 TO.out ?_))
  have F:=Qf ((N.out.below C.out.bel).add C.out.blk);have TS:=Qf C.out.size;clear N RG TO C;generalize (B.alloc (.cells #[Iv 0,Nv,Nv,Iv 0,Iv 0,Iv 0,Nv,Nv,Iv 0,Nv,Nv,Nv] 86)).setCells B.heap.size 0 d=K at F |-;generalize B.heap.size=Z at F |-;have RZ:Hid (K.rangeAt Z 0 d):=Blk.range (F.out.box 0 _ Yz);have CC:=Qf (HC.out q x z K U.out (HI.out.below F.out.bel) F.out.bel);unfold Rd at CC;have M:Hid (([Iv x.regs,.slice z.pP x.params.length z.cP,.slice z.pC x.code.length z.cC,Iv x.fin.op,Iv x.fin.a,Iv x.fin.yes.block,.slice z.e.pYR x.fin.yes.regs.length z.e.cYR,.slice z.e.pYA x.fin.yes.args.length z.e.cYA,Iv x.fin.no.block,.slice z.e.pNR x.fin.no.regs.length z.e.cNR,.slice z.e.pNA x.fin.no.args.length z.e.cNA,.slice z.e.pA x.fin.args.length z.e.cA]:List Value)=d):=k;have O:Hid (Calls prog 120 #[Iv (q:Int),.agg d.toArray,Pv Bc 0] K fun e w'=>e=.returned (QG (G q x))/\Below K.heap.size K w'):=by rw[<-M.out];exact CC.out
  clear CC M k;obtain⟨m,H,W⟩:∃ m H,G q x=(m,H):=⟨_,_,Yz⟩
  rw[W] at O
  have V:=Qf W;clear W;go_wp2_with (refine wpList_load_mid Yz 86 (.tmp 6) Yz Z 0 Yz d _ RZ.out underlying86 Yz TS.out ?_)
  refine O.out.mono ?_;rintro _ w8 ⟨rfl,b8⟩;have t:=Qf ((F.out.below b8).new #[Iv m,Iv H] 32);clear b8 F;simp only[QG]
  go_upto_region 5 with fail
  generalize w8.alloc (.cells #[Iv m,Iv H] 32)=w9 at t |-;generalize w8.heap.size=F8 at t |-;have f0:=Qb (t.out.box 0 _ Yz) 0 _ Yz;have f1:=Qb (t.out.box 0 _ Yz) 1 _ Yz;have X:Hid (FbS w w9 R []):=⟨t.out.bel,t.out.ge,t.out.r,fun i b hb=>by simp at hb⟩;clear t;by_cases s:m=0
  ·subst s;go_wp2
   go_roundw
   case rel =>
    refine⟨q+1,by omega,by go_num,X.out,fun j u h L=>?_⟩
    by_cases aa:j<q
    ·exact I.out j u aa L
    ·have:j=q:=by omega
     subst this;rw[U.out] at L
     cases L
     rw[V.out]
   case measure=>simp[intOf];omega
  ·have d9:(m != 0)=true:=by simpa using s
   have E:firstF G 0 l=(m,H):=by
    have hF:=Qat (f:=G) (j:=0) U.out (fun j u h L=>by rw[XK];exact I.out j u h L) (by rw[XK,V.out];exact s);rw[XK,V.out] at hF
    exact hF
   clear s;obtain⟨r0,r1,z0,z1⟩:=X.out.cells
   have D:=Qf (X.out.fin m H);go_wp2_with fail
   generalize World.setCell _ _ _=ad at D |-;exact Xy (v:=.agg #[Iv m,Iv H]) (by simp[results,results119,go_sem,Qb D.out.1 0 _ Yz,Qb D.out.1 1 _ Yz]) Yz ⟨by first | rfl | rw[E],D.out.2⟩
theorem Qht {l:List (MFunc n)}{Bc:Nat}(G:Nat->(MFunc n)->Int × Int) (H:(QaM n).In w All l [.slice p l.length c]) (aa:l.length<=100000)
 (m:∀ (i:Nat) x (z:FP) wx,l[i]?=some x->FIn wx All x z->Below w.heap.size w wx->Rd prog 74 #[Iv (i:Int),.agg #[Iv x.regs,.slice z.pP x.params.length z.cP,.slice z.pR x.results.length z.cR,.slice z.pB x.blocks.length z.cB],Pv Bc 0] wx (QG (G i x))) :
 Rd prog 73 #[.slice p l.length c,.func (.func 74) #[] #[Pv Bc 0]] w (QG (firstF G 0 l)):=by
 have HL:=Qf H;have HC:=Qf m;have S:=Qf (FbS.start0 w);have hE:∀ (args:Array Value) (w:World),(callFunc 74 args).run prog w=.ok (.enter 74 args) w:=fun _ _=>by kernel_rfl
 clear H m;unfold Rd;go_enter func73,ntmps73
 go_upto_region 1 with fail
 generalize w.alloc (.cells #[Iv 0,Iv 0] 32)=w1 at S |-;generalize w.heap.size=R at S |-;go_wp2_with fail
 go_loopw [10] (fun i wr=>∃ q:Nat,q<=l.length/\i=Iv q/\FbS w wr R []/\∀ (j:Nat) x,j<q->l[j]?=some x->(G j x).1=0) (fun i _=>l.length - (intOf i).toNat)
 case atStart=>exact⟨0,Xb _,Yz,S.out,fun j z t=>absurd t (XG _)⟩
 case round =>
  obtain⟨q,hq,rfl,hs,k⟩:=hrel
  have s:=Qf hs;have A:=Qf k;clear hs k S;obtain⟨J,P⟩:∃ J,J=wr:=⟨_,Yz⟩
  subst P;by_cases Q:q<l.length
  rotate_left
  ·have C:¬ (q:Int)<l.length:=by omega
   have E:firstF G 0 l=(0,0):=Q0 fun j x t=>by rw[XK];exact A.out j x (by have:=(Zi t).1;omega) t
   obtain⟨r0,r1,z0,z1⟩:=s.out.cells
   have D:=Qf (s.out.fin 0 0);go_wp2_with fail
   generalize World.setCell _ _ _=T at D |-;exact Xy (v:=.agg #[Iv 0,Iv 0]) (by simp[results,results73,go_sem,Qb D.out.1 0 _ Yz,Qb D.out.1 1 _ Yz]) Yz ⟨by first | rfl | rw[E],D.out.2⟩
  have C:(q:Int)<l.length:=by omega
  have I:l[q]?=some l[q]:=Zg Q;generalize l[q]=x at I;have K:=Qf I;obtain⟨g,o,z,rfl,B,X⟩:=Qfr HL.out I
  have HI:=Qf X;have v0:=Qk (show w.cell? ⟨g,o+q*4,none⟩=_ from B 0 _ Yz) s.out.bel;have v1:=Qk (show w.cell? ⟨g,o+q*4+1,none⟩=_ from B 1 _ Yz) s.out.bel;have v2:=Qk (show w.cell? ⟨g,o+q*4+2,none⟩=_ from B 2 _ Yz) s.out.bel;have v3:=Qk (show w.cell? ⟨g,o+q*4+3,none⟩=_ from B 3 _ Yz) s.out.bel;have a:=Qf (s.out.new #[Iv x.regs,.slice z.pP x.params.length z.cP,.slice z.pR x.results.length z.cR,.slice z.pB x.blocks.length z.cB] 89);clear I B X;go_upto_region 4 with fail
  generalize J.alloc (.cells #[Iv x.regs,.slice z.pP x.params.length z.cP,.slice z.pR x.results.length z.cR,.slice z.pB x.blocks.length z.cB] 89)=w3 at a |-;generalize J.heap.size=Z at a |-;clear s v0 v1 v2 v3;have t0:=Qb (a.out.box 0 _ Yz) 0 _ Yz;have t1:=Qb (a.out.box 0 _ Yz) 1 _ Yz;have t2:=Qb (a.out.box 0 _ Yz) 2 _ Yz;have t3:=Qb (a.out.box 0 _ Yz) 3 _ Yz;have U:=Qf (HC.out q x z w3 K.out (HI.out.below a.out.bel) a.out.bel);unfold Rd at U;obtain⟨d,y,M⟩:∃ d y,G q x=(d,y):=⟨_,_,Yz⟩
  rw[M] at U
  have L:=Qf M;clear M;go_wp2_with fail
  refine U.out.mono ?_;rintro _ W ⟨rfl,V⟩;have h:=Qf ((a.out.below V).new #[Iv d,Iv y] 32);clear V a;simp only[QG]
  go_upto_region 5 with fail
  generalize W.alloc (.cells #[Iv d,Iv y] 32)=w9 at h |-;generalize W.heap.size=F8 at h |-;have f0:=Qb (h.out.box 0 _ Yz) 0 _ Yz;have f1:=Qb (h.out.box 0 _ Yz) 1 _ Yz;have N:Hid (FbS w w9 R []):=⟨h.out.bel,h.out.ge,h.out.r,fun i b hb=>by simp at hb⟩;clear h;by_cases e:d=0
  ·subst e;go_wp2
   go_roundw
   case rel =>
    refine⟨q+1,by omega,by go_num,N.out,fun j u t F=>?_⟩
    by_cases O:j<q
    ·exact A.out j u O F
    ·have:j=q:=by omega
     subst this;rw[K.out] at F
     cases F
     rw[L.out]
   case measure=>simp[intOf];omega
  ·have d9:(d != 0)=true:=by simpa using e
   have E:firstF G 0 l=(d,y):=by
    have hF:=Qat (f:=G) (j:=0) K.out (fun j u t F=>by rw[XK];exact A.out j u t F) (by rw[XK,L.out];exact e);rw[XK,L.out] at hF
    exact hF
   clear e;obtain⟨r0,r1,z0,z1⟩:=N.out.cells
   have D:=Qf (N.out.fin d y);go_wp2_with fail
   generalize World.setCell _ _ _=T at D |-;exact Xy (v:=.agg #[Iv d,Iv y]) (by simp[results,results73,go_sem,Qb D.out.1 0 _ Yz,Qb D.out.1 1 _ Yz]) Yz ⟨by first | rfl | rw[E],D.out.2⟩
abbrev iA (z:Qs) (zi:IP):Array Value:=#[Iv z.op,Iv z.a,Iv z.b,Iv z.c,Iv z.k,Iv z.n,.slice zi.pR z.regs.length zi.cR,.slice zi.pA z.args.length zi.cA]
abbrev fA {n:Nat}(x:MFunc n) (fp:FP):Array Value:=#[Iv x.regs,.slice fp.pP x.params.length fp.cP,.slice fp.pR x.results.length fp.cR,.slice fp.pB x.blocks.length fp.cB]
abbrev eA {n:Nat}(y:MBlock n) (bp:BP):Array Value:=#[Iv y.fin.op,Iv y.fin.a,Iv y.fin.yes.block,.slice bp.e.pYR y.fin.yes.regs.length bp.e.cYR,.slice bp.e.pYA y.fin.yes.args.length bp.e.cYA,Iv y.fin.no.block,.slice bp.e.pNR y.fin.no.regs.length bp.e.cNR,.slice bp.e.pNA y.fin.no.args.length bp.e.cNA,.slice bp.e.pA y.fin.args.length bp.e.cA]
abbrev bA {n:Nat}(y:MBlock n) (bp:BP):Array Value:=#[Iv y.regs,.slice bp.pP y.params.length bp.cP,.slice bp.pC y.code.length bp.cC,Iv y.fin.op,Iv y.fin.a,Iv y.fin.yes.block,.slice bp.e.pYR y.fin.yes.regs.length bp.e.cYR,.slice bp.e.pYA y.fin.yes.args.length bp.e.cYA,Iv y.fin.no.block,.slice bp.e.pNR y.fin.no.regs.length bp.e.cNR,.slice bp.e.pNA y.fin.no.args.length bp.e.cNA,.slice bp.e.pA y.fin.args.length bp.e.cA]
abbrev lA {n:Nat}(m:List (MFunc n)) (p:Option Addr) (c:Nat) (x:MFunc n) (fp:FP) (fi:Nat):Array Value:=#[.slice p m.length c,Iv x.regs,.slice fp.pP x.params.length fp.cP,.slice fp.pR x.results.length fp.cR,.slice fp.pB x.blocks.length fp.cB,Iv (fi:Int)]
theorem bkSizeE:(prog.info? 84).map (·.size)=some 9:=by kernel_rfl
def Qn1 (w6:World) (Bc X q N c fi bi:Nat) (p:Option Addr) (z:Qs) (zi:IP) (vf vp v0 v1:Int) (t:Tmp) (v:Value) (w:World):Prop :=
 v=(([(2,Pv Bc 0),(4,Pv X 0),(0,Iv (q:Int)),(6,Pv Bc 0),(7,Pv Bc 0),(8,.agg #[.slice p N c]),(9,.agg (iA z zi)),(10,Iv vf),(11,Pv Bc 0),(12,Pv Bc 5),(13,Iv (fi:Int)),(14,Pv Bc 18),(15,Iv (bi:Int)),(16,Iv (q:Int)),(17,Iv vp),(18,.agg #[Iv v0,Iv v1])]:List (Tmp × Value)).lookup t).getD undef
theorem kd1 {Bc:Nat}{z:Qs}{y:IP}{x u l o:Int}(C:w6.cell? ⟨Bc,0,none⟩=some (.slice p N c)) (F:w6.cell? ⟨Bc,5,none⟩=some (Iv (fi:Int))) (s:w6.cell? ⟨Bc,18,none⟩=some (Iv (bi:Int))) (d:Hid (Blk w6 X (iA z y) 78)) (G:Hid (∀ w,Below w6.heap.size w6 w->Calls prog 184 #[.agg #[.slice p N c],.agg (iA z y)] w fun e w'=>e=.returned (Iv x)/\Below w.heap.size w w')) (D:Hid (∀ w,Below w6.heap.size w6 w->Calls prog 130 #[Iv (fi:Int),Iv (bi:Int),Iv (q:Int)] w fun e w'=>e=.returned (Iv u)/\Below w.heap.size w w')) (H:Hid (∀ w,Below w6.heap.size w6 w->Calls prog 117 #[Iv x,Iv u] w fun e w'=>e=.returned (.agg #[Iv l,Iv o])/\Below w.heap.size w w')){Q:Exit->Act->World->Prop}
 (a:Act) (m:Nat) (L:a.tmps.size=m) (r:19<=m) (O:a.tmps.getD 2 undef=Pv Bc 0) (J:a.tmps.getD 4 undef=Pv X 0) (E:a.tmps.getD 0 undef=Iv (q:Int))
 (hend:∀ ops vs w',vs 18=.agg #[Iv l,Iv o]->Below w6.heap.size w6 w'->wpList prog ops Q (Qal 13 ((Tryz.f183.body.bind (Qi 1)).getD .skip)) (QN a vs [6,7,8,9,10,11,12,13,14,15,16,17,18]) w') :
 Code.wp prog ((Tryz.f183.body.bind (Qi 1)).getD .skip) Q a w6:=by
 conv=>arg 2;whnf
 refine Qg 13 (Qn1 w6 Bc X q N c fi bi p z y x u l o) (fun w=>Below w6.heap.size w6 w) (fun w w'=>Below w.heap.size w w') (outs:=[2,4,0]) (gs:=[]) (bs:=[true,true,true,true,true,true,true,true,true,true,true,true,true]) (by kernel_rfl) (n:=19) L r (by kernel_rfl) (by kernel_rfl) ?hR ?hG (QI Zr 1) ⟨O,J,E,Y⟩ ?hA ?hend
 case hR=>exact fun t v w w' _ h=>h
 case hG=>exact Y
 case hend=>exact fun ops vs w' b i=>hend ops vs w' (i 18 (by kernel_rfl)) b
 case hA =>
  repeat
   refine⟨fun a w b i K k=>?_,?_⟩
   focus first
    | obtain⟨g,-⟩:=i
      conv at g=>whnf;rhs;whnf
      have W:=Qk C b;have c1:=Qk (Qb d.out 0 _ Z) b;have P:=Qk (Qb d.out 1 _ Z) b;have T:=Qk (Qb d.out 2 _ Z) b;have c4:=Qk (Qb d.out 3 _ Z) b;have V:=Qk (Qb d.out 4 _ Z) b;have S:=Qk (Qb d.out 5 _ Z) b;have U:=Qk (Qb d.out 6 _ Z) b;have c8:=Qk (Qb d.out 7 _ Z) b;have R:=Qk F b;have M:=Qk s b;go_simp;exact k _ _ Zr b Z
    | obtain⟨g,j,-⟩:=i
      conv at g=>whnf;rhs;whnf
      conv at j=>whnf;rhs;whnf
      go_simp;refine Xm (G.out w b) ?_;rintro B A ⟨rfl,f⟩;go_simp;exact k _ _ f (b.trans (f.mono b.size)) Z
    | obtain⟨g,j,-⟩:=i
      conv at g=>whnf;rhs;whnf
      conv at j=>whnf;rhs;whnf
      go_simp;refine Xm (H.out w b) ?_;rintro B A ⟨rfl,f⟩;go_simp;exact k _ _ f (b.trans (f.mono b.size)) Z
    | obtain⟨g,j,I,-⟩:=i
      conv at g=>whnf;rhs;whnf
      conv at j=>whnf;rhs;whnf
      conv at I=>whnf;rhs;whnf
      go_simp;refine Xm (D.out w b) ?_;rintro B A ⟨rfl,f⟩;go_simp;exact k _ _ f (b.trans (f.mono b.size)) Z
  trivial
def QnZ {n:Nat}(w6:World) (X fi bi:Nat) (x:MFunc n) (fp:FP) (y:MBlock n) (bp:BP) (vf vp v0 v1:Int) (t:Tmp) (v:Value) (w:World):Prop :=
 v=(([(1,Pv X 0),(26,Pv X 0),(27,Pv X 1),(28,.agg (fA x fp)),(29,Pv X 6),(30,Pv X 9),(31,.agg (eA y bp)),(32,Iv vf),(33,Pv X 0),(34,Pv X 5),(35,Iv (fi:Int)),(36,Pv X 18),(37,Iv (bi:Int)),(38,Iv vp),(39,.agg #[Iv v0,Iv v1])]:List (Tmp × Value)).lookup t).getD undef
theorem kd7 {m:List (MFunc n)}{x:MFunc n}{B:FP}{y:MBlock n}{o:BP}{A z r s:Int}(i:Hid (Blk w6 X (bkA m p c x B fi y o bi) 194)) (q:Hid (w6.rangeAt X 9 (eA y o).toList)) (H:Hid (∀ w,Below w6.heap.size w6 w->Calls prog 185 #[.agg (fA x B),.agg (eA y o)] w fun e w'=>e=.returned (Iv A)/\Below w.heap.size w w')) (E:Hid (∀ w,Below w6.heap.size w6 w->Calls prog 131 #[Iv (fi:Int),Iv (bi:Int)] w fun e w'=>e=.returned (Iv z)/\Below w.heap.size w w')) (I:Hid (∀ w,Below w6.heap.size w6 w->Calls prog 117 #[Iv A,Iv z] w fun e w'=>e=.returned (.agg #[Iv r,Iv s])/\Below w.heap.size w w')){Q:Exit->Act->World->Prop}
 (a:Act) (m:Nat) (J:a.tmps.size=m) (u:40<=m) (G:a.tmps.getD 1 undef=Pv X 0)
 (hend:∀ ops vs w',vs 39=.agg #[Iv r,Iv s]->Below w6.heap.size w6 w'->wpList prog ops Q (Qal 14 ((Tryz.f121.body.bind (Qi 7)).getD .skip)) (QN a vs [26,27,28,29,30,31,32,33,34,35,36,37,38,39]) w') :
 Code.wp prog ((Tryz.f121.body.bind (Qi 7)).getD .skip) Q a w6:=by
 conv=>arg 2;whnf
 refine Qg 14 (QnZ w6 X fi bi x B y o A z r s) (fun w=>Below w6.heap.size w6 w) (fun w w'=>Below w.heap.size w w') (outs:=[1]) (gs:=[]) (bs:=[true,true,true,true,true,true,true,true,true,true,true,true,true,true]) (by kernel_rfl) (n:=40) J u (by kernel_rfl) (by kernel_rfl) ?hR ?hG (QI Zr 1) ⟨G,Y⟩ ?hA ?hend
 case hR=>exact fun t v w w' _ h=>h
 case hG=>exact Y
 case hend=>exact fun ops vs w' b g=>hend ops vs w' (g 39 (by kernel_rfl)) b
 case hA =>
  repeat
   refine⟨fun a w b g K k=>?_,?_⟩
   focus first
    | obtain⟨d,-⟩:=g
      conv at d=>whnf;rhs;whnf
      have O:=Qk (Qb i.out 1 _ Z) b;have P:=Qk (Qb i.out 2 _ Z) b;have L:=Qk (Qb i.out 3 _ Z) b;have M:=Qk (Qb i.out 4 _ Z) b;have R:=Qk (Qb i.out 5 _ Z) b;have N:=Qk (Qb i.out 18 _ Z) b;go_simp;exact k _ _ Zr b Z
    | obtain⟨d,-⟩:=g
      conv at d=>whnf;rhs;whnf
      exact wp_load_mid 84 (.tmp 30) Z X 9 d (eA y o).toList _ (fun j v F=>Qk (q.out j v F) b) underlying84 Z bkSizeE (k _ _ Zr b Z)
    | obtain⟨d,l,-⟩:=g
      conv at d=>whnf;rhs;whnf
      conv at l=>whnf;rhs;whnf
      go_simp;refine Xm (H.out w b) ?_;rintro D C ⟨rfl,f⟩;go_simp;exact k _ _ f (b.trans (f.mono b.size)) Z
    | obtain⟨d,l,-⟩:=g
      conv at d=>whnf;rhs;whnf
      conv at l=>whnf;rhs;whnf
      go_simp;refine Xm (E.out w b) ?_;rintro D C ⟨rfl,f⟩;go_simp;exact k _ _ f (b.trans (f.mono b.size)) Z
    | obtain⟨d,l,-⟩:=g
      conv at d=>whnf;rhs;whnf
      conv at l=>whnf;rhs;whnf
      go_simp;refine Xm (I.out w b) ?_;rintro D C ⟨rfl,f⟩;go_simp;exact k _ _ f (b.trans (f.mono b.size)) Z
  trivial
theorem Qib {m:List (MFunc n)}{x:MFunc n}{H:FP}{y:MBlock n}{I:BP}{Bc:Nat}{z:Qs}{k:IP}(F:q<1000000) (L:m.length<=100000) (s:fi<1000000) (o:bi<1000000) (d:Blk w Bc (bkA m p c x H fi y I bi) 194) :
 Rd prog 183 #[Iv (q:Int),.agg (iA z k),Pv Bc 0] w (QG (atF (z.form m.length) (10000*(fi:Int)+100*(bi:Int)+(q:Int)))):=by
 have f:=((Bxs.start w).new (iA z k) 78).new #[Iv 0,Iv 0] 32;rw[World.size_alloc] at f
 have f:=Qf f;have D:=Qf d;have G:Hid (∀ b:World,Calls prog 184 #[.agg #[.slice p m.length c],.agg (iA z k)] b fun e j=>e=.returned (Iv (z.form m.length))/\Below b.heap.size b j):=fun b=>Qgm m.length z k p c b (by omega);have A:Hid (∀ b:World,Calls prog 130 #[Iv (fi:Int),Iv (bi:Int),Iv (q:Int)] b fun e j=>e=.returned (Iv (10000*(fi:Int)+100*(bi:Int)+(q:Int)))/\Below b.heap.size b j):=fun b=>QdT ⟨s,o,F⟩;have t:Hid (∀ b:World,Calls prog 117 #[Iv (z.form m.length),Iv (10000*(fi:Int)+100*(bi:Int)+(q:Int))] b fun e j=>e=.returned (.agg #[Iv (atF (z.form m.length) (10000*(fi:Int)+100*(bi:Int)+(q:Int))).1,Iv (atF (z.form m.length) (10000*(fi:Int)+100*(bi:Int)+(q:Int))).2])/\Below b.heap.size b j):=fun b=>Qbr;generalize C:atF (z.form m.length) (10000*(fi:Int)+100*(bi:Int)+(q:Int))=v at t |-;clear d C;unfold Rd;go_enter func183,ntmps183
 go_upto_region 1 with fail
 generalize (w.alloc (.cells (iA z k) 78)).alloc (.cells #[Iv 0,Iv 0] 32)=J at f |-;generalize w.heap.size+1=R at f |-;generalize w.heap.size=X at f |-;have g:=Qf (D.out.below f.out.bel);refine kd1 (Qb g.out 0 _ Z) (Qb g.out 5 _ Z) (Qb g.out 18 _ Z) (f.out.at (a:=[_])) (fun b _=>G.out b) (fun b _=>A.out b) (fun b _=>t.out b) _ _ Z (Xg (by kernel_rfl)) Z Z Z ?_;rintro r B E i u;have h:=Qf (f.out.below u);clear u f g;show wpList _ r _ [_] (QN _ B [6,7,8,9,10,11,12,13,14,15,16,17,18]) E;simp only[QN,Act.put,List.setIfInBounds_toArray,List.set_cons_zero,List.set_cons_succ,i]
 have M:=h.out.cell (a:=[]) 0 _ Z;have O:=h.out.cell (a:=[]) 1 _ Z;have K:=h.out.free (a:=[]) 0;have N:=h.out.free (a:=[]) 1;have l:=Qf ((h.out.set (a:=[]) 0 (Iv (v.1))).set (a:=[]) 1 (Iv (v.2)));go_wp2
 exact Xy (v:=QG v) (by simp[results,results183,go_sem,l.out.cell (a:=[]) 0 _ Z,l.out.cell (a:=[]) 1 _ Z]) Z ⟨Z,l.out.bel⟩
theorem Qc4 {m:List (MFunc n)}{x:MFunc n}{A:FP}{y:MBlock n}{q:BP}(H:FIn w All x A) (s:x.small) (I:BIn w All y q) (k:y.small) (hm:m.length<=100000) (B:fi<1000000) (u:bi<1000000) :
 Rd prog 121 #[.agg (bkA m p c x A fi y q bi)] w (QG (MBlock.fault m.length fi x bi y)):=by
 have r:=((Bxs.start w).new (bkA m p c x A fi y q bi) 194).new #[Iv 0,Iv 0] 32;rw[World.size_alloc] at r
 have r:=Qf r;have HB:=Qf (Xh hm (Xh B u));have G:=Qf (Xh H (Xh s (Xh I k)));have g:=Qf (MBlock.fault_eq m.length fi x bi y);have EI:=QeL (f:=fun i z=>(Qs.form m.length z,(10000*(fi:Int)+100*(bi:Int)+(i:Int)))) (l:=y.code) (j:=0);dsimp only at EI
 have CC:Hid (∀ b,Below w.heap.size w b->Calls prog 180 #[.agg (bkA m p c x A fi y q bi)] b fun e t=>e=.returned (Iv (y.code' x bi))/\Below b.heap.size b t):=fun b bx=>Qev (H.below bx) s (I.below bx) k;have CF:Hid (∀ (U Q:Int) (b:World),Calls prog 117 #[Iv U,Iv Q] b fun e t=>e=.returned (.agg #[Iv (atF U Q).1,Iv (atF U Q).2])/\Below b.heap.size b t):=fun U Q b=>Qbr;have CB:Hid (∀ b:World,Calls prog 181 #[Iv (fi:Int),Iv (bi:Int)] b fun e t=>e=.returned (Iv (10000*(fi:Int)+100*(bi:Int)+90))/\Below b.heap.size b t):=fun b=>Qfm ⟨B,u⟩;have CA:Hid (∀ b:World,Calls prog 131 #[Iv (fi:Int),Iv (bi:Int)] b fun e t=>e=.returned (Iv (10000*(fi:Int)+100*(bi:Int)+91))/\Below b.heap.size b t):=fun b=>QdU ⟨B,u⟩;have CE:Hid (∀ b:World,Calls prog 185 #[.agg (fA x A),.agg (eA y q)] b fun e t=>e=.returned (Iv (y.fin.form x.blocks.length))/\Below b.heap.size b t):=fun b=>Qgv (by obtain⟨a1,a2⟩:=k.2.2.1.1;obtain⟨a3,a4⟩:=k.2.2.1.2.1;exact⟨by omega,by omega,by omega,by omega⟩) (by have:=s.1;omega);rw[<-EI] at g
 have g:=Qf g.out;generalize MBlock.fault m.length fi x bi y=V at g |-;generalize y.code' x bi=v at g CC;clear H s I k hm B u EI;unfold Rd;go_enter func121,ntmps121
 go_upto_region 1 with fail
 generalize (w.alloc (.cells (bkA m p c x A fi y q bi) 194)).alloc (.cells #[Iv 0,Iv 0] 32)=w1 at r |-;generalize w.heap.size+1=R at r |-;generalize w.heap.size=X at r |-;have RG:=Qf (Blk.range (c:=(bkA m p c x A fi y q bi).toList) (r.out.at (a:=[_])));go_wp2_with (refine ZM Z 194 (.tmp 1) Z X 0 Z (bkA m p c x A fi y q bi).toList _ RG.out underlying194 Z bkSize ?_)
 refine(CC.out w1 r.out.bel).mono ?_
 rintro e' M ⟨rfl,b2⟩;have C:=Qf (r.out.below b2);clear b2 RG r CC;have x5:M.cell? ⟨X,5,none⟩=some (Iv (fi:Int)):=C.out.cell (a:=[_]) 5 _ Z;have x8:M.cell? ⟨X,8,none⟩=some (.slice q.pC y.code.length q.cC):=C.out.cell (a:=[_]) 8 _ Z;have O:M.cell? ⟨X,18,none⟩=some (Iv (bi:Int)):=C.out.cell (a:=[_]) 18 _ Z;by_cases J:v=0
 rotate_left
 ·have E:=Qf (g.out.trans (Xr J));have dv:(v != 0)=true:=bne_iff_ne.2 J;have HV:=Qf J;clear J g CE CA;go_wp2_with fail
  refine(CB.out M).mono ?_
  rintro e' S ⟨rfl,N⟩;have d:=Qf (C.out.below N);clear N C x5 x8 O;go_wp2_with fail
  refine(CF.out v (10000*(fi:Int)+100*(bi:Int)+90) S).mono ?_
  rintro e' w4 ⟨rfl,b4⟩;have P:=Qf (d.out.below b4);clear b4 d;have EA:Hid (atF v (10000*(fi:Int)+100*(bi:Int)+90)=V):=(Xr HV.out).trans E.out.symm;rw[EA.out]
  have r0:=P.out.cell (a:=[]) 0 _ Z;have r1:=P.out.cell (a:=[]) 1 _ Z;have z0:=P.out.free (a:=[]) 0;have z1:=P.out.free (a:=[]) 1;have o:=Qf ((P.out.set (a:=[]) 0 (Iv (V.1))).set (a:=[]) 1 (Iv (V.2)));go_wp2
  exact Xy (v:=QG V) (by simp[results,results121,go_sem,o.out.cell (a:=[]) 0 _ Z,o.out.cell (a:=[]) 1 _ Z]) Z ⟨Z,o.out.bel⟩
 replace g:=Qf (g.out.trans (Xs J));subst J;have T:=Qf (Qjo (w:=M) (Bc:=X) (fun i z=>atF (Qs.form m.length z) (10000*(fi:Int)+100*(bi:Int)+(i:Int))) (Ya G.out.2.2.1.code C.out.bel) (by have:=G.out.2.2.2.1;omega) (fun i z zi b hz hi hb=>Qib (y:=y) (by have h8:=G.out.2.2.2.1;have h9:=(Zi hz).1;omega) HB.out.1 HB.out.2.1 HB.out.2.2 ((C.out.at (a:=[_])).below hb)));unfold Rd at T;generalize firstF (fun i z=>atF (Qs.form m.length z) (10000*(fi:Int)+100*(bi:Int)+(i:Int))) 0 y.code=h at g T;go_wp2_with fail
 refine T.out.mono ?_;rintro e' S ⟨rfl,N⟩;have d:=Qf ((C.out.below N).new #[Iv h.1,Iv h.2] 32);clear N C x5 x8 O T;go_upto_region 5 with fail
 generalize S.alloc (.cells #[Iv h.1,Iv h.2] 32)=w4 at d |-;generalize S.heap.size=F at d |-;have y0:w4.cell? ⟨F,0,none⟩=some (Iv h.1):=d.out.cell (a:=[]) 0 _ Z;have y1:w4.cell? ⟨F,1,none⟩=some (Iv h.2):=d.out.cell (a:=[]) 1 _ Z;by_cases K:h.1=0
 rotate_left
 ·have E:=Qf (g.out.trans (Xr K));have df:(h.1 != 0)=true:=bne_iff_ne.2 K;clear K g;have r0:=d.out.cell (a:=[_]) 0 _ Z;have r1:=d.out.cell (a:=[_]) 1 _ Z;have z0:=d.out.free (a:=[_]) 0;have z1:=d.out.free (a:=[_]) 1;have o:=Qf ((d.out.set (a:=[_]) 0 (Iv (h.1))).set (a:=[_]) 1 (Iv (h.2)));go_wp2
  exact Xy (v:=QG h) (by simp[results,results121,go_sem,o.out.cell (a:=[_]) 0 _ Z,o.out.cell (a:=[_]) 1 _ Z]) Z ⟨by rw[E.out],o.out.bel⟩
 have E:=Qf (g.out.trans (Xs K));have df:(h.1 != 0)=false:=by simpa using K
 clear K g;go_upto_region 7 with fail
 clear y0 y1;have W:=Qf (d.out.at (a:=[_,_]));refine kd7 W (fun j v hj=>by have h8:=(Blk.range (c:=(bkA m p c x A fi y q bi).toList) W.out) (9+j) v (by rcases j with _ | _ | _ | _ | _ | _ | _ | _ | _ | j<;>first | exact hj | simp at hj);rwa [XK] at h8) (fun b _=>CE.out b) (fun b _=>CA.out b) (fun b _=>CF.out _ _ b) _ _ Z (Xg (by kernel_rfl)) Z ?_;rintro aa vs w5 D b5;have L:=Qf (d.out.below b5);clear b5 d W;rw[<-E.out] at D
 show wpList _ aa _ [_] (QN _ vs [26,27,28,29,30,31,32,33,34,35,36,37,38,39]) w5;simp only[QN,Act.put,List.setIfInBounds_toArray,List.set_cons_zero,List.set_cons_succ,D]
 have r0:=L.out.cell (a:=[_]) 0 _ Z;have r1:=L.out.cell (a:=[_]) 1 _ Z;have z0:=L.out.free (a:=[_]) 0;have z1:=L.out.free (a:=[_]) 1;have o:=Qf ((L.out.set (a:=[_]) 0 (Iv (V.1))).set (a:=[_]) 1 (Iv (V.2)));go_wp2
 exact Xy (v:=QG V) (by simp[results,results121,go_sem,o.out.cell (a:=[_]) 0 _ Z,o.out.cell (a:=[_]) 1 _ Z]) Z ⟨Z,o.out.bel⟩
theorem QiJ {m:List (MFunc n)}{x:MFunc n}{l:FP}{y:MBlock n}{f:BP}(i:FIn w All x l) (h:x.small) (o:BIn w All y f) (j:y.small){Bc:Nat}(C:m.length<=100000) (q:fi<1000000) (k:bi<1000000) (b:Blk w Bc (lA m p c x l fi) 139) :
 Rd prog 120 #[Iv (bi:Int),.agg (bA y f),Pv Bc 0] w (QG (MBlock.fault m.length fi x bi y)):=by
 have d:=((Bxs.start w).new (bA y f) 86).new #[Iv 0,Iv 0] 32;rw[World.size_alloc] at d
 have d:=Qf d;have E:=Qf b;have t:Hid (∀ g,Below w.heap.size w g->Calls prog 121 #[.agg (bkA m p c x l fi y f bi)] g fun e F=>e=.returned (QG (MBlock.fault m.length fi x bi y))/\Below g.heap.size g F):=fun g z=>Qc4 (i.below z) h (o.below z) j C q k;generalize MBlock.fault m.length fi x bi y=V at t |-;clear i h o j C q k b;unfold Rd;go_enter func120,ntmps120
 go_upto_region 1 with fail
 generalize (w.alloc (.cells (bA y f) 86)).alloc (.cells #[Iv 0,Iv 0] 32)=D at d |-;generalize w.heap.size+1=R at d |-;generalize w.heap.size=X at d |-;have B:=Qf (Blk.range (c:=(bA y f).toList) (d.out.at (a:=[_])));have u:=Qf (Blk.range (c:=(lA m p c x l fi).toList) (E.out.below d.out.bel));go_wp2_with (first | refine ZM Z 139 (.tmp 2) Z Bc 0 Z (lA m p c x l fi).toList _ u.out underlying139 Z (by kernel_rfl) ?_ | refine ZM Z 86 (.tmp 4) Z X 0 Z (bA y f).toList _ B.out underlying86 Z pSizeB ?_)
 refine(t.out D d.out.bel).mono ?_
 rintro I H ⟨rfl,A⟩;have r:=Qf (d.out.below A);clear A B u d t;have J:=r.out.cell (a:=[]) 0 _ Z;have L:=r.out.cell (a:=[]) 1 _ Z;have G:=r.out.free (a:=[]) 0;have K:=r.out.free (a:=[]) 1;have s:=Qf ((r.out.set (a:=[]) 0 (Iv (V.1))).set (a:=[]) 1 (Iv (V.2)));go_wp2
 exact Xy (v:=QG V) (by simp[results,results120,go_sem,s.out.cell (a:=[]) 0 _ Z,s.out.cell (a:=[]) 1 _ Z]) Z ⟨Z,s.out.bel⟩
theorem Qdl {m:List (MFunc n)}{x:MFunc n}{j:FP}(o:FIn w All x j) (l:x.small) (N:m.length<=100000) (s:fi<1000000) :
 Rd prog 75 #[.agg (lA m p c x j fi)] w (QG (MFunc.fault m.length fi x)):=by
 have h:=((Bxs.start w).new (lA m p c x j fi) 139).new #[Iv 0,Iv 0] 32;rw[World.size_alloc] at h
 have h:=Qf h;have S:=Qf (Xh N s);have f:=Qf (Xh o l);have q:=Qf (MFunc.fault_eq m.length fi x);have H:Hid (∀ d,Below w.heap.size w d->Calls prog 116 #[.agg (lA m p c x j fi)] d fun e z=>e=.returned (Iv (x.code fi))/\Below d.heap.size d z):=fun d bx=>Qfk (o.below bx) l;have CF:Hid (∀ (F C:Int) (d:World),Calls prog 117 #[Iv F,Iv C] d fun e z=>e=.returned (.agg #[Iv (atF F C).1,Iv (atF F C).2])/\Below d.heap.size d z):=fun F C d=>Qbr;have W:Hid (∀ d:World,Calls prog 118 #[Iv (fi:Int)] d fun e z=>e=.returned (Iv (10000*(fi:Int)+9999))/\Below d.heap.size d z):=fun d=>Qf0 s;generalize MFunc.fault m.length fi x=V at q |-;generalize x.code fi=v at q H;clear o l N s;unfold Rd;go_enter func75,ntmps75
 go_upto_region 1 with fail
 generalize (w.alloc (.cells (lA m p c x j fi) 139)).alloc (.cells #[Iv 0,Iv 0] 32)=T at h |-;generalize w.heap.size+1=R at h |-;generalize w.heap.size=X at h |-;have M:=Qf (Blk.range (c:=(lA m p c x j fi).toList) (h.out.at (a:=[_])));go_wp2_with (refine ZM Z 139 (.tmp 1) Z X 0 Z (lA m p c x j fi).toList _ M.out underlying139 Z (by kernel_rfl) ?_)
 refine(H.out T h.out.bel).mono ?_
 rintro G B ⟨rfl,K⟩;have g:=Qf (h.out.below K);clear K M h H;have O:B.cell? ⟨X,4,none⟩=some (.slice j.pB x.blocks.length j.cB):=g.out.cell (a:=[_]) 4 _ Z;have I:B.cell? ⟨X,5,none⟩=some (Iv (fi:Int)):=g.out.cell (a:=[_]) 5 _ Z;by_cases t:v=0
 rotate_left
 ·have E:=Qf (q.out.trans (Xr t));have dv:(v != 0)=true:=bne_iff_ne.2 t;have HV:=Qf t;clear t q;go_wp2_with fail
  refine(W.out B).mono ?_
  rintro G L ⟨rfl,u⟩;have k:=Qf (g.out.below u);clear u g O I;go_wp2_with fail
  refine(CF.out v (10000*(fi:Int)+9999) L).mono ?_
  rintro G w4 ⟨rfl,P⟩;have A:=Qf (k.out.below P);clear P k;have EA:Hid (atF v (10000*(fi:Int)+9999)=V):=(Xr HV.out).trans E.out.symm;rw[EA.out]
  have r0:=A.out.cell (a:=[]) 0 _ Z;have r1:=A.out.cell (a:=[]) 1 _ Z;have z0:=A.out.free (a:=[]) 0;have z1:=A.out.free (a:=[]) 1;have r:=Qf ((A.out.set (a:=[]) 0 (Iv (V.1))).set (a:=[]) 1 (Iv (V.2)));go_wp2
  exact Xy (v:=QG V) (by simp[results,results75,go_sem,r.out.cell (a:=[]) 0 _ Z,r.out.cell (a:=[]) 1 _ Z]) Z ⟨Z,r.out.bel⟩
 replace q:=Qf (q.out.trans (Xs t));subst t;have D:=Qf (Qfy (w:=B) (Bc:=X) (fun b y=>MBlock.fault m.length fi x b y) (Ya f.out.1.blocks g.out.bel) (by have:=f.out.2.1;omega) (fun i y bp d Q U J=>QiJ (f.out.1.below (g.out.bel.trans (J.mono g.out.bel.size))) f.out.2 U (f.out.2.2.2.2 y (Zm Q)) S.out.1 S.out.2 (by have h8:=f.out.2.1;have h9:=(Zi Q).1;omega) ((g.out.at (a:=[_])).below J)));unfold Rd at D;rw[<-q.out] at D
 go_wp2_with fail
 refine D.out.mono ?_;rintro G L ⟨rfl,u⟩;have k:=Qf (g.out.below u);clear u g O I D;have r0:=k.out.cell (a:=[]) 0 _ Z;have r1:=k.out.cell (a:=[]) 1 _ Z;have z0:=k.out.free (a:=[]) 0;have z1:=k.out.free (a:=[]) 1;have r:=Qf ((k.out.set (a:=[]) 0 (Iv (V.1))).set (a:=[]) 1 (Iv (V.2)));go_wp2
 exact Xy (v:=QG V) (by simp[results,results75,go_sem,r.out.cell (a:=[]) 0 _ Z,r.out.cell (a:=[]) 1 _ Z]) Z ⟨Z,r.out.bel⟩
theorem Qi6 {m:List (MFunc n)}{x:MFunc n}{f:FP}(i:FIn w All x f) (h:x.small){Bc:Nat}(s:m.length<=100000) (j:fi<1000000) (b:Blk w Bc #[.slice p m.length c] 24) :
 Rd prog 74 #[Iv (fi:Int),.agg (fA x f),Pv Bc 0] w (QG (MFunc.fault m.length fi x)):=by
 have d:=((Bxs.start w).new (fA x f) 89).new #[Iv 0,Iv 0] 32;rw[World.size_alloc] at d
 have d:=Qf d;have u:=Qf b;have o:Hid (∀ g,Below w.heap.size w g->Calls prog 75 #[.agg (lA m p c x f fi)] g fun e A=>e=.returned (QG (MFunc.fault m.length fi x))/\Below g.heap.size g A):=fun g y=>Qdl (i.below y) h s j;generalize MFunc.fault m.length fi x=V at o |-;clear i h s j b;unfold Rd;go_enter func74,ntmps74
 go_upto_region 1 with fail
 generalize (w.alloc (.cells (fA x f) 89)).alloc (.cells #[Iv 0,Iv 0] 32)=t at d |-;generalize w.heap.size+1=R at d |-;generalize w.heap.size=X at d |-;have z:=Qb (u.out.below d.out.bel) 0 _ Z;have r:=Qf (Blk.range (c:=(fA x f).toList) (d.out.at (a:=[_])));go_wp2_with (refine ZM Z 89 (.tmp 4) Z X 0 Z (fA x f).toList _ r.out underlying89 Z (by kernel_rfl) ?_)
 refine(o.out t d.out.bel).mono ?_
 rintro D C ⟨rfl,q⟩;have k:=Qf (d.out.below q);clear q r d o z;have E:=k.out.cell (a:=[]) 0 _ Z;have G:=k.out.cell (a:=[]) 1 _ Z;have B:=k.out.free (a:=[]) 0;have F:=k.out.free (a:=[]) 1;have l:=Qf ((k.out.set (a:=[]) 0 (Iv (V.1))).set (a:=[]) 1 (Iv (V.2)));go_wp2
 exact Xy (v:=QG V) (by simp[results,results74,go_sem,l.out.cell (a:=[]) 0 _ Z,l.out.cell (a:=[]) 1 _ Z]) Z ⟨Z,l.out.bel⟩
theorem Qca {m:List (MFunc n)}(h:(QaM n).In w All m [.slice p m.length c]) (e:Qbe m) :
 Rd prog 44 #[.agg #[.slice p m.length c]] w (QG (modFault m)):=by
 have b:=((Bxs.start w).new #[.slice p m.length c] 24).new #[Iv 0,Iv 0] 32;rw[World.size_alloc] at b
 have b:=Qf b;have C:=Qf h;have o:=Qf e;have g:Hid (modFault m=if m.length<1\/8<m.length then (2,-1) else firstF (fun f x=>MFunc.fault m.length f x) 0 m):=rfl;have G:=e.1;generalize modFault m=V at g |-;clear h e;unfold Rd;go_enter func44,ntmps44
 go_upto_region 1 with fail
 generalize (w.alloc (.cells #[.slice p m.length c] 24)).alloc (.cells #[Iv 0,Iv 0] 32)=q at b |-;generalize w.heap.size+1=R at b |-;generalize w.heap.size=X at b |-;have y:q.cell? ⟨X,0,none⟩=some (.slice p m.length c):=b.out.cell (a:=[_]) 0 _ Z;by_cases k:m.length<1\/8<m.length
 ·have E:=Qf (g.out.trans (Xs k));clear g;have F:=b.out.cell (a:=[]) 0 _ Z;have I:=b.out.cell (a:=[]) 1 _ Z;have B:=b.out.free (a:=[]) 0;have H:=b.out.free (a:=[]) 1;by_cases r:m.length<1
  ·have t:decide ((m.length:Int)<1)=true:=Xt (by omega);clear r k;have d:=Qf ((b.out.set (a:=[]) 0 (Iv (2))).set (a:=[]) 1 (Iv (-1)));go_wp2
   exact Xy (v:=QG V) (by simp[results,results44,go_sem,d.out.cell (a:=[]) 0 _ Z,d.out.cell (a:=[]) 1 _ Z,E.out]) Z ⟨Z,d.out.bel⟩
  ·have t:decide ((m.length:Int)<1)=false:=Xu (by omega);have D:decide ((m.length:Int)>8)=true:=Xt (by omega);clear r k;have d:=Qf ((b.out.set (a:=[]) 0 (Iv (2))).set (a:=[]) 1 (Iv (-1)));go_wp2
   exact Xy (v:=QG V) (by simp[results,results44,go_sem,d.out.cell (a:=[]) 0 _ Z,d.out.cell (a:=[]) 1 _ Z,E.out]) Z ⟨Z,d.out.bel⟩
 replace g:=Qf (g.out.trans (Xr k));have t:decide ((m.length:Int)<1)=false:=Xu (by omega);have D:decide ((m.length:Int)>8)=false:=Xu (by omega);clear k;have l:=Qf (Qht (w:=q) (Bc:=X) (fun f x=>MFunc.fault m.length f x) (Ya C.out b.out.bel) (by omega) (fun i x O J u z A=>Qi6 z (o.out.2 x (Zm u)) o.out.1 (by have K:=o.out.1;have L:=(Zi u).1;omega) ((b.out.at (a:=[_])).below A)));unfold Rd at l;rw[<-g.out] at l
 go_wp2_with fail
 refine l.out.mono ?_;rintro M N ⟨rfl,s⟩;have j:=Qf (b.out.below s);clear s b y l;have F:=j.out.cell (a:=[]) 0 _ Z;have I:=j.out.cell (a:=[]) 1 _ Z;have B:=j.out.free (a:=[]) 0;have H:=j.out.free (a:=[]) 1;have d:=Qf ((j.out.set (a:=[]) 0 (Iv (V.1))).set (a:=[]) 1 (Iv (V.2)));go_wp2
 exact Xy (v:=QG V) (by simp[results,results44,go_sem,d.out.cell (a:=[]) 0 _ Z,d.out.cell (a:=[]) 1 _ Z]) Z ⟨Z,d.out.bel⟩
def QcB (w:World) (a:Option Addr) (l:List Int):Prop:=∀ i x,l[i]?=some x->∃ g o,a=some ⟨g,o,none⟩/\w.cell? ⟨g,o+i,none⟩=some (Iv x)
theorem QcB.below (h:QcB w a l) (b:Below w.heap.size w w'):QcB w' a l:=fun i x c=>by
 obtain⟨g,o,e,d⟩:=h i x c
 exact⟨g,o,e,Qk d b⟩
theorem Qjg.lg {lo:Nat}(h:Qjg lo l (.slice a n c) w):n=l.length/\QcB w a l:=by
 obtain⟨r,j,e,t,m,s⟩:=h
 simp only[Value.slice.injEq] at e
 obtain⟨rfl,rfl,rfl⟩:=e
 refine⟨Z,fun i x b=>?_⟩
 have q:=(Zi b).1;rcases m.2 with ⟨e,p⟩|⟨g,u,k,e,-,o,-,-,-,f⟩
 ·omega
 ·simp only[Value.slice.injEq] at e
  have d:(l.map (Value.int .i64))[i]?=some (Iv x):=by simp[b]
  rw[<-f,XR,Xs (by omega)] at d
  exact⟨g,0,e.1,Qb o _ _ (by rw[XK];simpa using d)⟩
theorem QcB.nil (w:World) (a:Option Addr):QcB w a []:=fun i x b=>by simp at b
theorem Qf1 {b:Option Addr}(n:l.length=N) (s:N<=100000) (p:QcB w a l) (q:QcB w b l) :
 Calls prog 28 #[.slice a N c,.slice b N d] w fun e w'=>e=.returned (.bool true)/\∃ m,w'=w.drewN m:=by
 have r:=Qc p;have x:=Qc q;have j:Hid (l.length=N):=n;clear p q n;go_enter func28,ntmps28
 go_wp2
 go_loopw [5] (fun i wr=>∃ k m:Nat,k<=N/\i=Iv k/\wr=w.drewN m) (fun i _=>N - (intOf i).toNat)
 case atStart=>exact⟨0,0,Xb _,Z,Z⟩
 case round =>
  obtain⟨k,m,A,rfl,rfl⟩:=hrel
  by_cases h:k<N
  ·have f:l[k]?=some (l[k]'(by rw[j.out];exact h)):=Zg _;generalize l[k]'(by rw[j.out];exact h)=y at f;obtain⟨g,o,rfl,C⟩:=r.out k y f
   obtain⟨B,z,rfl,v⟩:=x.out k y f
   have t:(k:Int)<N:=by omega
   have u:(0:Int)<=k:=by omega
   clear f;go_wp2_with fail
   go_quiet (fail)
   go_wp2
   go_roundw
   case rel=>exact⟨k+1,_,by omega,by go_num,Z⟩
   case measure=>simp[intOf];omega
  ·go_wp2
   go_ret;exact⟨Z,_,Z⟩
theorem Qcf {b:Option Addr}(g:l.length=N) (f:N<=100000) (h:QcB w a l) (i:QcB w b l) :
 Calls prog 28 #[.slice a N c,.slice b N d] w fun e w'=>e=.returned (.bool true)/\Below w.heap.size w w' :=
 (Qf1 g f h i).mono fun e w' ⟨j,m,k⟩=>⟨j,by rw[k];exact QI Zr _⟩
theorem Qb8 {fin fuel:Int}{r:List Int}{a' b i:Option Addr}{c' j:Nat}(F:l.length<=100000) (I:r.length<=100000) (y:QcB w a l) (B:QcB w a' l) (x:QcB w b r) (z:QcB w i r) :
 Calls prog 26 #[.agg #[Iv fin,.slice a l.length c,.slice b r.length d,Iv fuel],.agg #[Iv fin,.slice a' l.length c',.slice i r.length j,Iv fuel]] w fun e w'=>e=.returned (.bool true)/\Below w.heap.size w w':=by
 have v:Hid (∀ f,Below w.heap.size w f->Calls prog 28 #[.slice a l.length c,.slice a' l.length c'] f fun e w'=>e=.returned (.bool true)/\Below f.heap.size f w'):=fun f m=>Qcf Z F (y.below m) (B.below m);have A:Hid (∀ f,Below w.heap.size w f->Calls prog 28 #[.slice b r.length d,.slice i r.length j] f fun e w'=>e=.returned (.bool true)/\Below f.heap.size f w'):=fun f m=>Qcf Z I (x.below m) (z.below m);have n:=Qc (Qko w (.cells #[Iv fin,.slice a l.length c,.slice b r.length d,Iv fuel] 44) (.cells #[Iv fin,.slice a' l.length c',.slice i r.length j,Iv fuel] 44));clear y B x z;go_enter func26,ntmps26
 go_upto_region 1 with fail
 have h:=QnN w #[Iv fin,.slice a l.length c,.slice b r.length d,Iv fuel] 44 (.cells #[Iv fin,.slice a' l.length c',.slice i r.length j,Iv fuel] 44);have g:=Qmo w (.cells #[Iv fin,.slice a l.length c,.slice b r.length d,Iv fuel] 44) #[Iv fin,.slice a' l.length c',.slice i r.length j,Iv fuel] 44;generalize (w.alloc (.cells #[Iv fin,.slice a l.length c,.slice b r.length d,Iv fuel] 44)).alloc (.cells #[Iv fin,.slice a' l.length c',.slice i r.length j,Iv fuel] 44)=D at n h g |-;generalize w.heap.size+1=Y at g |-;generalize w.heap.size=X at h |-;have C:=Qb h 0 _ Z;have K:=Qb h 1 _ Z;have t:=Qb h 2 _ Z;have s:=Qb h 3 _ Z;have H:=Qb g 0 _ Z;have G:=Qb g 1 _ Z;have u:=Qb g 2 _ Z;have q:=Qb g 3 _ Z;clear h g;go_wp2_with fail
 refine(v.out D n.out).mono ?_
 rintro L E ⟨rfl,k⟩;have o:=Qc (n.out.trans (k.mono n.out.size));have t:=Qk t k;have u:=Qk u k;have s:=Qk s k;have q:=Qk q k;clear v C K H G k n;go_wp2_with fail
 refine(A.out E o.out).mono ?_
 rintro N M ⟨rfl,p⟩;have J:=Qc (o.out.trans (p.mono o.out.size));have s:=Qk s p;have q:=Qk q p;clear A t u p o;go_wp2
 go_ret;exact⟨Z,J.out⟩
abbrev Qik (c a:Int):Value:=.tuple #[.agg #[Iv 0,Nv,Nv,Iv 0],Qbv c a]
def Qeo (c0 a0:Int) (n:Nat) (fu pg:Int) (c a:Int):Prop:=(c0≠0/\c=c0/\a=a0)\/(c0=0/\(200<n\/fu<0\/20000<fu\/pg<0\/64<pg)/\c=1/\a=-1)
theorem Qeo.ne {c0 a0:Int}{fu pg c a:Int}(h:Qeo c0 a0 n fu pg c a):c≠0:=by
 rcases h with ⟨h,rfl,-⟩|⟨-,-,rfl,-⟩
 ·exact h
 ·decide
theorem Qig {ml:Nat}{fu pg c a c0 a0:Int}(H:∀ wx,Below w.heap.size w wx->Calls prog 66 #[.agg #[.slice pm ml cm]] wx fun e w'=>e=.returned (Qbv c0 a0)/\Below wx.heap.size wx w') (o:n<1152921504606846976) (J:Qeo c0 a0 n fu pg c a) :
 Calls prog 32 #[.agg #[.slice pm ml cm],.slice pi n ci,Iv fu,Iv pg] w fun e w'=>e=.returned (.tuple #[.pointer none,Qbv c a])/\Below w.heap.size w w':=by
 have p:=Qc H;have t:=Qc J;have i:=Qc ((((Bxs.start w).new #[.slice pm ml cm] 24)).new #[Iv 0,Iv 0] 32);clear H J o;go_enter func32,ntmps32
 go_upto_region 1 with fail
 rw[World.size_alloc] at i
 have B:=Qc (p.out _ i.out.bel);generalize (w.alloc (.cells #[.slice pm ml cm] 24)).alloc (.cells #[Iv 0,Iv 0] 32)=T at i B |-;generalize w.heap.size+1=Y at i |-;generalize w.heap.size=X at i |-;have S:T.cell? ⟨X,0,none⟩=some (.slice pm ml cm):=i.out.cell (a:=[_]) 0 _ Z;go_upto_region 2 with (go_at_call 66;refine B.out.mono ?_;rintro U N ⟨rfl,M⟩)
 have d:=Qc ((i.out.below M).new #[Iv c0,Iv a0] 32);clear B M i S p;generalize N.alloc (.cells #[Iv c0,Iv a0] 32)=k at d |-;generalize N.heap.size=F at d |-;have z:k.cell? ⟨F,0,none⟩=some (Iv c0):=d.out.cell (a:=[]) 0 _ Z;have u:k.cell? ⟨F,1,none⟩=some (Iv a0):=d.out.cell (a:=[]) 1 _ Z;have P:=d.out.cell (a:=[_]) 0 _ Z;have O:=d.out.cell (a:=[_]) 1 _ Z;have I:=d.out.free (a:=[_]) 0;have Q:=d.out.free (a:=[_]) 1
 have l:Hid (∀ c a:Int,(((k.setCell ⟨Y,0,none⟩ (Iv c)).setCell ⟨Y,1,none⟩ (Iv a)).cell? ⟨Y,0,none⟩=some (Iv c)/\((k.setCell ⟨Y,0,none⟩ (Iv c)).setCell ⟨Y,1,none⟩ (Iv a)).cell? ⟨Y,1,none⟩=some (Iv a))/\Below w.heap.size w ((k.setCell ⟨Y,0,none⟩ (Iv c)).setCell ⟨Y,1,none⟩ (Iv a))):=fun c a=>by
  have j:=(d.out.set (a:=[_]) 0 (Iv c)).set (a:=[_]) 1 (Iv a);exact⟨⟨j.cell (a:=[_]) 0 _ Z,j.cell (a:=[_]) 1 _ Z⟩,j.bel⟩
 by_cases g:c0=0
 ·subst g
  have E:Hid ((200<n\/fu<0\/20000<fu\/pg<0\/64<pg)/\c=1/\a=-1):=by
   rcases t.out with ⟨b,-⟩|⟨-,b⟩
   ·exact absurd Z b
   ·exact b
  have D:=Qc (l.out 1 (-1));clear t;by_cases o:200<n
  ·have V:decide ((n:Int)>200)=true:=Xt (by omega);clear l o;go_upto_region 5 with fail
   go_wp2
   exact Xy (v:=.tuple #[.pointer none,Qbv c a]) (by rw[E.out.2.1,E.out.2.2];simp[results,results32,go_sem,D.out.1.1,D.out.1.2,Qbv]) Z ⟨Z,D.out.2⟩
  have V:decide ((n:Int)>200)=false:=Xu (by omega);by_cases r:fu<0
  ·have d2:decide (fu<0)=true:=Xt r;clear l o r;go_upto_region 5 with fail
   go_wp2
   exact Xy (v:=.tuple #[.pointer none,Qbv c a]) (by rw[E.out.2.1,E.out.2.2];simp[results,results32,go_sem,D.out.1.1,D.out.1.2,Qbv]) Z ⟨Z,D.out.2⟩
  have d2:decide (fu<0)=false:=Xu r;by_cases b:20000<fu
  ·have W:decide (fu>20000)=true:=Xt b;clear l o r b;go_upto_region 5 with fail
   go_wp2
   exact Xy (v:=.tuple #[.pointer none,Qbv c a]) (by rw[E.out.2.1,E.out.2.2];simp[results,results32,go_sem,D.out.1.1,D.out.1.2,Qbv]) Z ⟨Z,D.out.2⟩
  have W:decide (fu>20000)=false:=Xu b;have L:=Qc (QlB k pg (by have:=E.out.1;omega));clear o r b D;go_upto_region 7 with (go_at_call 67;refine L.out.mono ?_;rintro U K ⟨rfl,R⟩)
  have h:=Qc ((d.out.below R).new #[Iv 1,Iv (-1)] 32);clear R z u P O I Q l L d;generalize K.alloc (.cells #[Iv 1,Iv (-1)] 32)=m at h |-;generalize K.heap.size=G at h |-;have k0:m.cell? ⟨G,0,none⟩=some (Iv 1):=h.out.cell (a:=[]) 0 _ Z;have k1:m.cell? ⟨G,1,none⟩=some (Iv (-1)):=h.out.cell (a:=[]) 1 _ Z;have P:=h.out.cell (a:=[_,_]) 0 _ Z;have O:=h.out.cell (a:=[_,_]) 1 _ Z;have I:=h.out.free (a:=[_,_]) 0;have Q:=h.out.free (a:=[_,_]) 1
  have D6:Hid ((((m.setCell ⟨Y,0,none⟩ (Iv 1)).setCell ⟨Y,1,none⟩ (Iv (-1))).cell? ⟨Y,0,none⟩=some (Iv 1)/\((m.setCell ⟨Y,0,none⟩ (Iv 1)).setCell ⟨Y,1,none⟩ (Iv (-1))).cell? ⟨Y,1,none⟩=some (Iv (-1)))/\Below w.heap.size w ((m.setCell ⟨Y,0,none⟩ (Iv 1)).setCell ⟨Y,1,none⟩ (Iv (-1)))) :=
   have j:=(h.out.set (a:=[_,_]) 0 (Iv 1)).set (a:=[_,_]) 1 (Iv (-1));show _ from ⟨⟨j.cell (a:=[_,_]) 0 _ Z,j.cell (a:=[_,_]) 1 _ Z⟩,j.bel⟩
  go_upto_region 8 with fail
  go_region
  all_goals
   go_wp2_with fail
   have s:=D6.out;generalize (m.setCell ⟨Y,0,none⟩ (Iv 1)).setCell ⟨Y,1,none⟩ (Iv (-1))=q at s |-;obtain⟨⟨C,x⟩,f⟩:=s
   have y:q.drew.cell? ⟨Y,0,none⟩=some (Iv 1):=C;have A:q.drew.cell? ⟨Y,1,none⟩=some (Iv (-1)):=x;exact Xy (v:=.tuple #[.pointer none,Qbv c a]) (by rw[E.out.2.1,E.out.2.2];simp[results,results32,go_sem,y,A,Qbv]) Z ⟨Z,⟨f.os,f.tape,f.output,f.size,f.block⟩⟩
 ·have d0:(c0 != 0)=true:=bne_iff_ne.2 g
  have E:Hid (c=c0/\a=a0):=by
   rcases t.out with ⟨-,b,h2⟩|⟨b,-⟩
   ·exact⟨b,h2⟩
   ·exact absurd b g
  have D:=Qc (l.out c0 a0);clear g l t;go_upto_region 3 with fail
  go_region
  all_goals
   go_wp2_with fail
   have s:=D.out;generalize (k.setCell ⟨Y,0,none⟩ (Iv c0)).setCell ⟨Y,1,none⟩ (Iv a0)=q at s |-;obtain⟨⟨C,x⟩,f⟩:=s
   have y:q.drew.cell? ⟨Y,0,none⟩=some (Iv c0):=C;have A:q.drew.cell? ⟨Y,1,none⟩=some (Iv a0):=x;exact Xy (v:=.tuple #[.pointer none,Qbv c a]) (by rw[E.out.1,E.out.2];simp[results,results32,go_sem,y,A,Qbv]) Z ⟨Z,⟨f.os,f.tape,f.output,f.size,f.block⟩⟩
theorem QfH {ml:Nat}{fu pg c a c0 a0:Int}(p:∀ wx,Below w.heap.size w wx->Calls prog 66 #[.agg #[.slice pm ml cm]] wx fun e w'=>e=.returned (Qbv c0 a0)/\Below wx.heap.size wx w') (u:n<1152921504606846976) (k:Qeo c0 a0 n fu pg c a) :
 Calls prog 30 #[.agg #[.slice pm ml cm],.slice pi n ci,Iv fu,Iv pg] w fun e w'=>e=.returned (Qik c a)/\Below w.heap.size w w':=by
 have d:=((((Bxs.start w).new #[.slice pm ml cm] 24)).new #[Iv 0,Nv,Nv,Iv 0] 44).new #[Iv 0,Iv 0] 32;rw[World.size_alloc,World.size_alloc] at d
 have d:=Qc d;have j:Hid (∀ wx,Below w.heap.size w wx->Calls prog 32 #[.agg #[.slice pm ml cm],.slice pi n ci,Iv fu,Iv pg] wx fun e w'=>e=.returned (.tuple #[.pointer none,Qbv c a])/\Below wx.heap.size wx w'):=fun wx r=>Qig (fun I o=>p I (r.trans (o.mono r.size))) u k;have T:(c != 0)=true:=bne_iff_ne.2 k.ne;have N:decide (c=0)=false:=Xu k.ne;clear p u k;go_enter func30,ntmps30
 go_upto_region 1 with fail
 generalize ((w.alloc (.cells #[.slice pm ml cm] 24)).alloc (.cells #[Iv 0,Nv,Nv,Iv 0] 44)).alloc (.cells #[Iv 0,Iv 0] 32)=s at d |-;generalize w.heap.size+1+1=g at d |-;generalize w.heap.size+1=f at d |-;generalize w.heap.size=X at d |-;have j:=Qc (j.out s d.out.bel);have z:s.cell? ⟨X,0,none⟩=some (.slice pm ml cm):=d.out.cell (a:=[_,_]) 0 _ Z;go_upto_region 2 with (go_at_call 32;refine j.out.mono ?_;rintro M t ⟨rfl,y⟩)
 have b:=Qc ((d.out.below y).new #[Iv c,Iv a] 32);clear d j z y;generalize t.alloc (.cells #[Iv c,Iv a] 32)=l at b |-;generalize t.heap.size=F at b |-;have c0:l.cell? ⟨F,0,none⟩=some (Iv c):=b.out.cell (a:=[]) 0 _ Z;have R:l.cell? ⟨F,1,none⟩=some (Iv a):=b.out.cell (a:=[]) 1 _ Z;have W:=b.out.cell (a:=[_,_]) 0 _ Z;have r1:=b.out.cell (a:=[_,_]) 1 _ Z;have L:=b.out.cell (a:=[_,_]) 2 _ Z;have r3:=b.out.cell (a:=[_,_]) 3 _ Z;have K:=b.out.free (a:=[_,_]) 0;have z1:=b.out.free (a:=[_,_]) 1;have V:=b.out.free (a:=[_,_]) 2;have Q:=b.out.free (a:=[_,_]) 3;have S:=b.out.cell (a:=[_]) 0 _ Z;have U:=b.out.cell (a:=[_]) 1 _ Z;have P:=b.out.free (a:=[_]) 0;have O:=b.out.free (a:=[_]) 1;have m:¬ f=g:=fun e=>by have:=b.out.nd;simp[e] at this
 have q:¬ g=f:=fun e=>m e.symm;have G:¬ F=f:=fun e=>by have:=b.out.nd;simp[e] at this
 have D:¬ F=g:=fun e=>by have:=b.out.nd;simp[e] at this
 go_upto_region 3 with fail
 go_region
 all_goals
  go_wp2_with fail
  have x:=(((((b.out.set (a:=[_,_]) 0 (Iv 0)).set (a:=[_,_]) 1 (Nv)).set (a:=[_,_]) 2 (Nv)).set (a:=[_,_]) 3 (Iv 0)).set (a:=[_]) 0 (Iv c)).set (a:=[_]) 1 (Iv a);generalize ((((((l.setCell ⟨f,0,none⟩ (Iv 0)).setCell ⟨f,1,none⟩ (Nv)).setCell ⟨f,2,none⟩ (Nv)).setCell ⟨f,3,none⟩ (Iv 0)).setCell ⟨g,0,none⟩ (Iv c)).setCell ⟨g,1,none⟩ (Iv a))=i at x |-;have h:=x.drew;have B:i.drew.cell? ⟨f,0,none⟩=some (Iv 0):=h.cell (a:=[_,_]) 0 _ Z;have H:i.drew.cell? ⟨f,1,none⟩=some (Nv):=h.cell (a:=[_,_]) 1 _ Z;have C:i.drew.cell? ⟨f,2,none⟩=some (Nv):=h.cell (a:=[_,_]) 2 _ Z;have A:i.drew.cell? ⟨f,3,none⟩=some (Iv 0):=h.cell (a:=[_,_]) 3 _ Z;have E:i.drew.cell? ⟨g,0,none⟩=some (Iv c):=h.cell (a:=[_]) 0 _ Z;have J:i.drew.cell? ⟨g,1,none⟩=some (Iv a):=h.cell (a:=[_]) 1 _ Z;exact Xy (v:=Qik c a) (by simp[results,results30,go_sem,B,H,C,A,E,J,Qbv]) Z ⟨Z,h.bel⟩
theorem Lay.flat {α:Type}{A:Lay α}{o:Nat}{l:List α}(h:A.list.In w O l [.slice (some ⟨g,o,none⟩) n c]) (m:∀ (x:α) (ds:List Value),A.In w O x ds->∀ u∈ds,u.oneCell'=true) :
 ∃ ds:List Value,ds.length=l.length*A.size/\(∀ (j:Nat) (u:Value),ds[j]?=some u->w.cell? ((⟨g,o,none⟩:Addr).add j)=some u)/\(∀ u∈ds,u.oneCell'=true)/\∀ (i:Nat) (x:α),l[i]?=some x->A.In w O x ((ds.drop (i*A.size)).take A.size):=by
 have t:∀ k,k<=l.length->∃ ds:List Value,ds.length=k*A.size/\(∀ (j:Nat) (u:Value),ds[j]?=some u->w.cell? ⟨g,o+j,none⟩=some u)/\(∀ u∈ds,u.oneCell'=true)/\∀ (i:Nat) (x:α),i<k->l[i]?=some x->A.In w O x ((ds.drop (i*A.size)).take A.size):=by
  intro k
  induction k with
  | zero=>exact fun _=>⟨[],by simp,fun j u a=>by simp at a,fun u b=>by simp at b,fun i x E=>by omega⟩
  | succ k ih =>
    intro J;obtain⟨ds,p,C,r,z⟩:=ih (by omega)
    obtain⟨x,e⟩:∃ x,l[k]?=some x:=⟨_,Zg (by omega)⟩
    obtain⟨K,L,v,f,_,_,G,s⟩:=Yf h e
    injection f with f
    injection f with f e2
    subst f;subst e2;have B:=A.len s;refine⟨ds++v,by rw[List.length_append,p,B,Nat.add_mul];omega,fun j u a=>?_,fun u b=>?_,fun i y E d=>?_⟩
    ·rw[List.getElem?_append] at a
     split at a
     ·exact C j u a
     ·rename_i H
      have F:j - ds.length<v.length:=(Zi a).1;have D:=G (j - ds.length) (by omega);rw[a] at D
      rw[<-D]
      congr 2
      omega
    ·rcases List.mem_append.1 b with b | b
     ·exact r u b
     ·exact m x v s u b
    ·by_cases q:i=k
     ·subst q;rw[e] at d
      injection d with d
      subst d;rw[List.drop_append,List.drop_of_length_le (by omega),p,Nat.sub_self,List.drop_zero,List.nil_append,XO (by omega)]
      exact s
     ·have I:(i+1)*A.size<=k*A.size:=Xp _ (by omega);rw[Nat.add_mul] at I
      rw[List.drop_append_of_le_length (by omega),List.take_append_of_le_length (by simp;omega)]
      exact z i y (by omega) d
 obtain⟨ds,p,C,r,z⟩:=t l.length Ze
 exact⟨ds,p,fun j u a=>by rw[Go.WideShapes.add_plain];exact C j u a,r,fun i x e=>z i x (Zi e).1 e⟩
theorem QcC {α:Type}{P:α->List Value->Prop}{l l2:List α}{xs:List Value}(b:xs.length=l.length*s)
 (f:∀ (i:Nat) (x:α),l[i]?=some x->P x ((xs.drop (i*s)).take s)) (e:∀ (i:Nat) (x:α),l2[i]?=some x->P x ((ds.drop (i*s)).take s)) :
 ∀ (i:Nat) (x:α),(l++l2)[i]?=some x->P x (((xs++ds).drop (i*s)).take s):=by
 intro i y a;rw[List.getElem?_append] at a
 split at a
 ·rename_i c
  have d:(i+1)*s<=l.length*s:=Xp _ c;rw[Nat.add_mul] at d
  rw[List.drop_append_of_le_length (by omega),List.take_append_of_le_length (by simp;omega)]
  exact f i y a
 ·rename_i c
  have d:l.length*s<=i*s:=Xp _ (by omega)
  have:=e (i - l.length) y a
  rw[Nat.sub_mul] at this
  rw[List.drop_append,List.drop_of_length_le (by omega),List.nil_append,b]
  exact this
theorem Qe5 {xs:List Value}(h:w.ownsRow 0 e s (.slice (some ⟨g,0,none⟩) N cap) N xs) (f:w'.heap[g]?=w.heap[g]?):w'.ownsRow 0 e s (.slice (some ⟨g,0,none⟩) N cap) N xs:=by
 obtain⟨i,k⟩:=h
 refine⟨i,?_⟩
 rcases k with j | ⟨m,c,a,d,b,l,r⟩
 ·exact .inl j
 ·injection d with e1 _ e2
  injection e1 with e1
  injection e1 with e1 _
  subst e1;subst e2;exact .inr ⟨g,cap,a,Z,b,f.trans l,r⟩
def TRq (w:World) (O Q:Nat->Prop) (v:Value) (L:List (TT 6)):Prop :=
 ∃ xs,w.ownsRow 0 105 3 v L.length xs/\(∀ g,v.ownBlock=some g->O g)/\∀ i x,L[i]?=some x->(Lay.tt 6).In w Q x ((xs.drop (i*3)).take 3)
section
variable {w w':World}{O O' Q Q':Nat->Prop}{v:Value}{L:List (TT 6)}
theorem TRq.keep (h:TRq w O Q v L) (c:∀ k,k<w.heap.size->v.ownBlock=some k\/Q k->w'.heap[k]?=w.heap[k]?) (q:∀ k,v.ownBlock=some k->O' k) (j:∀ k,Q k->k<w.heap.size->Q' k):TRq w' O' Q' v L:=by
 obtain⟨n,⟨s,t⟩,u,o⟩:=h
 refine⟨n,⟨s,?_⟩,q,fun i x f=>(Lay.tt 6).keep (fun k e p=>c k p (.inr e)) j (o i x f)⟩
 rcases t with m | ⟨g,b,a,rfl,l,d,r⟩
 ·exact Or.inl m
 ·exact Or.inr ⟨g,b,a,Z,l,(c g (XC d) (.inl Z)).trans d,r⟩
theorem TRq.own (h:TRq w O Q v L)(a:v.ownBlock=some g):O g:=by
 obtain⟨c,e,b,d⟩:=h
 exact b g a
theorem TRq.block (h:TRq w O Q v L)(a:v.ownBlock=some g):∃ c,w.heap[g]?=some (.cells c 105 (0,0)):=by
 obtain⟨j,⟨m,e⟩,k,l⟩:=h
 rcases e with ⟨rfl,_⟩|⟨i,d,b,rfl,_,f,r⟩
 ·simp[Value.ownBlock] at a
 ·simp[Value.ownBlock] at a;subst a;exact⟨b,f⟩
theorem TRq.lt (h:TRq w O Q v L)(a:v.ownBlock=some g):g<w.heap.size:=by
 obtain⟨c,b⟩:=h.block a
 exact XC b
theorem TRq.form (h:TRq w O Q v L):∃ a cap,v=.slice a L.length cap/\L.length<=cap/\TRd w Q a L/\∃ xs,w.ownsRow 0 105 3 (.slice a L.length cap) L.length xs:=by
 obtain⟨xs,d,B,x⟩:=h
 obtain⟨C,A⟩:=id d
 rcases A with ⟨rfl,r⟩|⟨g,cap,m,rfl,_,p,y,D,E,k⟩
 ·have:L=[]:=Xf.1 r
  subst this;exact⟨none,0,Z,Ze,fun i t b=>by simp at b,xs,d⟩
 ·refine⟨some ⟨g,0,none⟩,cap,Z,y,fun i t b=>?_,xs,d⟩
  obtain⟨z,n,e,q,s⟩:=x i t b
  have o:i<L.length:=(Zi b).1
  have c:∀ j u,j<3->((xs.drop (i*3)).take 3)[j]?=some u->w.cell? ⟨g,i*3+j,none⟩=some u:=fun j u l f=>by
   rw[XR,Xs l,List.getElem?_drop,<-k,XR,Xs (by omega),Array.getElem?_toList] at f
   exact Qb p _ u f
  rw[e] at c
  exact⟨g,z,n,Z,c 0 _ (by omega) Z,c 1 _ (by omega) Z,c 2 _ (by omega) Z,q,s⟩
end
abbrev QeR (c:Int):List PanicEntry:=[{ v:=.iface 304 (Iv c),recovered:=false }]
def SAt (w:World) (b:Nat) (O A:Nat->Prop) (s:JSt):Prop :=
 ∃ pm cm h a1 c1 a2 c2 a3 c3 vL,w.heap[b]?=some (.cells #[.slice pm s.m.length cm,Pv h 0,Iv s.f.regs,.slice a1 s.f.params.length c1,.slice a2 s.f.results.length c2,.slice a3 s.f.blocks.length c3,vL] 279 (0,0)) /\
  (QaM 6).In w (fun g=>¬ A g) s.m [.slice pm s.m.length cm]/\(ZS 6).In w (fun g=>¬ A g) s.f [Iv s.f.regs,.slice a1 s.f.params.length c1,.slice a2 s.f.results.length c2,.slice a3 s.f.blocks.length c3] /\
  (Qp w h s.H/\O h)/\TRq w O (fun g=>¬ A g) vL s.L/\O b/\∀ k,O k->A k
structure SRd (w:World) (b:Nat) (A:Nat->Prop) (s:JSt) (pm:Option Addr) (cm h:Nat) (a1:Option Addr) (c1:Nat) (a2:Option Addr) (c2:Nat) (a3:Option Addr) (c3:Nat) (aL:Option Addr) (cL:Nat):Prop where
 blk:w.heap[b]?=some (.cells #[.slice pm s.m.length cm,Pv h 0,Iv s.f.regs,.slice a1 s.f.params.length c1,.slice a2 s.f.results.length c2,.slice a3 s.f.blocks.length c3,.slice aL s.L.length cL] 279 (0,0))
 mod:(QaM 6).In w (fun g=>¬ A g) s.m [.slice pm s.m.length cm]
 fn:(ZS 6).In w (fun g=>¬ A g) s.f [Iv s.f.regs,.slice a1 s.f.params.length c1,.slice a2 s.f.results.length c2,.slice a3 s.f.blocks.length c3]
 held:Qp w h s.H
 row:TRd w (fun g=>¬ A g) aL s.L
 le:s.L.length<=cL
section
variable {w w':World}{b:Nat}{O O' A A':Nat->Prop}{s:JSt}
theorem SAt.keep (h:SAt w b O A s) (c:∀ k,k<w.heap.size->O k\/¬ A k->w'.heap[k]?=w.heap[k]?) (j:∀ k,O k->k<w.heap.size->O' k) (m:∀ k,¬ A k->k<w.heap.size->¬ A' k) (C:∀ k,O' k->A' k):SAt w' b O' A' s:=by
 obtain⟨x,u,i,t,z,q,r,v,y,D,l,B,p,⟨g,o⟩,f,n,E⟩:=h
 refine⟨x,u,i,t,z,q,r,v,y,D,(c b (XC l) (.inl n)).trans l,(QaM 6).keep (fun k a d=>c k d (.inr a)) m B,(ZS 6).keep (fun k a d=>c k d (.inr a)) m p,
  ⟨g.keep (c i g.lt (.inl o)),j i o g.lt⟩,f.keep (fun k d a=>c k d (a.imp (fun e=>f.own e) id)) (fun k a=>j k (f.own a) (f.lt a)) m,j b n (XC l),C⟩
theorem SAt.below (h:SAt w b O A s) (k:Below w.heap.size w w'):SAt w' b O A s:=by
 have d:∀ k,O k->A k:=by obtain⟨p,m,r,l,u,f,i,n,q,y,v,x,e,⟨j,z⟩,t,o,c⟩:=h;exact c
 exact h.keep (fun g a _=>k.block g a) (fun _ h _=>h) (fun _ h _=>h) d
theorem SAt.sub (h:SAt w b O A s):∀ k,O k->A k:=by obtain⟨n,q,v,m,f,e,g,t,o,p,i,j,u,⟨l,r⟩,d,c,a⟩:=h;exact a
theorem SAt.read (h:SAt w b O A s):∃ pm cm h a1 c1 a2 c2 a3 c3 aL cL,SRd w b A s pm cm h a1 c1 a2 c2 a3 c3 aL cL:=by
 obtain⟨pm,cm,j,a1,c1,a2,c2,a3,c3,m,e,g,i,⟨f,n⟩,d,k,l⟩:=h
 obtain⟨aL,cL,rfl,a,c,_⟩:=d.form
 exact⟨pm,cm,j,a1,c1,a2,c2,a3,c3,aL,cL,e,g,i,f,c,a⟩
variable {pm:Option Addr}{cm h:Nat}{a1:Option Addr}{c1:Nat}{a2:Option Addr}{c2:Nat}{a3:Option Addr}{c3:Nat}{aL:Option Addr}{cL:Nat}
theorem SRd.below (k:SRd w b A s pm cm h a1 c1 a2 c2 a3 c3 aL cL) (e:Below w.heap.size w w'):SRd w' b A s pm cm h a1 c1 a2 c2 a3 c3 aL cL :=
 ⟨(e.block b (XC k.blk)).trans k.blk,Ya k.mod e,Ya k.fn e,k.held.below e,k.row.below e,k.le⟩
theorem SRd.cells (k:SRd w b A s pm cm h a1 c1 a2 c2 a3 c3 aL cL) :
 w.cell? ⟨b,0,none⟩=some (.slice pm s.m.length cm)/\w.cell? ⟨b,1,none⟩=some (Pv h 0)/\w.cell? ⟨b,2,none⟩=some (Iv s.f.regs)/\w.cell? ⟨b,3,none⟩=some (.slice a1 s.f.params.length c1)/\w.cell? ⟨b,4,none⟩=some (.slice a2 s.f.results.length c2)/\w.cell? ⟨b,5,none⟩=some (.slice a3 s.f.blocks.length c3)/\w.cell? ⟨b,6,none⟩=some (.slice aL s.L.length cL) :=
 ⟨Qb k.blk 0 _ Z,Qb k.blk 1 _ Z,Qb k.blk 2 _ Z,Qb k.blk 3 _ Z,Qb k.blk 4 _ Z,Qb k.blk 5 _ Z,Qb k.blk 6 _ Z⟩
end
def STo (wA w:World) (b:Nat) (O A:Nat->Prop) (s:JSt):Prop :=
 ∃ N:Nat->Prop,(∀ k,N k->wA.heap.size<=k/\k<w.heap.size)/\SAt w b (fun k=>O k\/N k) (fun k=>A k\/N k) s/\Qz O (fun k=>O k\/N k) wA w
section
variable {w wA wB:World}{b:Nat}{O A:Nat->Prop}{s s':JSt}
theorem STo.same (h:SAt w b O A s):STo w w b O A s :=
 ⟨fun _=>False,fun _ h=>h.elim,h.keep (fun _ _ _=>rfl) (fun _ h _=>.inl h) (fun _ h _=>by simpa using h) (fun k a=>a.imp (h.sub k) id),⟨Z,Z,Z,Ze,fun _ _ _=>rfl,fun k a=>.inl (by simpa using a)⟩⟩
theorem STo.after (h:STo wA w b O A s) (a:Below wB.heap.size wB wA):STo wB w b O A s:=by
 obtain⟨N,f,i,d⟩:=h
 have:=a.size
 exact⟨N,fun k c=>⟨Zt a.size (f k c).1,(f k c).2⟩,i,⟨d.os.trans a.os,d.tape.trans a.tape,d.output.trans a.output,Zt a.size d.size,fun k c g=>(d.block k (by omega) g).trans (a.block k c),fun k c=>(d.own k c).imp id fun e=>Zt a.size e⟩⟩
theorem STo.join {N:Nat->Prop}(f:∀ k,N k->wA.heap.size<=k/\k<w.heap.size) (c:Qz O (fun k=>O k\/N k) wA w) (g:STo w wB b (fun k=>O k\/N k) (fun k=>A k\/N k) s'):STo wA wB b O A s':=by
 obtain⟨M,h,l,d⟩:=g
 have i:=c.size;have m:=d.size;refine⟨fun k=>N k\/M k,fun k a=>?_,?_,?_⟩
 ·rcases a with a | a
  ·have:=f k a;omega
  ·have:=h k a;omega
 ·exact l.keep (fun _ _ _=>rfl) (fun k a _=>by simpa[or_assoc] using a) (fun k a _=>by simpa[or_assoc,not_or,and_assoc] using a) (fun k a=>by have:=l.sub k (by simpa[or_assoc] using a);simpa[or_assoc] using this)
 ·refine⟨d.os.trans c.os,d.tape.trans c.tape,d.output.trans c.output,Zt i m,fun k a j=>(d.block k (by omega) (fun e=>?_)).trans (c.block k a j),fun k a=>?_⟩
  ·rcases e with e | e
   ·exact j e
   ·have:=f k e;omega
  ·rcases a with a | a | a
   ·exact .inl a
   ·exact .inr (f k a).1
   ·exact .inr (Zt i (h k a).1)
theorem SAt.setH (K:∀ k,A k->k<w.heap.size) (h:SAt w b O A s):∃ hh,w.cell? ⟨b,1,none⟩=some (Pv hh 0)/\Qp w hh s.H/\∀ w' H',Qp w' hh H'->Qz (fun k=>k=hh) (fun k=>k=hh) w w'->STo w w' b O A { s with H:=H' }:=by
 obtain⟨z,v,hh,u,D,r,t,x,B,I,i,E,J,⟨o,m⟩,l,y,p⟩:=h
 refine⟨hh,Qb i 1 _ Z,o,fun w' H' F d=>?_⟩
 obtain⟨L,f⟩:∃ c,w.heap[hh]?=some (.cells c 303 (0,0)):=by
  obtain⟨-,q⟩:=o
  obtain⟨c,q,-⟩:=q
  exact⟨c,q⟩
 have n:b≠hh:=Zb i f (by decide);have j:∀ k,¬ A k->k≠hh:=fun k a e=>a (by subst e;exact p _ m)
 refine⟨fun _=>False,fun _ h=>h.elim,⟨z,v,hh,u,D,r,t,x,B,I,(d.block b (XC i) n).trans i,(QaM 6).keep (fun k a g=>d.block k g (j k a)) (fun _ h _=>by simpa using h) E,(ZS 6).keep (fun k a g=>d.block k g (j k a)) (fun _ h _=>by simpa using h) J,
  ⟨F,.inl m⟩,l.keep (fun k g a=>d.block k g ?_) (fun k a=>.inl (l.own a)) (fun _ h _=>by simpa using h),.inl y,fun k a=>a.imp (p k) id⟩,⟨d.os,d.tape,d.output,d.size,fun k a G=>d.block k a (fun e=>G (by subst e;exact m)),fun k a=>.inl (by simpa using a)⟩⟩
 rcases a with a | a
 ·obtain⟨c,C⟩:=l.block a
  exact Zb C f (by decide)
 ·exact j k a
theorem SAt.pushL (hA:∀ k,A k->k<wA.heap.size) (h:SAt wA b O A s):∃ aL cL xs,wA.cell? ⟨b,6,none⟩=some (.slice aL s.L.length cL)/\wA.frozen? ⟨b,6,none⟩=false/\s.L.length<=cL/\wA.ownsRow 0 105 3 (.slice aL s.L.length cL) s.L.length xs /\
 ∀ w9 g cap2 (l:List (TT 6)) ds,ds.length=l.length*3->w9.ownsRow 0 105 3 (.slice (some ⟨g,0,none⟩) (s.L.length+l.length) cap2) (s.L.length+l.length) (xs++ds)->wA.grownBy w9 (Value.slice aL s.L.length cL).ownBlock->((Value.slice aL s.L.length cL).ownBlock=some g\/g=wA.heap.size)->g<w9.heap.size ->
  (∀ i x,l[i]?=some x->(Lay.tt 6).In wA (fun g=>¬ A g) x ((ds.drop (i*3)).take 3)) ->
  w9.cell? ⟨b,6,none⟩=some (.slice aL s.L.length cL)/\w9.frozen? ⟨b,6,none⟩=false/\STo wA (w9.setCell ⟨b,6,none⟩ (.slice (some ⟨g,0,none⟩) (s.L.length+l.length) cap2)) b O A { s with L:=s.L++l }:=by
 obtain⟨X,V,u,U,c1,S,T,W,c3,vL,o,k2,R,⟨F,k5⟩,v,J,N⟩:=h
 obtain⟨aL,cL,rfl,D,-,-⟩:=v.form
 have t:∀ {j},(Value.slice aL s.L.length cL).ownBlock=some j->O j/\∃ c,wA.heap[j]?=some (.cells c 105 (0,0)):=fun {j} f=>⟨v.own f,v.block f⟩;obtain⟨xs,I,q2,q3⟩:=v
 obtain⟨ch,m⟩:∃ c,wA.heap[u]?=some (.cells c 303 (0,0)):=by
  obtain⟨-,q⟩:=F
  obtain⟨c,q,-⟩:=q
  exact⟨c,q⟩
 have E:=XC o;have B:=XC m
 have p:∀ j,(Value.slice aL s.L.length cL).ownBlock=some j->b≠j:=fun j f=>by
  obtain⟨c,hc⟩:=(t f).2
  exact Zb o hc (by decide)
 refine⟨aL,cL,xs,Qb o 6 _ Z,Qj o 6,D,I,fun w9 g cap2 l ds Q h1 n G h4 h5=>?_⟩
 have aa:=n.size;have w:=(n.block b E (fun e=>p b e.symm Z)).trans o
 have y:b≠g:=by
  rcases G with h | h
  ·exact p g h
  ·omega
 have d:∀ k,¬ A k->k<wA.heap.size->¬ (A k\/(wA.heap.size<=k/\k<w9.heap.size)):=fun k a H e=>by rcases e with e | e;exact a e;omega
 have K:Qz O (fun x=>O x\/(wA.heap.size<=x/\x<w9.heap.size)) wA (w9.setCell ⟨b,6,none⟩ (.slice (some ⟨g,0,none⟩) (s.L.length+l.length) cap2)):=by
  refine⟨n.os,n.tape,n.output,by simp;omega,fun k a M=>?_,fun k a=>a.imp id fun h=>h.1⟩
  rw[Xd _ _ _ _ (fun e=>M (by subst e;exact J)),n.block k a (fun e=>M (t e.symm).1)]
 have r:∀ k,¬ A k->k<wA.heap.size->(w9.setCell ⟨b,6,none⟩ (.slice (some ⟨g,0,none⟩) (s.L.length+l.length) cap2)).heap[k]?=wA.heap[k]?:=fun k a H=>K.block k H (fun e=>a (N k e));refine⟨Qb w 6 _ Z,Qj w 6,fun x=>wA.heap.size<=x/\x<w9.heap.size,fun k a=>by rw[World.size_setCell];exact a,⟨X,V,u,U,c1,S,T,W,c3,.slice (some ⟨g,0,none⟩) (s.L.length+l.length) cap2,?_,(QaM 6).keep r d k2,(ZS 6).keep r d R,⟨F.keep ?_,.inl k5⟩,?_,.inl J,fun k a=>a.imp (N k) id⟩,K⟩
 ·rw[Qh w];rfl
 ·rw[Xd _ _ _ _ (show u≠b from Zb m o (by decide)),n.block u B (fun e=>by obtain⟨c',C⟩:=(t e.symm).2;exact Zb m C (by decide) Z)]
 ·refine⟨xs++ds,?_,fun k a=>?_,?_⟩
  ·rw[List.length_append]
   exact Qe5 h1 (Xd _ _ _ _ (show g≠b from fun e=>y e.symm))
  ·simp[Value.ownBlock] at a
   subst a;rcases G with h | h
   ·exact .inl (t h).1
   ·exact .inr ⟨by omega,h4⟩
  ·refine QcC (s:=3) (P:=fun x cs=>(Lay.tt 6).In _ _ x cs) I.1 (fun i x z=>?_) (fun i x z=>?_)
   ·exact(Lay.tt 6).keep r d (q3 i x z)
   ·exact(Lay.tt 6).keep r d (h5 i x z)
theorem SAt.same6 {v:Value}(h:SAt w b O A s) (d:w.cell? ⟨b,6,none⟩=some v) (k:Nat):(w.setCell ⟨b,6,none⟩ v).heap[k]?=w.heap[k]?:=by
 obtain⟨j,o,q,l,i,f,g,p,m,n,a,-⟩:=h
 have e:=(Qb a 6 _ Z).symm.trans d;simp only[Option.some.injEq] at e
 by_cases c:k=b
 ·subst c;rw[Qh a,a,<-e];rfl
 ·exact Xd _ _ _ _ c
end
end Go.Proofs.YtjhdpajpibdnaafGreat
