import Derived.Test.YtjhdpajpibdnaafGreatP3
import Derived.Deep.Upon
import Derived.SizedLaws
set_option maxHeartbeats 16000000
set_option maxRecDepth 100000
namespace Go.Proofs.YtjhdpajpibdnaafGreat
open Go.ChangeShapes Go.WideShapes Go.ChangeAt Go.RowKit _root_.Go.Proofs.Tryz
set_option linter.unusedSimpArgs false
set_option linter.unusedVariables false
variable {w w' w6 w1 w2:World}{n b c k m rc ac X j B i cm g N d f fi cap bp q R pages id bi cc funcs s ci rl al ca ri vl most cR cA G:Nat}{O Q O':Nat→Prop}{l xs regs inp:List Int}{p a rg ag pm pi pa pR pA ra aa:Option Addr}{t e:TypeId}{v:Value}{P:Program}{L bs:List Bool}{x ya xc xk fr xa xb xn yb:Int}{ds cs:List Value}{ops:Array Oper}
theorem WIn.cells {w:World}(h:WIn w O l (.slice p n c)):∀ i,i<l.length->∃ g o,p=some ⟨g,o,none⟩/\w.cell? ⟨g,o+i,none⟩=some (Iv (l.getD i 0)):=fun i b=>by
 obtain⟨q,d,e,h⟩:=h
 cases e
 obtain⟨k,o,f,-,-,a⟩:=h i b
 exact⟨k,o,f,a⟩
def QnK (w6:World) (Z cb co:Nat) (pb po:Option Addr) (lb lo:List Int) (t:Tmp) (v:Value) (w:World):Prop :=
 match ([(10,QhF w6.heap.size lb),(13,QhF w6.heap.size lo)]:List (Tmp × (Value->World->Prop))).lookup t with
 | some p=>p v w
 | none=>v=(([(3,.pointer (some ⟨Z,0,none⟩)),(8,.pointer (some ⟨Z,1,none⟩)),(9,.slice pb lb.length cb),(11,.pointer (some ⟨Z,2,none⟩)),(12,.slice po lo.length co),(14,.pointer (some ⟨Z,1,none⟩))]:List (Tmp × Value)).lookup t).getD undef
theorem wo2 {Z u y:Nat}{o A:Option Addr}{f lo:List Int}(D:w6.cell? ⟨Z,1,none⟩=some (.slice o f.length u)) (E:w6.cell? ⟨Z,2,none⟩=some (.slice A lo.length y)) (F:Hid (∀ wx,Below w6.heap.size w6 wx->Calls prog 48 #[.slice o f.length u] wx fun e w'=>Qco wx f e w')) (H:Hid (∀ wx,Below w6.heap.size w6 wx->Calls prog 48 #[.slice A lo.length y] wx fun e w'=>Qco wx lo e w')){Q:Exit->Act->World->Prop}
 (a:Act) (m:Nat) (I:a.tmps.size=m) (q:17<=m) (i:a.tmps.getD 3 undef=Pv Z 0)
 (hend:∀ ops vs w',(QhF w6.heap.size f) (vs 10) w'->(QhF w6.heap.size lo) (vs 13) w'->vs 14=Pv Z 1->Below w6.heap.size w6 w'->wpList prog ops Q (Qal 7 ((Tryz.f37.body.bind (Qi 2)).getD .skip)) (QM a vs [8,9,10,11,12,13,14]) w') :
 Code.wp prog ((Tryz.f37.body.bind (Qi 2)).getD .skip) Q a w6:=by
 conv=>arg 2;whnf
 refine Qg 7 (QnK w6 Z u y o A f lo) (fun w=>Below w6.heap.size w6 w) (fun w w'=>Below w.heap.size w w') (outs:=[3]) (gs:=[]) (bs:=[true,true,true,true,true,true,true]) (by kernel_rfl) (n:=17) I q (by kernel_rfl) (by kernel_rfl) ?hR ?hG (QI Zr 1) ⟨i,Y⟩ ?hA ?hend
 case hR =>
  intro t v w w' B h;unfold QnK at h |-;split at h
  ·rename_i p d
   simp only[List.lookup_cons,List.lookup_nil] at d
   split at d
   ·cases d;exact h.below B
   ·split at d
    ·cases d;exact h.below B
    ·cases d
  ·exact h
 case hG=>exact Y
 case hend=>exact fun ops vs w' b c=>hend ops vs w' (c 10 (by kernel_rfl)) (c 13 (by kernel_rfl)) (c 14 (by kernel_rfl)) b
 case hA =>
  repeat
   refine⟨fun a w b c K r=>?_,?_⟩
   focus first
    | obtain⟨g,-⟩:=c
      conv at g=>whnf;rhs;whnf
      have L:=Qk D b;have J:=Qk E b;go_simp;exact r _ _ Zr b Yz
    | obtain⟨g,-⟩:=c
      conv at g=>whnf;rhs;whnf
      go_simp;refine Xm (F.out w b) ?_;rintro C G ⟨k,l,rfl,z,s,i,j⟩;go_simp;exact r _ _ j (b.trans (j.mono b.size)) ⟨k,l,Yz,z,s,fun x hx=>Zt b.size (i x hx)⟩
    | obtain⟨g,-⟩:=c
      conv at g=>whnf;rhs;whnf
      go_simp;refine Xm (H.out w b) ?_;rintro C G ⟨k,l,rfl,z,s,i,j⟩;go_simp;exact r _ _ j (b.trans (j.mono b.size)) ⟨k,l,Yz,z,s,fun x hx=>Zt b.size (i x hx)⟩
  trivial
section
variable {w w' w2:World}{b most:Nat}{m:List (MFunc 6)}{M M':RM}{g g1:WG}
def QjH (lo:Nat) (M:RM) (v:Value) (w:World):Prop:=∃ vb vo,v=.agg #[Iv M.fin,vb,vo,Iv M.fuel]/\QhF lo M.back vb w/\QhF lo M.out vo w
theorem Qcl (S:WAt w b most m M g) (ho:M.out.length<=1000000) (hb:M.back.length<=1000000) :
 Calls prog 37 #[Pv b 0] w fun e w'=>∃ v,e=.returned v/\QjH w.heap.size M v w'/\Below w.heap.size w w':=by
 obtain⟨po,co,eo⟩:=QaR S.out
 obtain⟨pb,cb,eb,-⟩:=S.back
 have K:=Qc (ZP w (.cells #[Iv 0,Nv,Nv,Iv 0] 44));have BR:=Qc (Qe w #[Iv 0,Nv,Nv,Iv 0] 44);have C:=S.below K.out;have q5:=Qb C.box 5 _ Yz;have q6:(w.alloc (.cells #[Iv 0,Nv,Nv,Iv 0] 44)).cell? ⟨b,6,none⟩=some g.vb:=Qb C.box 6 _ Yz;have q7:(w.alloc (.cells #[Iv 0,Nv,Nv,Iv 0] 44)).cell? ⟨b,7,none⟩=some g.vo:=Qb C.box 7 _ Yz;have q8:=Qb C.box 8 _ Yz;rw[eb] at q6
 rw[eo] at q7
 have HB:=Qc C.back;have HO:=Qc C.out;rw[eb] at HB
 rw[eo] at HO
 clear S C eo eb;go_enter func37,ntmps37
 go_upto_region 1 with fail
 generalize w.alloc (.cells #[Iv 0,Nv,Nv,Iv 0] 44)=J at K BR q5 q6 q7 q8 HB HO |-;generalize hR:w.heap.size=R at BR |-;have HR:=Qc hR;clear hR;have I:=Qc (ZP J (.cells #[Iv M.fin,.slice pb M.back.length cb,.slice po M.out.length co,Iv M.fuel] 44));have B:=Qc (Qe J #[Iv M.fin,.slice pb M.back.length cb,.slice po M.out.length co,Iv M.fuel] 44);go_upto_region 2 with fail
 have H:Hid (R≠J.heap.size):=by show _≠_;have:=XC BR.out;omega
 have E:Hid (w.heap.size<=J.heap.size):=K.out.size;generalize J.alloc (.cells #[Iv M.fin,.slice pb M.back.length cb,.slice po M.out.length co,Iv M.fuel] 44)=L at I B |-;generalize J.heap.size=Z at B H E |-;have CB:Hid (∀ o,Below L.heap.size L o->Calls prog 48 #[.slice pb M.back.length cb] o fun e w'=>Qco o M.back e w'):=fun o bx=>Qda (WIn.cells (WIn.keep (fun k _ f=>bx.block k f) (fun _ h _=>h) (WIn.keep (fun k _ f=>I.out.block k f) (fun _ h _=>h) HB.out))) hb;have CO:Hid (∀ o,Below L.heap.size L o->Calls prog 48 #[.slice po M.out.length co] o fun e w'=>Qco o M.out e w'):=fun o bx=>Qda (WIn.cells (WIn.keep (fun k _ f=>bx.block k f) (fun _ h _=>h) (WIn.keep (fun k _ f=>I.out.block k f) (fun _ h _=>h) (HO.out.lin (O:=fun _=>True) (fun _ _=>trivial))))) ho;have z:=Qc (K.out.trans (I.out.mono K.out.size));have ac:=Qc (Blk.below BR.out I.out);refine wo2 (Qb B.out 1 _ Yz) (Qb B.out 2 _ Yz) CB CO _ _ Yz (Xg (by kernel_rfl)) Yz ?_;rintro ag vs q ⟨i,j,t,ad,W,N⟩ ⟨l,a,u,P,U,T⟩ y b5;show wpList _ ag _ [_,_,_] (QM _ vs [8,9,10,11,12,13,14]) q;simp only[QM,Act.put,List.setIfInBounds_toArray,List.set_cons_zero,List.set_cons_succ,t,u,y]
 have c:=Blk.below B.out b5;have af:=Qc (Blk.below ac.out b5);have B5:=Qc (z.out.trans (b5.mono z.out.size));have ae:Hid (Z<L.heap.size):=XC B.out;have G:=Qc (Xh W N);have A:=Qc (Xh U T);have X:=Qc (Xh ad P);have k0:=Qb c 0 _ Yz;have k1:=Qb c 1 _ Yz;have k2:=Qb c 2 _ Yz;have k3:=Qb c 3 _ Yz;have y0:=Qj c 0;have y1:=Qj c 1;have y2:=Qj c 2;have y3:=Qj c 3;have F:=Qh (Qh c 1 (.slice i M.back.length j)) 2 (.slice l M.out.length a);have F:Hid (((q.setCell ⟨Z,1,none⟩ (.slice i M.back.length j)).setCell ⟨Z,2,none⟩ (.slice l M.out.length a)).heap[Z]?=some (.cells #[Iv M.fin,.slice i M.back.length j,.slice l M.out.length a,Iv M.fuel] 44 (0,0))):=F.trans (by simp);have D:Hid (∀ k,k≠Z->((q.setCell ⟨Z,1,none⟩ (.slice i M.back.length j)).setCell ⟨Z,2,none⟩ (.slice l M.out.length a)).heap[k]?=q.heap[k]?):=fun k f=>by rw[Xd _ _ _ _ f,Xd _ _ _ _ f]
 have ah:Hid (q.heap.size=((q.setCell ⟨Z,1,none⟩ (.slice i M.back.length j)).setCell ⟨Z,2,none⟩ (.slice l M.out.length a)).heap.size):=by show _=_;simp
 have aa:Hid (Below w.heap.size w ((q.setCell ⟨Z,1,none⟩ (.slice i M.back.length j)).setCell ⟨Z,2,none⟩ (.slice l M.out.length a))):=(B5.out.setCell (p:=⟨Z,1,none⟩) E.out _).setCell (p:=⟨Z,2,none⟩) E.out _;clear t u y ad W N P U T b5 CB CO c B q5 q6 q7 q8 HB HO K I;go_upto_region 3 with fail
 generalize (q.setCell ⟨Z,1,none⟩ (.slice i M.back.length j)).setCell ⟨Z,2,none⟩ (.slice l M.out.length a)=w6 at F D ah aa |-;clear k0 k1 k2 k3 y0 y1 y2 y3;have d:=Qc ((D.out R H.out).trans af.out);have e0:=Qb F.out 0 _ Yz;have e1:=Qb F.out 1 _ Yz;have e2:=Qb F.out 2 _ Yz;have e3:=Qb F.out 3 _ Yz;have r0:=Qb d.out 0 _ Yz;have r1:=Qb d.out 1 _ Yz;have r2:=Qb d.out 2 _ Yz;have r3:=Qb d.out 3 _ Yz;have z0:=Qj d.out 0;have z1:=Qj d.out 1;have z2:=Qj d.out 2;have z3:=Qj d.out 3;have ai:¬ R=Z:=H.out;go_wp2_with fail
 have V:=QiA d.out (Iv M.fin) (.slice i M.back.length j) (.slice l M.out.length a) (Iv M.fuel);have r:w.heap.size<=R:=by rw[HR.out];exact Ze
 have B9:=(((aa.out.setCell (p:=⟨R,0,none⟩) r (Iv M.fin)).setCell (p:=⟨R,1,none⟩) r (.slice i M.back.length j)).setCell (p:=⟨R,2,none⟩) r (.slice l M.out.length a)).setCell (p:=⟨R,3,none⟩) r (Iv M.fuel);have O9:∀ k,k≠R->((((w6.setCell ⟨R,0,none⟩ (Iv M.fin)).setCell ⟨R,1,none⟩ (.slice i M.back.length j)).setCell ⟨R,2,none⟩ (.slice l M.out.length a)).setCell ⟨R,3,none⟩ (Iv M.fuel)).heap[k]?=w6.heap[k]?:=fun k f=>by rw[Xd _ _ _ _ f,Xd _ _ _ _ f,Xd _ _ _ _ f,Xd _ _ _ _ f]
 generalize ((((w6.setCell ⟨R,0,none⟩ (Iv M.fin)).setCell ⟨R,1,none⟩ (.slice i M.back.length j)).setCell ⟨R,2,none⟩ (.slice l M.out.length a)).setCell ⟨R,3,none⟩ (Iv M.fuel))=w9 at V B9 O9 |-
 have n:∀ x,L.heap.size<=x->w9.heap[x]?=q.heap[x]?:=fun x s=>by
  have h1:=ae.out;have h2:=XC ac.out;exact(O9 x (by omega)).trans (D.out x (by omega))
 have f0:=Qb V 0 _ Yz;have f1:=Qb V 1 _ Yz;have f2:=Qb V 2 _ Yz;have f3:=Qb V 3 _ Yz;have Q:=z.out.size;exact Xy (v:=.agg #[Iv M.fin,.slice i M.back.length j,.slice l M.out.length a,Iv M.fuel]) (by simp[results,results37,go_sem,f0,f1,f2,f3]) Yz ⟨_,Yz,⟨_,_,Yz,⟨i,j,Yz,X.out.1,QY G.out.1 (fun x s=>n x (G.out.2 x s)),fun x s=>Zt Q (G.out.2 x s)⟩,⟨l,a,Yz,X.out.2,QY A.out.1 (fun x s=>n x (A.out.2 x s)),fun x s=>Zt Q (A.out.2 x s)⟩⟩,B9⟩
end
def Qhq {α:Type}(A:Lay α) (w w':World) (l:List α) (e:Ending):Prop:=∃ a' c',e=.returned (.slice a' l.length c')/\A.list.In w' (Qcr w.heap.size) l [.slice a' l.length c']/\Below w.heap.size w w'
def iv (l:List Int):List Value:=l.map (fun x=>Value.int .i64 x)
theorem Qkp {lo:Nat}(h:w.ownsRow lo e 1 v l.length (iv l)) (c:∀ x∈l,I64 x):intsL.In w (Qcr lo) l [v] :=
 Qao.lay (A:=Lay.int) (e:=e) (xs:=iv l) ⟨h,fun i x a=>by
  have d:Lay.int.size=1:=rfl;rw[d,XL]
  have f:((iv l).drop i).take 1=[Iv x]:=by
   obtain⟨b,e⟩:=Zi a
   unfold iv;rw[<-List.map_drop,List.drop_eq_getElem_cons b]
   simp[e]
  rw[f]
  exact⟨Z,c x (Zm a)⟩⟩
theorem Qkm (h:intsL.In w O l [.slice a m c]):∀ x∈l,I64 x:=by
 intro x e;obtain⟨i,b⟩:=List.mem_iff_getElem?.1 e
 obtain⟨g,o,f,_,_,_,_,d⟩:=Yf h b
 exact d.2
theorem Qj9 (h:intsL.In w O l [.slice a m c]) (k:0<l.length) :
 ∃ ad,a=some ad/\ad.block<w.heap.size/\∀ j v,(iv l)[j]?=some v->w.cell? (ad.add j)=some v:=by
 obtain⟨g,o,e,_,d,_⟩:=ZI h k
 refine⟨⟨g,o,none⟩,e,d,fun j v i=>?_⟩
 have b:j<l.length:=by have:=(Zi i).1;simpa[iv] using this
 obtain⟨p,q,f,_,_,n⟩:=ZI h b
 rw[e] at f
 cases f
 rw[show (⟨g,o,none⟩:Addr).add j=⟨g,o+j,none⟩ from by unfold Addr.add;split<;>simp_all,n,<-i]
 simp[iv,List.getD,b]
theorem QcX (l:List Int):(iv l).length=l.length:=by simp[iv]
theorem Qmd (l:List Int):∀ v∈iv l,v.oneCell'=true:=by
 intro v a;obtain⟨x,_,rfl⟩:=List.mem_map.1 a
 rfl
theorem underIs:prog.underlying 76=some (.slice 3):=by kernel_rfl
theorem infoI:(prog.info? 3).map (fun i=>(i.zero,i.size,i.bytes))=some (some (Iv 0),1,8):=by kernel_rfl
theorem infoI1:(prog.info? 3).map (·.size)=some 1:=by kernel_rfl
theorem QaT (l:List Int) (p:Option Addr) (c:Nat) (w:World) (i:intsL.In w All l [.slice p l.length c]) (s:l.length<=4294967296) :
 Calls prog 231 #[.slice p l.length c] w fun e w'=>Qhq Lay.int w w' l e:=by
 have A:Hid _:=i;have t:Hid _:=Qkm i;clear i;have q:=fun u=>run_make_row' (P:=prog) 76 3 (Iv 0) 8 underIs infoI Z .i64 .i64 l.length (by omega) (by omega) u
 have f:(w.alloc (.cells (madeCells #[Iv 0] l.length) 3)).heap[w.heap.size]?=some (.cells (madeCells #[Iv 0] l.length).toList.toArray 3 (0,0)):=by
  rw[Array.toArray_toList];exact Qe w _ _
 have d:(iv l).length=Nat.min l.length l.length:=by rw[QcX];exact(Nat.min_self _).symm
 have h:Hid (0<(iv l).length->(some ⟨w.heap.size,0,none⟩:Option Addr)=some ⟨w.heap.size,0,none⟩/\∃ k,p=some k/\∀ j v,(iv l)[j]?=some v->(w.alloc (.cells (madeCells #[Iv 0] l.length) 3)).cell? (k.add j)=some v):=by
  intro r;rw[QcX] at r
  obtain⟨k,e,n,y⟩:=Qj9 A.out r
  exact⟨Z,k,e,fun j v x=>(XU (w:=w) (a:=k.add j) (Below.heap_alloc _ _ _ (by unfold Addr.add;split<;>exact n))).trans (y j v x)⟩
 have b:0+(iv l).length<=(madeCells #[Iv 0] l.length).toList.length:=by rw[QcX,toList_madeCells_one];simp
 have m:Hid (Below w.heap.size w (w.alloc (.cells (madeCells #[Iv 0] l.length) 3))):=(Below.refl _ w).alloc Ze _;go_enter func231,ntmps231
 go_wp2_with (refine wpList_copy_splice Z (.tmp 7) (.tmp 8) 76 76 Z 3 underIs infoI1 _ _ l.length l.length l.length c Z Z w.heap.size 0 (madeCells #[Iv 0] l.length).toList 3 f (iv l) d h.out b (Qmd l) w.heap.size w m.out Ze ?_)
 ·intro w' o g;clear h b m f d
  have R:Hid (Qhq Lay.int w w' l (.returned (.slice (some ⟨w.heap.size,0,none⟩) l.length l.length))):=by
   have z:splice (madeCells #[Iv 0] l.length).toList 0 (iv l)=iv l:=by
    rw[toList_madeCells_one];simp[splice,QcX]
   rw[z] at o
   refine⟨_,_,Z,Qkp ⟨by rw[QcX,XL],Or.inr ⟨w.heap.size,l.length,(iv l).toArray,Z,Ze,o.out,Ze,by unfold maxLen;omega,by simp[QcX],?_⟩⟩ t.out,g⟩
   rw[XL,<-QcX l];simp
  clear o g q;go_wp2
  go_ret;exact R.out
theorem QaL {rest:List Oper}{o:Oper}{a:Act}{Q:Exit->Act->World->Prop}(c:o.guard=none) (s x:Operand) (t:TypeId)
 (e:o.op=.call { callee:=.builtin .append,args:=#[s,x],argTypes:=#[t,t] }) (v d:Value) (i:a.eval s=v) (f:a.eval x=d) (b:(Builtin.append_ #[t,t] o.type #[v,d]).run P w=.ok v w)
 (h:wpList P ops Q rest (a.put o.dst v) w):wpList P ops Q (o::rest) a w:=by
 refine wpList_plain c fun K g=>?_;unfold Oper.wp;simp[execOp,e,resolve,invoke,builtin,i,f,b,Result.andThen]
 exact g _ _ h
abbrev FV:Value:=.func (.func 261) #[] #[]
theorem QhE (n:Nat) (D:Qio 261 n) (l m:List (TT n)) (a b:Option Addr) (c d:Nat) (w:World) (I:LIn w All l a) (H:LIn w All m b) (ab:l.length<=100000) (v:∀ x∈l,x.count<=100000) :
 Calls prog 260 #[.slice a l.length c,.slice b m.length d,FV] w fun e w'=>ZL e (l=m)/\Below w.heap.size w w':=by
 have IH:Hid (Qio 261 n):=D;have hl:Hid (LIn w All l a):=I;have hm:Hid (LIn w All m b):=H;have V:Hid (∀ x∈l,x.count<=100000):=v;clear D I H v;by_cases f:l.length=m.length
 ·have J:((l.length:Int) != (m.length:Int))=false:=by simp;omega
  have E:Hid (l.length=m.length):=f;clear f;go_enter func260,ntmps260
  go_wp2_with fail
  go_loopw [17] (fun i wr=>∃ q:Nat,q<=l.length/\i=Iv q/\(∀ j,j<q->l[j]?=m[j]?)/\Below w.heap.size w wr) (fun i _=>l.length - (intOf i).toNat)
  case atStart=>exact⟨0,Xb _,Z,fun j hj=>by omega,Zr⟩
  case round =>
   obtain⟨q,hq,rfl,u,G⟩:=hrel
   have A:Hid (∀ j,j<q->l[j]?=m[j]?):=u;have B:Hid (Below w.heap.size w wr):=G;clear u G;by_cases U:q<l.length
   ·have z:l[q]?=some l[q]:=Zg U;have aa:q<m.length:=by have:=E.out;omega
    have L:m[q]?=some m[q]:=Zg aa;generalize l[q]=x at z;generalize m[q]=y at L;obtain⟨g,o,X,O,rfl,_,Q,d1,d2,hk⟩:=LIn.at (hl.out.below B.out) z
    obtain⟨g',o',S,W,rfl,_,P,d4,d5,K⟩:=LIn.at (hm.out.below B.out) L
    have C:Hid (∀ F,Below wr.heap.size wr F->Calls prog 261 #[Tv x X O,Tv y S W] F fun e w'=>ZL e (x=y)/\Below F.heap.size F w') :=
     fun F G=>IH.out x y X S O W _ (hk.below G) (K.below G) (V.out x (Zm z))
    have k:Hid (l[q]?=some x):=z;have t:Hid (m[q]?=some y):=L;have hg:g<wr.heap.size:=Xi wr ⟨g,o+q*3,none⟩ Q;have ad:g'<wr.heap.size:=Xi wr ⟨g',o'+q*3,none⟩ P;clear hk K z L;simp only[Tv] at C
    generalize x.kind=kx at C Q;generalize x.r=rx at C d1;generalize x.len=lx at C d2;generalize y.kind=ky at C P;generalize y.r=ry at C d4;generalize y.len=ly at C d5;have ae:(0:Int)<=q:=by omega
    have T:(q:Int)<l.length:=by omega
    have ac:(q:Int)<m.length:=by omega
    go_wp2_with fail
    have M:Below wr.heap.size wr ((wr.alloc (.cells #[Iv kx,Iv rx,.slice X lx O] 105)).alloc (.cells #[Iv ky,Iv ry,.slice S ly W] 105)):=((Below.refl _ wr).alloc Ze _).alloc (by simp) _;refine(C.out _ M).mono ?_
    rintro r w5 ⟨⟨p,rfl,N⟩,b5⟩;have HB:Hid (Below w.heap.size w w5):=(B.out.trans (M.mono B.out.size)).trans (b5.mono (Zt B.out.size M.size));clear C b5 B Q d1 d2 P d4 d5 M
    cases p with
    | true =>
      have s:x=y:=N.1 Z
      have A2:Hid (∀ j,j<q+1->l[j]?=m[j]?):=fun j hj=>by
       by_cases e:j=q
       ·subst e;rw[k.out,t.out,s]
       ·exact A.out j (by omega)
      clear N s k t A;go_wp2
      go_roundw
      case rel=>exact⟨q+1,by omega,by go_num,A2.out,HB.out⟩
      case measure=>simp[intOf];omega
    | false =>
      have s:Hid (¬ l=m):=fun h=>by
       have h1:=k.out;rw[h,t.out] at h1
       have:=N.2 (Xn h1).symm
       cases this
      clear N k t A;go_wp2
      go_ret;exact⟨ZL.no s.out,HB.out⟩
   ·have R:Hid (l=m):=by
     have:=E.out
     refine List.ext_getElem? (fun i=>?_);by_cases hi:i<q
     ·exact A.out i hi
     ·rw[Xk (by omega),Xk (by omega)]
    have T:¬ (q:Int)<l.length:=by omega
    clear A;go_wp2
    go_ret;exact⟨ZL.yes R.out,B.out⟩
 ·have J:((l.length:Int) != (m.length:Int))=true:=by simp;omega
  have E:Hid (l.length≠m.length):=f;clear f;go_enter func260,ntmps260
  go_wp2
  go_ret;exact⟨ZL.no (fun h=>E.out (by rw[h])),Zr⟩
theorem same_any:∀ n,Qio 261 n:=by
 intro n
 induction n with
 | zero=>intro t;exact Empty.elim t
 | succ n ih =>
   intro t u a b c d w F A K;have i:∀ x∈t.2.2,x.count<=100000:=fun x G=>by have:=t.count_kid G;omega
   have f:t.2.2.length<=100000:=by have:=t.len_lt_count;rw[t.len_eq] at this;omega
   have C:Hid (∀ g,Below w.heap.size w g->Calls prog 260 #[.slice a t.2.2.length c,.slice b u.2.2.length d,FV] g fun e I=>ZL e (t.2.2=u.2.2)/\Below g.heap.size g I) :=
    fun g z=>QhE n ih t.2.2 u.2.2 a b c d g (F.below z) (A.below z) f i
   rw[TT.eq_iff]
   simp only[Tv,TT.len_eq] at C |-
   generalize t.2.2.length=p at C |-;generalize u.2.2.length=q at C |-;generalize (t.2.2=u.2.2)=E at C |-;generalize t.kind=k;generalize t.r=r;generalize u.kind=o;generalize u.r=s;clear i f K F A ih t u;by_cases m:k=o
   ·subst m;by_cases l:r=s
    ·subst l;go_enter func261,ntmps261
     go_wp2_with fail
     have j:Below w.heap.size w ((w.alloc (.cells #[Iv k,Iv r,.slice a p c] 105)).alloc (.cells #[Iv k,Iv r,.slice b q d] 105)):=((Below.refl _ w).alloc Ze _).alloc (by simp) _;refine(C.out _ j).mono ?_
     rintro e J ⟨⟨v,rfl,D⟩,y⟩;have B:Hid (Below w.heap.size w J):=j.trans (y.mono j.size);have V:Hid (v=true↔E):=D;clear y C D j
     cases v
     all_goals
      go_wp2
      go_ret
     ·exact⟨ZL.no (fun h=>by have:=V.out.2 h.2.2;cases this),B.out⟩
     ·exact⟨ZL.yes (by have:=V.out;simpa using this),B.out⟩
    ·have H:(r==s)=false:=by simpa using l
     have R:Hid (¬ r=s):=l;clear l;go_enter func261,ntmps261
     go_wp2_with fail
     go_ret;exact⟨ZL.no (fun h=>R.out h.2.1),((Below.refl _ w).alloc Ze _).alloc (by simp) _⟩
   ·have L:(k==o)=false:=by simpa using m
    have R:Hid (¬ k=o):=m;clear m;go_enter func261,ntmps261
    go_wp2_with fail
    go_ret;exact⟨ZL.no (fun h=>R.out h.1),((Below.refl _ w).alloc Ze _).alloc (by simp) _⟩
section
variable {α:Type}{A:Lay α}{e:TypeId}{w w':World}{lo g n q s:Nat}{l:List α}{xs:List Value}{x:α}{ds:List Value}
theorem Qao.start (q:A.size=s) (h:w.ownsRow lo e s (.slice (some ⟨g,0,none⟩) m m) m xs):Qao A e w lo (.slice (some ⟨g,0,none⟩) 0 m) (l.take 0) []:=by
 subst q;obtain⟨t,o⟩:=h
 rcases o with ⟨a,_⟩|⟨r,j,b,a,p,k,n,f,d,c⟩
 ·simp at a
 ·simp only[Value.slice.injEq,Option.some.injEq,Addr.mk.injEq,and_true,true_and] at a
  obtain⟨rfl,rfl⟩:=a
  exact⟨⟨by simp,.inr ⟨g,m,b,Z,p,k,Xb _,f,d,by simp⟩⟩,fun i x h=>by simp at h⟩
theorem Qao.blk (h:Qao A e w lo (.slice (some ⟨g,0,none⟩) q n) l xs) (o:A.size=s):∃ c,Blk w g c e/\c.size=n*s:=by
 subst o;obtain⟨t,m⟩:=h.own
 rcases m with ⟨a,_⟩|⟨r,i,b,a,u,j,k,p,f,d⟩
 ·simp at a
 ·simp only[Value.slice.injEq,Option.some.injEq,Addr.mk.injEq,and_true,true_and] at a
  obtain⟨rfl,-,rfl⟩:=a
  exact⟨b,j,f⟩
theorem Qao.fillq (h:Qao A e w lo (.slice (some ⟨g,0,none⟩) q n) (l.take q) xs) (f:A.size=s) (j:q<l.length) (i:l.length=n) (b:l[q]?=some x) (d:A.In w (fun k=>lo<=k/\k≠g) x ds) (c:w'=w.setCells g (0+q*s) ds) :
 ∃ xs',Qao A e w' lo (.slice (some ⟨g,0,none⟩) (q+1) n) (l.take (q+1)) xs':=by
 subst f c;have a:(l.take q).length=q:=by simp;omega
 have T:l.take (q+1)=l.take q++[x]:=by rw[XV,b];rfl
 have:=Qao.fill (l:=l.take q) (g:=g) (n:=n) (by rw[a];exact h) d (by omega)
 rw[a] at this
 rw[T,XK]
 exact⟨_,this⟩
theorem Qao.done (h:Qao A e w lo (.slice (some ⟨g,0,none⟩) q n) (l.take q) xs) (a:q=l.length):A.list.In w (Qcr lo) l [.slice (some ⟨g,0,none⟩) l.length n]:=by
 have:=h.lay
 subst a;rw[List.take_length] at this
 exact this
end
theorem QbR {z:Value}{s:Nat}(h:(prog.info? t).map (fun i=>(i.zero,i.size,i.bytes))=some (some z,s,b)):∃ i,prog.info? t=some i/\i.zero=some z/\i.size=s/\i.bytes=b:=by
 obtain⟨i,a,e⟩:=Option.map_eq_some_iff.1 h
 simp only[Prod.mk.injEq] at e
 exact⟨i,a,e⟩
theorem infoIns:(prog.info? 78).map (fun i=>(i.zero,i.size,i.bytes))=some (some (.agg #[Iv 0,Iv 0,Iv 0,Iv 0,Iv 0,Iv 0,Nv,Nv]),8,96):=by kernel_rfl
theorem infoBlock:(prog.info? 86).map (fun i=>(i.zero,i.size,i.bytes))=some (some (.agg #[Iv 0,Nv,Nv,Iv 0,Iv 0,Iv 0,Nv,Nv,Iv 0,Nv,Nv,Nv]),12,208):=by kernel_rfl
theorem infoFunc:(prog.info? 89).map (fun i=>(i.zero,i.size,i.bytes))=some (some (.agg #[Iv 0,Nv,Nv,Nv]),4,80):=by kernel_rfl
section
open Go.Deep
def Wt {H:Type}(P:Program) (t:TypeId) (d:DataW H):Prop:=∀ n∈d.weights P t,n<=reachBytes
def Qy (P:Program) (t:TypeId){α:Type}(A:Lay α) (n:Nat) (Bd:α->Prop):Prop :=
 P.cellsOf t=A.size/\∀ {H:Type} {enc:TypeId × Value->H} {w:World} {base:Nat} {spare:Nat->Bool} {held:Bool} {fuel:Nat} {cs:List Value} {x:DataW H × List MemPlace},
  fuel<=n->DataW.trod enc P w base spare held fuel t cs=some x->Wt P t x.1->∃ d,A.In w (fun _=>True) d cs/\Bd d
theorem Qy.int (n:Nat) (h:P.underlying t=some (.int .i64)) (c:P.cellsOf t=1):Qy P t Lay.int n (fun _=>True) :=
 ⟨c,fun _ b _=>by
  obtain⟨k,e,_,a⟩:=DataW.trod_int h b
  exact⟨k,⟨e,Go.bounds_i64 a⟩,Y⟩⟩
theorem Qbd {H:Type}{P:Program}{e:TypeId}:∀ {l:List (DataW H)}{d:DataW H},d∈l->∀ n∈d.weights P e,n∈DataW.weightsAll P e l
 | d0::l,d,h,n,hn=>by
   simp only[DataW.weightsAll,List.mem_append]
   rcases List.mem_cons.1 h with rfl | h
   ·exact .inl hn
   ·exact .inr (Qbd h n hn)
theorem Qy.list {α:Type}{A:Lay α}{Bd:α->Prop}(h:P.underlying t=some (.slice e)) (hc:P.cellsOf t=1) (X:Qy P e A n Bd) (F:0<A.size) (L:0<P.bytesOf e):Qy P t A.list n (fun l=>l.length<1152921504606846976) :=
 ⟨hc,fun {H af w z I aa ab cs x} hf h' hw=>by
  rcases DataW.trod_slice h h' with ⟨K,_⟩|⟨a,s,T,c,g,q,rfl,K,W,hb,hl,hm,U,J,_,_⟩
  ·exact⟨[],by rw[K];exact Yg A _ _ _ _,by simp⟩
  ·have ad:(c.length+g.length)*P.bytesOf e<=reachBytes:=hw _ (by rw[W];simp[DataW.weights,h])
   have ae:s<1152921504606846976:=by
    have h1:c.length*1<=(c.length+g.length)*P.bytesOf e:=Nat.mul_le_mul (by omega) L;have h2:reachBytes<1152921504606846976:=by decide
    omega
   have u:∀ i,i<s->∃ y,c[i]?=some y/\Wt P e y.1:=fun i C=>by
    refine⟨c[i]'(by omega),Zg (by omega),fun k hk=>hw k ?_⟩
    rw[W]
    simp only[DataW.weights,h,List.mem_cons,List.mem_append]
    exact .inr (.inl (Qbd (List.mem_map_of_mem (List.getElem_mem (by omega))) k hk))
   obtain⟨l,N,hp⟩:=QkJ (P:=fun i (d:α)=>∃ f,w.cells? z (a.add (i*A.size)) A.size=some f/\A.In w (fun _=>True) d f) s (fun i C=>by
    have M:=J i C;obtain⟨y,hy,Q⟩:=u i C
    rw[hy,X.1] at M
    rw[Option.bind_eq_some_iff] at M
    obtain⟨f,o,S⟩:=M
    obtain⟨d,G,_⟩:=X.2 (by omega) S Q
    exact⟨d,f,o,G⟩)
   refine⟨l,⟨some a,T,by rw[K,N],fun i x V=>?_⟩,by omega⟩
   obtain⟨f,o,G⟩:=hp i x V
   obtain⟨_,ac,p⟩:=World.cells?_some o
   obtain⟨b,B,D⟩:=a
   have r:D=none:=by
    have C:0<l.length:=Nat.lt_of_le_of_lt (Xb i) (Zi V).1;obtain⟨O,E,R⟩:=hp 0 l[0] (Zg C)
    have m:0<O.length:=by rw[A.len R];exact F
    have:=(World.cells?_some E).2.2 0 F
    rw[Zg m] at this
    simpa[Addr.add] using World.cell?_spot this
   subst r
   have v:∀ j,j<A.size->w.cell? ⟨b,B+i*A.size+j,none⟩=f[j]?:=fun j hj=>by
    have:=p j hj
    rw[Go.WideShapes.add_plain,Go.WideShapes.add_plain] at this
    exact this
   refine⟨b,B,f,Z,Y,?_,v,G⟩
   have m:0<f.length:=by rw[A.len G];exact F
   have:=v 0 F
   rw[Zg m] at this
   exact Xi w _ this⟩
def QH (P:Program) (fs:Array Field):Nat->Nat->{α:Type}->Lay α->Nat->(α->Prop)->Prop:=fun i o α A n Bd =>
 ∀ (H:Type) (enc:TypeId × Value->H) (w:World) (base:Nat) (spare:Nat->Bool) (held:Bool) (fuel:Nat) (cs:List Value) (xs:List (DataW H × List MemPlace)),
  fuel<=n->cs.length=o+A.size->xs.length=fs.size->(∀ (j:Nat) (f:Field),fs[j]?=some f->DataW.trod enc P w base spare held fuel f.type ((cs.drop f.offset).take (P.cellsOf f.type))=xs[j]?) ->
  (∀ (j:Nat) (f:Field) x,fs[j]?=some f->xs[j]?=some x->Wt P f.type x.1)->∃ d,A.In w (fun _=>True) d (cs.drop o)/\Bd d
theorem QH.last {fs:Array Field}{o:Nat}{f:Field}{α:Type}{A:Lay α}{l:α->Prop}(b:fs[i]?=some f) (p:f.offset=o) (k:Qy P f.type A n l):QH P fs i o A n l:=by
 intro H r w c a e j y u s z x h m;have g:=h i f b;have v:i<fs.size:=(Array.getElem?_eq_some_iff.1 b).1;rw[Zg (by omega),p,k.1] at g
 obtain⟨d,q,t⟩:=k.2 s g (m i f _ b (Zg (by omega)))
 refine⟨d,?_,t⟩
 rwa [XO (by simp;omega)] at q
theorem QH.cons {fs:Array Field}{o:Nat}{f:Field}{α β:Type}{A:Lay α}{B:Lay β}{l:α->Prop}{j:β->Prop}(c:fs[i]?=some f) (y:f.offset=o) (m:Qy P f.type A n l) (u:QH P fs (i+1) (o+A.size) B n j):QH P fs i o (A.pair B) n (fun x=>l x.1/\j x.2):=by
 intro H D w k a q r I E s J t h p;have g:=h i f c;have G:i<fs.size:=(Array.getElem?_eq_some_iff.1 c).1;rw[Zg (by omega),y,m.1] at g
 obtain⟨d,C,v⟩:=m.2 s g (p i f _ c (Zg (by omega)))
 have F:(A.pair B).size=A.size+B.size:=rfl;obtain⟨e,z,b⟩:=u _ _ _ _ _ _ _ _ _ s (by omega) t h p
 refine⟨(d,e),⟨_,_,?_,C,z⟩,v,b⟩
 rw[<-List.drop_drop,List.take_append_drop]
theorem Qy.struct {fs:Array Field}{α:Type}{A:Lay α}{i:α->Prop}(h:P.underlying t=some (.struct fs)) (p:P.cellsOf t=A.size) (C:QH P fs 0 0 A n i):Qy P t A n i :=
 ⟨p,fun {H E w g a l o G x} I u z=>by
  obtain⟨F,m,rfl,q,b,c,e⟩:=DataW.trod_struct h u
  obtain⟨d,B,s⟩:=C _ _ _ _ _ _ _ _ _ (by omega) (by rw[b,p];omega) c e (fun j f y r v k D=>z k (by
   rw[q]
   simp only[DataW.weights,h]
   exact DataW.weights_mem_each (j:=j) (t:=f.type) (d:=y.1) (by simp[r]) (by simp[v]) k D))
  exact⟨d,by simpa using B,s⟩⟩
theorem Qy.via {α β:Type}{A:Lay α}{f:β->α}{a:α->Prop}(h:Qy P t A n a) (g:α->β) (b:∀ d,f (g d)=d):Qy P t (A.via f) n (fun x=>a (f x)) :=
 ⟨h.1,fun i k c=>by
  obtain⟨d,e,j⟩:=h.2 i k c
  exact⟨g d,by show A.In _ _ (f (g d)) _;rw[b];exact e,by show a (f (g d));rw[b];exact j⟩⟩
theorem own:ownKnob prog.godebug=none:=by kernel_rfl
theorem laidOut:laidOutB prog=true:=by kernel_rfl
theorem fieldsT:∃ f0 f1 f2:Field,prog.underlying 105=some (.struct #[f0,f1,f2]) /\
 (f0.offset=0/\prog.cellsOf f0.type=1/\prog.underlying f0.type=some (.int .i64))/\(f1.offset=1/\prog.cellsOf f1.type=1/\prog.underlying f1.type=some (.int .i64)) /\
 (f2.offset=2/\prog.cellsOf f2.type=1/\f2.type=80) :=
 ⟨_,_,_,underlying105,⟨Z,by kernel_rfl,by kernel_rfl⟩,⟨Z,by kernel_rfl,by kernel_rfl⟩,⟨Z,by kernel_rfl,Z⟩⟩
theorem Qmu (n:Nat):Qy prog 105 (Lay.tt n) n (fun _=>True) :=
 ⟨by kernel_rfl,fun {H m w f d g b v x} l p r=>by
  obtain⟨u,y,s,e,i,j,o⟩:=fieldsT
  obtain⟨t,a,c,q,h,k⟩:=Qmh (ti:=0) underlying80 e (by kernel_rfl) i j o n b l p
  exact⟨t,⟨a,c,q,h,k⟩,Y⟩⟩
theorem QaO (n:Nat):Qy prog 3 Lay.int n (fun _=>True):=Qy.int n underlying3 (by kernel_rfl)
theorem QlP (n:Nat):Qy prog 2 Lay.int n (fun _=>True):=Qy.int n underlying2 (by kernel_rfl)
theorem QfJ (n:Nat):Qy prog 80 (Qo n) n (fun l=>l.length<1152921504606846976):=Qy.list underlying80 (by kernel_rfl) (Qmu n) (by show 0<3;decide) (by rw[show prog.bytesOf 105=40 from by kernel_rfl];decide)
end
def QhR {α:Type}(A:Lay α) (w w':World) (x:α) (e:Ending):Prop:=∃ ds:List Value,e=.returned (.agg ds.toArray)/\A.In w' (Qcr w.heap.size) x ds/\Below w.heap.size w w'
theorem Qm2 (a:World) (z:Array Value) (t:TypeId)(b:cs.length=z.size):(a.alloc (.cells z t)).there a.heap.size 0 cs.toArray.size/\Blk ((a.alloc (.cells z t)).setCells a.heap.size 0 cs) a.heap.size cs.toArray t/\Below a.heap.size a ((a.alloc (.cells z t)).setCells a.heap.size 0 cs):=by
 have c:=Blk.new a z t;refine⟨Blk.there c (by simp[b]),?_,?_⟩
 ·have d:Blk (a.alloc (.cells z t)) a.heap.size ([]++z.toList).toArray t:=c;exact Blk.sets cs [] z.toList _ (by simpa using b) d
 ·exact QJ Ze cs _ _ 0 (Zd a _)
theorem Blk.setsA {c:Array Value}(h:Blk w R c t) (a:List Value) (b:a.length=c.size):Blk (w.setCells R 0 a) R a.toArray t:=Blk.sets a [] c.toList w (by simpa using b) h
theorem infoType0:(prog.info? 105).map (fun i=>(i.zero,i.size,i.bytes))=some (some (.agg #[Iv 0,Iv 0,Nv]),3,40):=by kernel_rfl
theorem Qbt {z:Value}(h:(prog.info? t).map (fun i=>(i.zero,i.size,i.bytes))=some (some z,s,b)):(prog.info? t).map (·.size)=some s:=by
 obtain⟨i,a,-,c,-⟩:=QbR h
 rw[a];simp[c]
theorem Qb6 {fn:Func}{R:Ending->World->Prop}{a:Act}{t:Tmp}{b j:TypeId}{c:Array Value}{d:TypeDesc}(m:fn.results=#[.cell t b]) (f:a.tmps.getD t undef=Pv B 0) (h:a.defers=[]) (k:Blk w B c j)
 (l:prog.underlying b=some d) (i:d.isRow=true) (hi:(prog.info? b).map (·.size)=some c.size) (g:R (.returned (.agg c)) w):bodyPost prog fn R .ret a w:=by
 refine Xy ?_ h g;have e:=run_loadVar_mid (P:=prog) w B 0 b c.toList d (Blk.range (by simpa using k)) l i (by simpa using hi);simp only[Array.toArray_toList] at e
 rw[Za] at f
 simp[results,m,f,asAddr,e]
theorem Z1 {α:Type}{A:Lay α}{F K:FuncId}{l:List α}
 (hF:F=122/\A.size=3\/F=186/\A.size=8\/F=124/\A.size=12\/F=76/\A.size=4)
 (U:Qah K) (M:A.list.In w All l [.slice p l.length c]) (hb:l.length<=4294967296) (J:∀ (w:World) (O:Nat->Prop) (x:α) (ds:List Value),A.In w O x ds->∀ v∈ds,v.oneCell'=true)
 (L:∀ x∈l,∀ ds wx,A.In wx All x ds->Calls prog K #[.agg ds.toArray] wx fun e w'=>QhR A wx w' x e) :
 Calls prog F #[.slice p l.length c,.func (.func K) #[] #[]] w fun e w'=>Qhq A w w' l e:=by
 have hl:=Qf M;have hf:=Qf L;have h1:=Qf J;have hE:∀ (args:Array Value) (w:World),(callFunc K args).run prog w=.ok (.enter K args) w:=U;clear M L J U;rcases hF with ⟨rfl,s⟩|⟨rfl,s⟩|⟨rfl,s⟩|⟨rfl,s⟩
 have Q:=underlying105;have r:=Qbt infoType0;have G:=Qf fun (wx:World) (cs:List Value) (h:cs.length=3)=>Qm2 wx #[Iv 0,Iv 0,Nv] 105 h;obtain⟨z,t,d,m,b⟩:=QbR infoType0
 obtain⟨C,y,a,f⟩:=run_make_full (P:=prog) w w.heap.size 80 105 z _ 3 underlying80 t d m .i64 .i64 l.length (by rw[b];omega) (by unfold maxLen;omega) Ze
 clear t d m b;have V:Hid (Below w.heap.size w C):=(Below.refl _ w).grown f Ze (fun k r=>by cases r);have T:=Qf (Qao.start (l:=l) s a);clear f a;go_enter func122,ntmps122
 rotate_left
 have Q:=underlying78;have r:=Qbt infoIns;have G:=Qf fun (wx:World) (cs:List Value) (h:cs.length=8)=>Qm2 wx #[Iv 0,Iv 0,Iv 0,Iv 0,Iv 0,Iv 0,Nv,Nv] 78 h;obtain⟨z,t,d,m,b⟩:=QbR infoIns
 obtain⟨C,y,a,f⟩:=run_make_full (P:=prog) w w.heap.size 79 78 z _ 8 underlying79 t d m .i64 .i64 l.length (by rw[b];omega) (by unfold maxLen;omega) Ze
 clear t d m b;have V:Hid (Below w.heap.size w C):=(Below.refl _ w).grown f Ze (fun k r=>by cases r);have T:=Qf (Qao.start (l:=l) s a);clear f a;go_enter func186,ntmps186
 rotate_left
 have Q:=underlying86;have r:=Qbt infoBlock;have G:=Qf fun (wx:World) (cs:List Value) (h:cs.length=12)=>Qm2 wx #[Iv 0,Nv,Nv,Iv 0,Iv 0,Iv 0,Nv,Nv,Iv 0,Nv,Nv,Nv] 86 h;obtain⟨z,t,d,m,b⟩:=QbR infoBlock
 obtain⟨C,y,a,f⟩:=run_make_full (P:=prog) w w.heap.size 87 86 z _ 12 underlying87 t d m .i64 .i64 l.length (by rw[b];omega) (by unfold maxLen;omega) Ze
 clear t d m b;have V:Hid (Below w.heap.size w C):=(Below.refl _ w).grown f Ze (fun k r=>by cases r);have T:=Qf (Qao.start (l:=l) s a);clear f a;go_enter func124,ntmps124
 rotate_left
 have Q:=underlying89;have r:=Qbt infoFunc;have G:=Qf fun (wx:World) (cs:List Value) (h:cs.length=4)=>Qm2 wx #[Iv 0,Nv,Nv,Nv] 89 h;obtain⟨z,t,d,m,b⟩:=QbR infoFunc
 obtain⟨C,y,a,f⟩:=run_make_full (P:=prog) w w.heap.size 22 89 z _ 4 underlying22 t d m .i64 .i64 l.length (by rw[b];omega) (by unfold maxLen;omega) Ze
 clear t d m b;have V:Hid (Below w.heap.size w C):=(Below.refl _ w).grown f Ze (fun k r=>by cases r);have T:=Qf (Qao.start (l:=l) s a);clear f a;go_enter func76,ntmps76
 rotate_left
 all_goals
  go_wp2_with fail
  go_loopw [13] (fun i wr=>∃ q:Nat,q<=l.length/\i=Iv q/\(∃ e xs,Qao A e wr w.heap.size (.slice (some ⟨w.heap.size,0,none⟩) q l.length) (l.take q) xs)/\Below w.heap.size w wr) (fun i _=>l.length - (intOf i).toNat)
  case atStart=>exact⟨0,Xb _,Yz,⟨_,_,T.out⟩,V.out⟩
  case round =>
   obtain⟨q,hq,rfl,⟨e,xs,hA⟩,hB⟩:=hrel
   have W:=Qf hA;have E:=Qf hB;clear hA hB V T y;obtain⟨B,ab⟩:∃ B,B=wr:=⟨_,Yz⟩
   subst ab;by_cases aa:q<l.length
   rotate_left
   ·have X:¬ (q:Int)<l.length:=by omega
    have R:Hid (Qhq A w B l (.returned (.slice (some ⟨w.heap.size,0,none⟩) l.length l.length))):=⟨_,_,Yz,W.out.done (by omega),E.out⟩;clear W E;go_wp2
    go_ret;exact R.out
   have X:(q:Int)<l.length:=by omega
   have H:l[q]?=some l[q]:=Zg aa;generalize l[q]=x at H;obtain⟨g,o,ds,rfl,-,-,E3,I3⟩:=Yf (Ya hl.out E.out) H
   have hn:=A.len I3;rw[s] at hn E3
   have RG:=Qf (show B.rangeAt g (o+q*_) ds from fun j v hj=>(E3 j (by rw[<-hn];exact(Zi hj).1)).trans hj);have TO:=Qf (all_oneCell_toArray (h1.out _ _ _ _ I3));obtain⟨M1,M2,M3⟩:=G.out B ds hn
   have HM:=Qf M1;have HK:=Qf (r.trans (congrArg some hn.symm));have CC:=Qf (hf.out x (Zm H) ds _ (Ya I3 M3));have B2:=Qf M2;have I:=Qf M3;have HX:=Qf H;clear M1 M2 M3 E3 I3 H hn;go_upto_region 5 with (first | (refine wpList_load_mid Yz _ (.tmp 16) Yz g _ Yz ds _ RG.out Q Yz HK.out ?_) | (refine wpList_store_mid Yz _ (.tmp 7) (.tmp 17) Yz B.heap.size 0 ds.toArray Yz Yz HM.out HK.out TO.out ?_))
   clear HM RG TO;generalize World.setCells _ _ _ _=w3 at B2 I CC |-;generalize B.heap.size=Z at B2 |-;have RZ:Hid (w3.rangeAt Z 0 ds):=Blk.range B2.out;clear B2;go_wp2_with (refine wpList_load_mid Yz _ (.tmp 7) Yz Z 0 Yz ds _ RZ.out Q Yz HK.out ?_)
   refine CC.out.mono ?_;rintro _ w8 ⟨d2,rfl,I8,B8⟩;have u:=A.len I8;rw[s] at u
   have b8:=I.out.trans (B8.mono I.out.size);have D:=W.out.below b8;obtain⟨cg,N,S⟩:=D.blk s
   have s1:=(W.out.lo_le (g:=w.heap.size) Yz).2;have s2:=I.out.size;have NX:=Qf (D.fillq s aa Yz HX.out (Yc I8 (fun k r _=>⟨by have:_<=k:=r;omega,by have:_<=k:=r;omega⟩)) Yz);have BX:=Qf (QJ Ze d2 _ _ (q*A.size) (E.out.trans (b8.mono E.out.size)));have TO:=Qf (all_oneCell_toArray (h1.out _ _ _ _ I8));have HK:=Qf (r.trans (congrArg some u.symm));have HT:=Qf (Blk.there (o:=q*A.size) (n:=d2.length) N (by rw[S,u,s];omega));clear u b8 D N S I8 B8 CC RZ I W E hl hf h1 G s1 s2;rw[XK] at NX
   rw[s] at BX HT
   go_wp2_with (refine wpList_store_mid Yz _ (.tmp 23) (.tmp 22) Yz w.heap.size _ d2.toArray Yz Yz HT.out HK.out TO.out ?_)
   go_roundw
   case rel=>exact⟨q+1,by omega,by go_num,(by obtain⟨_,h⟩:=NX.out;exact⟨_,_,h⟩),BX.out⟩
   case measure=>simp[intOf];omega
structure Bxs (w wx:World) (l:List (Nat × Array Value × TypeId)):Prop where
 bel:Below w.heap.size w wx
 ge:∀ b∈l,w.heap.size<=b.1
 box:∀ b∈l,Blk wx b.1 b.2.1 b.2.2
 nd:(l.map (·.1)).Nodup
section
variable {w wx w':World}{l a z:List (Nat × Array Value × TypeId)}{B:Nat}{c:Array Value}{t:TypeId}
theorem Bxs.start (w:World):Bxs w w []:=⟨Zr,fun _ h=>by simp at h,fun _ h=>by simp at h,by simp⟩
theorem Bxs.below (h:Bxs w wx l) (k:Below wx.heap.size wx w'):Bxs w w' l:=⟨h.bel.trans (k.mono h.bel.size),h.ge,fun b a=>(h.box b a).below k,h.nd⟩
theorem Bxs.drewN (h:Bxs w wx l) (n:Nat):Bxs w (wx.drewN n) l:=h.below (QI Zr n)
theorem Bxs.drew (h:Bxs w wx l):Bxs w wx.drew l:=h.drewN 1
theorem Bxs.add (h:Bxs w wx l) (g:Blk wx B c t) (d:w.heap.size<=B) (f:∀ b∈l,b.1≠B):Bxs w wx ((B,c,t)::l) :=
 ⟨h.bel,fun b a=>by rcases List.mem_cons.1 a with rfl | e;exact d;exact h.ge b e,fun b a=>by rcases List.mem_cons.1 a with rfl | e;exact g;exact h.box b e,by
  simp only[List.map_cons,List.nodup_cons]
  refine⟨fun e=>?_,h.nd⟩
  obtain⟨b,a,e⟩:=List.mem_map.1 e
  exact f b a e⟩
theorem Bxs.new (h:Bxs w wx l) (c:Array Value) (t:TypeId):Bxs w (wx.alloc (.cells c t)) ((wx.heap.size,c,t)::l) :=
 (h.below (Zd _ _)).add (Blk.new _ _ _) h.bel.size (fun b a e=>by have:=(h.box b a).lt;omega)
theorem Bxs.made (h:Bxs w wx l) (k:Below wx.heap.size wx w') (f:Blk w' B c t) (d:wx.heap.size<=B):Bxs w w' ((B,c,t)::l) :=
 (h.below k).add f (Zt h.bel.size d) (fun b a e=>by have:=(h.box b a).lt;omega)
theorem Bxs.at (h:Bxs w wx (a++(B,c,t)::z)):Blk wx B c t:=h.box (B,c,t) (by simp)
theorem Bxs.cell (h:Bxs w wx (a++(B,c,t)::z)) (i:Nat) (v:Value) (b:c[i]?=some v):wx.cell? ⟨B,i,none⟩=some v:=Qb h.at i v b
theorem Bxs.free (h:Bxs w wx (a++(B,c,t)::z)) (i:Nat):wx.frozen? ⟨B,i,none⟩=false:=Qj h.at i
theorem Bxs.set (h:Bxs w wx (a++(B,c,t)::z)) (i:Nat) (v:Value):Bxs w (wx.setCell ⟨B,i,none⟩ v) (a++(B,c.setIfInBounds i v,t)::z):=by
 have f:∀ b∈a++z,b.1≠B:=fun b d e=>by
  have g:=h.nd;rw[List.map_append,List.map_cons,List.nodup_append] at g
  obtain⟨-,j,k⟩:=g
  rw[List.nodup_cons] at j
  rcases List.mem_append.1 d with d | d
  ·exact k b.1 (List.mem_map_of_mem d) B (by simp) e
  ·exact j.1 (List.mem_map.2 ⟨b,d,e⟩)
 refine⟨h.bel.setCell (p:=⟨B,i,none⟩) (h.ge (B,c,t) (by simp)) v,fun b d=>?_,fun b d=>?_,?_⟩
 ·simp only[List.mem_append,List.mem_cons] at d
  rcases d with d | rfl | d
  ·exact h.ge b (by simp[d])
  ·exact h.ge (B,c,t) (by simp)
  ·exact h.ge b (by simp[d])
 ·simp only[List.mem_append,List.mem_cons] at d
  rcases d with d | rfl | d
  ·exact(Xd _ _ _ _ (f b (by simp[d]))).trans (h.box b (by simp[d]))
  ·have:=Qh h.at i v
   simpa using this
  ·exact(Xd _ _ _ _ (f b (by simp[d]))).trans (h.box b (by simp[d]))
 ·have:=h.nd
  simpa using this
end
def NuI (lo:Nat) (l:List Int) (v:Value) (w:World):Prop:=∃ p c,v=.slice p l.length c/\intsL.In w (Qcr lo) l [v]
theorem NuI.below {lo:Nat}(b:Below w.heap.size w w') (h:NuI lo l v w):NuI lo l v w':=by
 obtain⟨p,c,rfl,h⟩:=h
 exact⟨p,c,Z,Ya h b⟩
theorem NuI.move {lo a:Nat}(h:NuI lo l v w) (e:∀ k,lo<=k->w'.heap[k]?=w.heap[k]?) (d:a<=lo):NuI a l v w':=by
 obtain⟨p,c,rfl,h⟩:=h
 exact⟨p,c,Z,intsL.keep (fun k b _=>e k b) (fun k b _=>Zt d b) h⟩
theorem Qla {F:FuncId}(hF:F=232/\(∃ n,cs=[Iv n])\/F=187/\∃ a b c d e f,cs=[Iv a,Iv b,Iv c,Iv d,Iv e,Iv f])
 {j l:List Int}    (D:intsL.In w All j [.slice pR j.length cR]) (C:intsL.In w All l [.slice pA l.length cA]) (b1:j.length<=4294967296) (b2:l.length<=4294967296) :
 Calls prog F #[.agg (cs++[Value.slice pR j.length cR,Value.slice pA l.length cA]).toArray] w fun e w'=>∃ u v,e=.returned (.agg (cs++[u,v]).toArray)/\NuI w.heap.size j u w'/\NuI w.heap.size l v w'/\Below w.heap.size w w':=by
 have E:=Qf D;have hg:=Qf C;clear D C;obtain⟨o,I⟩:∃ o,cs.length=o:=⟨_,Z⟩
 obtain⟨A,s⟩:∃ o,cs.length+1=o:=⟨_,Z⟩
 rcases hF with ⟨rfl,n,rfl⟩|⟨rfl,n1,n2,n3,n4,n5,n6,rfl⟩
 have p:=Qf (((Bxs.start w).new #[Iv n,.slice pR j.length cR,.slice pA l.length cA] 82).new #[Iv 0,Nv,Nv] 82);have U:=underlying82;have r:(prog.info? 82).map (·.size)=some 3:=by kernel_rfl
 go_enter func232,ntmps232
 rotate_left
 have p:=Qf (((Bxs.start w).new #[Iv n1,Iv n2,Iv n3,Iv n4,Iv n5,Iv n6,.slice pR j.length cR,.slice pA l.length cA] 78).new #[Iv 0,Iv 0,Iv 0,Iv 0,Iv 0,Iv 0,Nv,Nv] 78);have U:=underlying78;have r:(prog.info? 78).map (·.size)=some 8:=by kernel_rfl
 go_enter func187,ntmps187
 all_goals
  go_upto_region 1 with fail
  generalize World.alloc (World.alloc w _) _=q at p |-;have O:q.cell? ⟨w.heap.size,o,none⟩=some (.slice pR j.length cR):=p.out.cell (a:=[_]) o _ (by subst I;rfl);have X:q.cell? ⟨w.heap.size,A,none⟩=some (.slice pA l.length cA):=p.out.cell (a:=[_]) A _ (by subst s;rfl);simp only[List.length_cons,List.length_nil,Nat.zero_add,Nat.reduceAdd] at I s
  refine Qg 7 (QlL [(5,NuI q.heap.size j),(8,NuI q.heap.size l)] [(1,Pv w.heap.size 0),(3,Pv w.heap.size o),(4,.slice pR j.length cR),(6,Pv w.heap.size A),(7,.slice pA l.length cA),(9,Pv w.heap.size o)]) (fun G=>Below q.heap.size q G) (fun w w'=>Below w.heap.size w w') (by kernel_rfl) (outs:=[1]) (gs:=[]) (bs:=[true,true,true,true,true,true,true]) (n:=12) Z Ze (by kernel_rfl) (by kernel_rfl) ?hR ?hG (QI Zr 1) ⟨Z,Y⟩ ?hA ?hend
  case hR=>exact fun t v w w' E h=>h.keep ⟨NuI.below E,NuI.below E,Y⟩
  case hG=>exact Y
  case hA =>
   subst I s
   repeat
    refine⟨fun a G g i K R=>?_,?_⟩
    focus
     obtain⟨k0,-⟩:=i
     conv at k0=>whnf;rhs;whnf
     have c0:=Qk O g;have c1:=Qk X g;have hw:=p.out.bel.trans (g.mono p.out.bel.size);go_simp
     first
      | with_reducible refine Xm (QaT _ _ _ G (Ya E.out hw) b1) ?_
        rintro e w9 ⟨T,Q,rfl,N,B⟩;exact R _ _ B (g.trans (B.mono g.size)) ⟨T,Q,Z,Yc N (fun k i _=>Zt g.size i)⟩
      | with_reducible refine Xm (QaT _ _ _ G (Ya hg.out hw) b2) ?_
        rintro e w9 ⟨T,Q,rfl,N,B⟩;exact R _ _ B (g.trans (B.mono g.size)) ⟨T,Q,Z,Yc N (fun k i _=>Zt g.size i)⟩
      | exact R _ _ Zr g Z
   trivial
  case hend =>
   rintro P x y g i;have M:NuI _ _ (x 5) y:=i 5 (by kernel_rfl);have H:NuI _ _ (x 8) y:=i 8 (by kernel_rfl);obtain⟨p5,c5,V,-⟩:=id M
   obtain⟨p8,c8,S,-⟩:=id H
   rw[V] at M
   rw[S] at H
   have e9:x 9=Pv w.heap.size o:=i 9 (by kernel_rfl);have J:=p.out.below g;have c0:=Qk O g;have c1:=Qk X g;have z0:=J.free (a:=[_]) o;have z1:=J.free (a:=[_]) A;have L:=(J.set (a:=[_]) o (.slice p5 j.length c5)).set (a:=[_]) A (.slice p8 l.length c8);have B6:=Qf (L.at (a:=[_]));have e1:∀ o,(w.alloc o).heap.size=w.heap.size+1:=fun o=>by simp
   have z:=L.at (a:=[]);have m:=(p.out.at (a:=[])).lt;rw[e1] at z m
   replace z:=Qf z;replace m:=Qf m;clear e1;have E6:=Qf L.bel;have K5:=Qf M;have K8:=Qf H
   have hO:Hid (∀ k,q.heap.size<=k->((y.setCell ⟨w.heap.size,o,none⟩ (.slice p5 j.length c5)).setCell ⟨w.heap.size,A,none⟩ (.slice p8 l.length c8)).heap[k]?=y.heap[k]?):=fun k h=>by
    have:=(p.out.at (a:=[_])).lt
    rw[Xd _ _ _ _ (show k≠w.heap.size by omega),Xd _ _ _ _ (show k≠w.heap.size by omega)]
   subst I s;show wpList _ P _ [_,_,_] (QM _ x [3,4,5,6,7,8,9]) y;simp only[QM,Act.put,List.setIfInBounds_toArray,List.set_cons_zero,List.set_cons_succ,V,S,e9]
   clear M H i V S e9 J L p E hg O X g;go_upto_region 2 with fail
   generalize World.setCell (World.setCell y _ _) _ _=w6 at B6 z E6 hO |-;have W:=B6.out;simp only[List.setIfInBounds_toArray,List.set_cons_zero,List.set_cons_succ] at W
   have RZ:=Qf (Blk.range W);clear B6 W;go_wp2_with (first | (refine wpList_load_mid Z _ (.tmp 1) Z w.heap.size 0 Z _ _ RZ.out U Z r ?_) | (refine wpList_store_mid Z _ (.tmp 2) (.tmp 11) Z (w.heap.size+1) 0 _ Z Z (Blk.there z.out Ze) r (all_oneCell_toArray (Xe.1 Z)) ?_))
   have i:∀ x k,q.heap.size<=k->(w6.setCells (w.heap.size+1) 0 x).heap[k]?=y.heap[k]?:=fun x k h=>(QF (by have:=m.out;omega) x 0 w6).trans (hO.out k h);have h3:w.heap.size<=q.heap.size:=by have:=m.out;omega
   exact Qb6 (t:=2) Z Z Z (Blk.setsA z.out _ Z) U Z r ⟨_,_,Z,K5.out.move (i _) h3,K8.out.move (i _) h3,QJ (by omega) _ _ _ 0 E6.out⟩
def NuT (lo:Nat) (x:MTo) (v:Value) (w:World):Prop:=∃ a b,v=.agg #[Iv x.block,a,b]/\NuI lo x.regs a w/\NuI lo x.args b w
theorem NuT.below {lo:Nat}{x:MTo}(b:Below w.heap.size w w') (h:NuT lo x v w):NuT lo x v w':=by
 obtain⟨p,q,rfl,h,k⟩:=h
 exact⟨p,q,Z,h.below b,k.below b⟩
theorem NuI.in {lo:Nat}(h:NuI lo l v w):intsL.In w (Qcr lo) l [v]:=by obtain⟨p,c,rfl,h⟩:=h;exact h
theorem NuI.lo {lo a:Nat}(h:NuI lo l v w) (b:a<=lo):NuI a l v w:=h.move (fun _ _=>rfl) b
theorem Qle {x:MTo}(h:QhB w All x pR cR pA cA) (b:x.regs.length<=4294967296) (f:x.args.length<=4294967296):Calls prog 232 #[.agg #[Iv x.block,.slice pR x.regs.length cR,.slice pA x.args.length cA]] w fun e w'=>∃ v,e=.returned v/\NuT w.heap.size x v w'/\Below w.heap.size w w' :=
 (Qla (cs:=[Iv x.block]) (.inl ⟨Z,_,Z⟩) h.regs h.args b f).mono fun e w' ⟨u,v,c,g,a,d⟩=>⟨_,c,⟨u,v,Z,g,a⟩,d⟩
theorem QlU {x:ZA}{i:EP}(h0:EIn w All x i) (s:x.small) :
 Calls prog 188 #[.agg #[Iv x.op,Iv x.a,Iv x.yes.block,.slice i.pYR x.yes.regs.length i.cYR,.slice i.pYA x.yes.args.length i.cYA,Iv x.no.block,.slice i.pNR x.no.regs.length i.cNR,.slice i.pNA x.no.args.length i.cNA,.slice i.pA x.args.length i.cA]] w fun e w'=>QhR endL w w' x e:=by
 have H:=Qf h0;have W:x.yes.regs.length<=4294967296:=by have:=s.1.1;omega
 have R:x.yes.args.length<=4294967296:=by have:=s.1.2;omega
 have U:x.no.regs.length<=4294967296:=by have:=s.2.1.1;omega
 have X:x.no.args.length<=4294967296:=by have:=s.2.1.2;omega
 have N:x.args.length<=4294967296:=by have:=s.2.2;omega
 clear h0 s;have g:=Qf (((Bxs.start w).new #[Iv x.op,Iv x.a,Iv x.yes.block,.slice i.pYR x.yes.regs.length i.cYR,.slice i.pYA x.yes.args.length i.cYA,Iv x.no.block,.slice i.pNR x.no.regs.length i.cNR,.slice i.pNA x.no.args.length i.cNA,.slice i.pA x.args.length i.cA] 84).new #[Iv 0,Iv 0,Iv 0,Nv,Nv,Iv 0,Nv,Nv,Nv] 84);go_enter func188,ntmps188
 go_upto_region 1 with fail
 generalize World.alloc (World.alloc w _) _=p at g |-;refine Qg 10 (QlL [(5,NuT p.heap.size x.yes),(8,NuT p.heap.size x.no),(11,NuI p.heap.size x.args)] [(1,Pv w.heap.size 0),(3,Pv w.heap.size 2),(4,.agg #[Iv x.yes.block,.slice i.pYR x.yes.regs.length i.cYR,.slice i.pYA x.yes.args.length i.cYA]),(6,Pv w.heap.size 5),(7,.agg #[Iv x.no.block,.slice i.pNR x.no.regs.length i.cNR,.slice i.pNA x.no.args.length i.cNA]),(9,Pv w.heap.size 8),(10,.slice i.pA x.args.length i.cA),(12,Pv w.heap.size 2)]) (fun F=>Below p.heap.size p F) (fun w w'=>Below w.heap.size w w') (by kernel_rfl) (outs:=[1]) (gs:=[]) (bs:=[true,true,true,true,true,true,true,true,true,true]) (n:=16) Z Ze (by kernel_rfl) (by kernel_rfl) ?hR ?hG (QI Zr 1) ⟨Z,Y⟩ ?hA ?hend
 case hR=>exact fun t v w w' Q h=>h.keep ⟨NuT.below Q,NuT.below Q,NuI.below Q,Y⟩
 case hG=>exact Y
 case hA =>
  have u:=fun j=>g.out.cell (a:=[_]) j
  repeat
   refine⟨fun a F b d K D=>?_,?_⟩
   focus
    obtain⟨k0,-⟩:=d
    conv at k0=>whnf;rhs;whnf
    have c2:=Qk (u 2 _ Z) b;have c3:=Qk (u 3 _ Z) b;have c4:=Qk (u 4 _ Z) b;have c5:=Qk (u 5 _ Z) b;have c6:=Qk (u 6 _ Z) b;have c7:=Qk (u 7 _ Z) b;have c8:=Qk (u 8 _ Z) b;have f:=g.out.bel.trans (b.mono g.out.bel.size);go_simp
    first
     | with_reducible refine Xm (Qle (H.out.yes.below f) W R) ?_
       rintro e w9 ⟨v9,rfl,⟨I,J,rfl,L,z⟩,l⟩;exact D _ _ l (b.trans (l.mono b.size)) ⟨I,J,Z,L.lo b.size,z.lo b.size⟩
     | with_reducible refine Xm (Qle (H.out.no.below f) U X) ?_
       rintro e w9 ⟨v9,rfl,⟨I,J,rfl,L,z⟩,l⟩;exact D _ _ l (b.trans (l.mono b.size)) ⟨I,J,Z,L.lo b.size,z.lo b.size⟩
     | with_reducible refine Xm (QaT _ _ _ F (Ya H.out.args f) N) ?_
       rintro e w9 ⟨p9,c9,rfl,z,l⟩;exact D _ _ l (b.trans (l.mono b.size)) ⟨p9,c9,Z,Yc z (fun k d _=>Zt b.size d)⟩
     | exact D _ _ Zr b Z
  trivial
 case hend =>
  rintro O A r b d;obtain⟨y1,y2,e5,G,S⟩:NuT _ _ (A 5) r:=d 5 (by kernel_rfl)
  obtain⟨n1,n2,e8,P,V⟩:NuT _ _ (A 8) r:=d 8 (by kernel_rfl)
  have E:NuI _ _ (A 11) r:=d 11 (by kernel_rfl);have B:A 12=Pv w.heap.size 2:=d 12 (by kernel_rfl);obtain⟨q1,d1,rfl,-⟩:=id G
  obtain⟨q2,d2,rfl,-⟩:=id S
  obtain⟨q3,d3,rfl,-⟩:=id P
  obtain⟨q4,d4,rfl,-⟩:=id V
  obtain⟨q5,d5,q,-⟩:=id E
  rw[q] at E
  have c:=g.out.below b;have z2:=c.free (a:=[_]) 2;have z3:=c.free (a:=[_]) 3;have z4:=c.free (a:=[_]) 4;have z5:=c.free (a:=[_]) 5;have z6:=c.free (a:=[_]) 6;have z7:=c.free (a:=[_]) 7;have z8:=c.free (a:=[_]) 8;have c2:=c.cell (a:=[_]) 2 _ Z;have c3:=c.cell (a:=[_]) 3 _ Z;have c4:=c.cell (a:=[_]) 4 _ Z;have c5:=c.cell (a:=[_]) 5 _ Z;have c6:=c.cell (a:=[_]) 6 _ Z;have c7:=c.cell (a:=[_]) 7 _ Z;have c8:=c.cell (a:=[_]) 8 _ Z;have y:=((((((c.set (a:=[_]) 2 (Iv x.yes.block)).set (a:=[_]) 3 (.slice q1 x.yes.regs.length d1)).set (a:=[_]) 4 (.slice q2 x.yes.args.length d2)).set (a:=[_]) 5 (Iv x.no.block)).set (a:=[_]) 6 (.slice q3 x.no.regs.length d3)).set (a:=[_]) 7 (.slice q4 x.no.args.length d4)).set (a:=[_]) 8 (.slice q5 x.args.length d5);simp only[List.setIfInBounds_toArray,List.set_cons_zero,List.set_cons_succ] at y
  generalize f:World.setCell _ _ _=w6 at y;have e1:∀ o,(w.alloc o).heap.size=w.heap.size+1:=fun o=>by simp
  have C:=y.at (a:=[]);have RZ:=Qf (Blk.range (y.at (a:=[_])));have M:=(g.out.at (a:=[])).lt;have aa:=(g.out.at (a:=[_])).lt;rw[e1] at C M
  replace C:=Qf C;have E6:=Qf y.bel;have T:=Qf (show EIn r (Qcr p.heap.size) x ⟨q1,d1,q2,d2,q3,d3,q4,d4,q5,d5⟩ from ⟨⟨G.in,S.in,H.out.yes.bnd⟩,⟨P.in,V.in,H.out.no.bnd⟩,E.in,H.out.bnd⟩)
  have hO:Hid (∀ k,p.heap.size<=k->w6.heap[k]?=r.heap[k]?):=fun k h=>by
   rw[<-f]
   iterate 7 rw[Xd _ _ _ _ (show k≠w.heap.size by omega)]
  show wpList _ O _ [_,_,_,_,_] (QM _ A [3,4,5,6,7,8,9,10,11,12]) r;simp only[QM,Act.put,List.setIfInBounds_toArray,List.set_cons_zero,List.set_cons_succ,e5,e8,q,B]
  clear e5 e8 q B c y b g H e1 G S P V E d;replace f:=Qf f;go_upto_region 2 with fail
  rw[f.out]
  clear f c2 c3 c4 c5 c6 c7 c8 z2 z3 z4 z5 z6 z7 z8;have hu:=underlying84;have m:(prog.info? 84).map (·.size)=some 9:=by kernel_rfl
  go_wp2_with (first | (refine wpList_load_mid Z _ (.tmp 1) Z w.heap.size 0 Z _ _ RZ.out hu Z m ?_) | (refine wpList_store_mid Z _ (.tmp 2) (.tmp 15) Z (w.heap.size+1) 0 _ Z Z (Blk.there C.out Ze) m (all_oneCell_toArray (Xe.1 Z)) ?_))
  exact Qb6 (t:=2) Z Z Z (Blk.setsA C.out _ Z) hu Z m ⟨_,Z,Qgf (T.out.keep (fun k d _=>(QF (by have:_<=k:=d;omega) _ 0 w6).trans (hO.out k d)) (fun k d _=>by have:_<=k:=d;show _<=k;omega)),QJ (by omega) _ _ _ 0 E6.out⟩
def Qmr (n:Nat):Prop:=∀ (t:TT n) (ds:List Value) (w:World),(Lay.tt n).In w All t ds->t.count<=100000->Calls prog 123 #[.agg ds.toArray] w fun e w'=>QhR (Lay.tt n) w w' t e
theorem QmY (w:World) (O:Nat->Prop) (x:TT n) (b:List Value) (h:(Lay.tt n).In w O x b):∀ v∈b,v.oneCell'=true:=by
 obtain⟨a,c,rfl,-⟩:=h
 exact Xe.1 Z
theorem enters1:Qah 123:=fun _ _=>by kernel_rfl
theorem enters2:Qah 187:=fun _ _=>by kernel_rfl
theorem enters3:Qah 125:=fun _ _=>by kernel_rfl
theorem enters4:Qah 77:=fun _ _=>by kernel_rfl
theorem cOwnType_:∀ n,Qmr n:=by
 intro n
 induction n with
 | zero=>intro t;exact Empty.elim t
 | succ n ih =>
   intro t J w s S;have y:∀ x∈t.2.2,x.count<=100000:=fun x u=>by have:=t.count_kid u;omega
   have C:t.2.2.length<=100000:=by have:=t.len_lt_count;rw[t.len_eq] at this;omega
   obtain⟨p,c,rfl,s,i⟩:=s
   have e:Hid _:=QeP (c:=c) s.list i.2;clear s;simp only[TT.len_eq]
   have g:=Qf (((Bxs.start w).new #[Iv t.kind,Iv t.r,.slice p t.2.2.length c] 105).new #[Iv 0,Iv 0,Nv] 105);have z:∀ o,(w.alloc o).heap.size=w.heap.size+1:=fun o=>by simp
   have d:Hid (w.heap.size+1<((w.alloc (.cells #[Iv t.kind,Iv t.r,.slice p t.2.2.length c] 105)).alloc (.cells #[Iv 0,Iv 0,Nv] 105)).heap.size):=by have:=(g.out.at (a:=[])).lt;rw[z] at this;exact this
   go_enter func123,ntmps123
   go_upto_region 1 with fail
   generalize World.alloc (World.alloc w _) _=M at g d |-;have G:=g.out.cell (a:=[_]) 2 _ Z;have K:=Qf (Z1 (A:=Lay.tt n) (.inl ⟨Z,Z⟩) enters1 (Ya e.out g.out.bel) (by omega) QmY (fun x u J O h=>ih x J O h (y x u)));go_wp2_with fail
   refine K.out.mono ?_;rintro _ v ⟨m,q,rfl,B,I⟩;have l:=g.out.below I;have G:=l.cell (a:=[_]) 2 _ Z;have N:=l.free (a:=[_]) 2;have j:=l.set (a:=[_]) 2 (.slice m t.2.2.length q);simp only[List.setIfInBounds_toArray,List.set_cons_zero,List.set_cons_succ] at j
   have f:=j.at (a:=[]);rw[z] at f
   replace f:=Qf f;have H:=Qf j.bel;have F:=Qf (Blk.range (j.at (a:=[_])));have D:Hid (∀ k,M.heap.size<=k->(v.setCell ⟨w.heap.size,2,none⟩ (.slice m t.2.2.length q)).heap[k]?=v.heap[k]?):=fun k h=>Xd _ _ _ _ (show k≠w.heap.size by have:=d.out;omega);have Q:=Qf B;clear K l j g B I e z;go_upto_region 2 with fail
   generalize World.setCell v _ _=L at f H F D |-;clear G N;have E:=underlying105;have b:=Qbt infoType0;go_wp2_with (first | (refine wpList_load_mid Z _ (.tmp 1) Z w.heap.size 0 Z _ _ F.out E Z b ?_) | (refine wpList_store_mid Z _ (.tmp 2) (.tmp 7) Z (w.heap.size+1) 0 _ Z Z (Blk.there f.out Ze) b (all_oneCell_toArray (Xe.1 Z)) ?_))
   have R:=d.out;have P:=QU (Lay.keep (Qo n) (w':=L.setCells (w.heap.size+1) 0 [Iv t.kind,Iv t.r,.slice m t.2.2.length q]) (O':=Qcr w.heap.size) (fun k e _=>(QF (by have:_<=k:=e;omega) _ 0 L).trans (D.out k e)) (fun k e _=>by have:_<=k:=e;show _<=k;omega) Q.out);exact Qb6 (t:=2) Z Z Z (Blk.setsA f.out _ Z) E Z b ⟨_,Z,⟨m,q,by rw[TT.len_eq],P.1,i⟩,QJ (by omega) _ _ _ 0 H.out⟩
theorem Qdu {α:Type}{A:Lay α}{lo:Nat}{x:α}(h:A.In w (Qcr lo) x ds){p:Addr}(a:p.block<lo) (v:Value):A.In (w.setCell p v) (Qcr lo) x ds:=Lay.setCell h (fun e=>by have:lo<=p.block:=e;omega) v
theorem Qbw {α:Type}{A:Lay α}{lo hi:Nat}{x:α}(h:A.In w (Qcr hi) x ds) (b:lo<=hi):A.In w (Qcr lo) x ds:=Yc h (fun k a _=>Zt b a)
theorem Qnu (w:World) (O:Nat->Prop) (x:Qt) (a:List Value) (h:insL.In w O x a):∀ v∈a,v.oneCell'=true:=by
 obtain⟨i,rfl,-⟩:=Qej h
 exact Xe.1 Z
theorem QmE (w:World) (O:Nat->Prop) (x:ZA) (a:List Value) (h:endL.In w O x a):∀ v∈a,v.oneCell'=true:=by
 obtain⟨i,rfl,-⟩:=Qeh h
 exact Xe.1 Z
theorem Qnh (w:World) (O:Nat->Prop) (x:MBlock n) (a:List Value) (h:(Zp n).In w O x a):∀ v∈a,v.oneCell'=true:=by
 obtain⟨i,rfl,-⟩:=Qb2 h
 exact Xe.1 Z
theorem Qng (w:World) (O:Nat->Prop) (x:MFunc n) (a:List Value) (h:(ZV n).In w O x a):∀ v∈a,v.oneCell'=true:=by
 obtain⟨i,rfl,-⟩:=QcH h
 exact Xe.1 Z
theorem Qde {l:List (TT n)}(h:(Qo n).In w All l [.slice p l.length c]) (a:QcG l):Calls prog 122 #[.slice p l.length c,.func (.func 123) #[] #[]] w fun e w'=>Qhq (Lay.tt n) w w' l e :=
 Z1 (.inl ⟨Z,Z⟩) enters1 h (by have:=a.1;omega) QmY (fun x d b f h=>cOwnType_ n x b f h (a.2 x d))
theorem Qly {l:List Qt}(h:insL.list.In w All l [.slice p l.length c]) (r:l.length<=100000) (j:∀ x∈l,x.small):Calls prog 186 #[.slice p l.length c,.func (.func 187) #[] #[]] w fun e w'=>Qhq insL w w' l e :=
 Z1 (.inr (.inl ⟨Z,Z⟩)) enters2 h (by omega) Qnu (fun x g s t h=>by
  obtain⟨i,rfl,f⟩:=Qej h
  refine(Qla (cs:=[Iv x.op,Iv x.a,Iv x.b,Iv x.c,Iv x.k,Iv x.n]) (.inr ⟨Z,_,_,_,_,_,_,Z⟩) f.regs f.args (by have:=(j x g).1;omega) (by have:=(j x g).2;omega)).mono ?_
  rintro e w' ⟨u,v,rfl,⟨a,c,rfl,q⟩,⟨b,d,rfl,m⟩,o⟩;exact⟨_,Z,QmW q m f.bnd,o⟩)
theorem Qjk {x:MBlock n}(h:(Zp n).In w All x ds) (hs:x.small):Calls prog 125 #[.agg ds.toArray] w fun e w'=>QhR (Zp n) w w' x e:=by
 obtain⟨i,rfl,hb⟩:=Qb2 h
 have H:=Qf hb;have G:=Qf hs;clear h hb hs;have A:=Qf (((Bxs.start w).new #[Iv x.regs,.slice i.pP x.params.length i.cP,.slice i.pC x.code.length i.cC,Iv x.fin.op,Iv x.fin.a,Iv x.fin.yes.block,.slice i.e.pYR x.fin.yes.regs.length i.e.cYR,.slice i.e.pYA x.fin.yes.args.length i.e.cYA,Iv x.fin.no.block,.slice i.e.pNR x.fin.no.regs.length i.e.cNR,.slice i.e.pNA x.fin.no.args.length i.e.cNA,.slice i.e.pA x.fin.args.length i.e.cA] 86).new #[Iv 0,Nv,Nv,Iv 0,Iv 0,Iv 0,Nv,Nv,Iv 0,Nv,Nv,Nv] 86);have e1:∀ o,(w.alloc o).heap.size=w.heap.size+1:=fun o=>by simp
 have b:=Qf ((A.out.at (a:=[])).lt);rw[e1] at b
 go_enter func125,ntmps125
 go_upto_region 1 with fail
 generalize World.alloc (World.alloc w _) _=m at A b |-;have c1:=A.out.cell (a:=[_]) 1 _ Z;have C1:=Qf (Qde (Ya H.out.params A.out.bel) G.out.2.1);go_wp2_with fail
 refine C1.out.mono ?_;rintro _ w4 ⟨z,s,rfl,I1,B4⟩;have O:=A.out.below B4;replace c1:=O.cell (a:=[_]) 1 _ Z;have z1:=O.free (a:=[_]) 1;have K:=Qf (O.set (a:=[_]) 1 (.slice z x.params.length s));have W:=Qf (Qdu I1 (p:=⟨w.heap.size,1,none⟩) (by have:=b.out;show w.heap.size<_;omega) (.slice z x.params.length s));have b5:=Qf B4.size;clear O C1 I1 B4 A;go_upto_region 2 with fail
 generalize F:World.setCell w4 _ _=w5 at K W |-;have r:Hid (m.heap.size<=w5.heap.size):=by show _<=_;rw[<-F];simpa using b5.out
 clear F b5 c1 z1;have c2:=K.out.cell (a:=[_]) 2 _ Z;have C2:=Qf (Qly (Ya H.out.code K.out.bel) G.out.1 G.out.2.2.2);go_wp2_with fail
 refine C2.out.mono ?_;rintro _ w6 ⟨g,j,rfl,I2,Q⟩;have P:=K.out.below Q;replace c2:=P.cell (a:=[_]) 2 _ Z;have z2:=P.free (a:=[_]) 2;have l:=P.set (a:=[_]) 2 (.slice g x.code.length j);have hp:w.heap.size<m.heap.size:=by have:=b.out;omega
 have K1:=Qf (Qdu (Ya W.out Q) (p:=⟨w.heap.size,2,none⟩) hp (.slice g x.code.length j));have X:=Qf (Qdu (Qbw I2 r.out) (p:=⟨w.heap.size,2,none⟩) hp (.slice g x.code.length j));have b7:=Qf (Zt r.out Q.size);simp only[List.setIfInBounds_toArray,List.set_cons_zero,List.set_cons_succ] at l
 replace l:=Qf l;clear P C2 I2 Q K W;go_upto_region 3 with fail
 generalize D:World.setCell w6 _ _=w7 at l K1 X |-;have I:Hid (m.heap.size<=w7.heap.size):=by show _<=_;rw[<-D];simpa using b7.out
 clear D b7 c2 z2 r;have hE:=Qf (QlQ (l.out.at (a:=[_])) 3 9 Z);have C3:=Qf (QlU (H.out.fin.below l.out.bel) G.out.2.2.1);have hu:=underlying84;have B:(prog.info? 84).map (·.size)=some 9:=by kernel_rfl
 have hp:w.heap.size<m.heap.size:=by have:=b.out;omega
 go_wp2_with (refine wpList_load_mid Z _ (.tmp 11) Z w.heap.size 3 Z _ _ hE.out hu Z B ?_)
 refine C3.out.mono ?_;rintro _ f ⟨c,rfl,M,R⟩;have L:=endL.len M;have he:=Qf (all_oneCell_toArray (QmE _ _ _ _ M));have N:=l.out.below R;have T:=N.at (a:=[_]);have HT:=Qf (Blk.there (o:=3) (n:=c.toArray.size) T (by rw[List.size_toArray,L];exact Ze));have HK:=Qf (B.trans (congrArg some L.symm));have HZ:=Blk.sets c [Iv x.regs,.slice z x.params.length s,.slice g x.code.length j] _ f (by rw[L];rfl) T;have S:=N.at (a:=[]);rw[e1] at S
 have U:Hid (Blk (f.setCells w.heap.size 3 c) (w.heap.size+1) _ _):=(QF (by omega) c 3 f).trans S;have E6:=Qf (QJ Ze c f w 3 N.bel);have RZ:=Qf (Blk.range HZ);have hO:Hid (∀ k,m.heap.size<=k->(f.setCells w.heap.size 3 c).heap[k]?=f.heap[k]?):=fun k h=>QF (by omega) c 3 f;have L1:=Qf (Ya K1.out R);have L2:=Qf (Ya X.out R);have L3:=Qf (Qbw M I.out);have V:=H.out.bnd;clear N T HZ S C3 K1 X M R hE l H G I e1;go_upto_region 4 with (refine wpList_store_mid Z _ (.tmp 14) (.tmp 13) Z w.heap.size 3 c.toArray Z Z HT.out HK.out he.out ?_)
 generalize World.setCells f _ _ _=w9 at U E6 RZ hO |-;have C:=underlying86;have y:([Iv x.regs,.slice z x.params.length s,.slice g x.code.length j]++c:List Value).length=12:=by rw[List.length_append,L];rfl
 have d:=Qf ((Qbt infoBlock).trans (congrArg some y.symm));have u:=Qf y;have J:=Qf (all_oneCell_toArray (cs:=[Iv x.regs,.slice z x.params.length s,.slice g x.code.length j]++c) (fun v hv=>(List.mem_append.1 hv).elim (fun h=>Xe.1 (rfl:([Iv x.regs,.slice z x.params.length s,.slice g x.code.length j]:List Value).all (·.oneCell')=true) v h) (QmE _ _ _ _ L3.out v)));generalize E:([Iv x.regs,.slice z x.params.length s,.slice g x.code.length j]++c:List Value)=q at RZ d u J;replace E:=Qf E;clear y HT HK he L;go_wp2_with (first | (refine wpList_load_mid Z _ (.tmp 1) Z w.heap.size 0 Z q _ RZ.out C Z d.out ?_) | (refine wpList_store_mid Z _ (.tmp 2) (.tmp 15) Z (w.heap.size+1) 0 q.toArray Z Z (Blk.there U.out (by rw[List.size_toArray,u.out];exact Ze)) d.out J.out ?_))
 have hk:∀ k,m.heap.size<=k->(w9.setCells (w.heap.size+1) 0 q).heap[k]?=f.heap[k]?:=fun k h=>(QF (by have:=b.out;omega) _ 0 w9).trans (hO.out k h);have h3:w.heap.size<=m.heap.size:=by omega
 replace E:=E.out;subst E;refine Qb6 (t:=2) Z Z Z (Blk.setsA U.out _ u.out) C Z d.out ⟨_,Z,?_,QJ (by omega) _ _ _ 0 E6.out⟩;exact QgB (Lay.keep _ (fun k h _=>hk k h) (fun k h _=>Zt h3 h) L1.out) (Lay.keep _ (fun k h _=>hk k h) (fun k h _=>Zt h3 h) L2.out) (Lay.keep _ (fun k h _=>hk k h) (fun k h _=>Zt h3 h) L3.out) V
theorem Qkc {x:MFunc n}(h:(ZV n).In w All x ds) (X:x.small):Calls prog 77 #[.agg ds.toArray] w fun e w'=>QhR (ZV n) w w' x e:=by
 obtain⟨i,rfl,hb⟩:=QcH h
 have H:=Qf hb;have q:=Qf X;clear h hb X;have f:=Qf (((Bxs.start w).new #[Iv x.regs,.slice i.pP x.params.length i.cP,.slice i.pR x.results.length i.cR,.slice i.pB x.blocks.length i.cB] 89).new #[Iv 0,Nv,Nv,Nv] 89);have R:∀ o,(w.alloc o).heap.size=w.heap.size+1:=fun o=>by simp
 have b:=Qf ((f.out.at (a:=[])).lt);rw[R] at b
 go_enter func77,ntmps77
 go_upto_region 1 with fail
 generalize World.alloc (World.alloc w _) _=g at f b |-;have c1:=f.out.cell (a:=[_]) 1 _ Z;have W:=Qf (Qde (Ya H.out.params f.out.bel) q.out.2.1);go_wp2_with fail
 refine W.out.mono ?_;rintro _ w4 ⟨p1,d1,rfl,I1,U⟩;have C:=f.out.below U;replace c1:=C.cell (a:=[_]) 1 _ Z;have z1:=C.free (a:=[_]) 1;have u:=Qf (C.set (a:=[_]) 1 (.slice p1 x.params.length d1));have N:=Qf (Qdu I1 (p:=⟨w.heap.size,1,none⟩) (by have:=b.out;show w.heap.size<_;omega) (.slice p1 x.params.length d1));have b5:=Qf U.size;clear C W I1 U f;go_upto_region 2 with fail
 generalize m:World.setCell w4 _ _=w5 at u N |-;have d:Hid (g.heap.size<=w5.heap.size):=by show _<=_;rw[<-m];simpa using b5.out
 clear m b5 c1 z1;have c2:=u.out.cell (a:=[_]) 2 _ Z;have C2:=Qf (Qde (Ya H.out.results u.out.bel) q.out.2.2.1);go_wp2_with fail
 refine C2.out.mono ?_;rintro _ w6 ⟨O,P,rfl,I2,E⟩;have D:=u.out.below E;replace c2:=D.cell (a:=[_]) 2 _ Z;have z2:=D.free (a:=[_]) 2;have v:=Qf (D.set (a:=[_]) 2 (.slice O x.results.length P));have r:w.heap.size<g.heap.size:=by have:=b.out;omega
 have Q:=Qf (Qdu (Ya N.out E) (p:=⟨w.heap.size,2,none⟩) r (.slice O x.results.length P));have M:=Qf (Qdu (Qbw I2 d.out) (p:=⟨w.heap.size,2,none⟩) r (.slice O x.results.length P));have b7:=Qf (Zt d.out E.size);clear D C2 I2 E u N;go_upto_region 3 with fail
 generalize l:World.setCell w6 _ _=w7 at v Q M |-;have s:Hid (g.heap.size<=w7.heap.size):=by show _<=_;rw[<-l];simpa using b7.out
 clear l b7 c2 z2 d;have c3:=v.out.cell (a:=[_]) 3 _ Z;have C3:=Qf (Z1 (A:=Zp n) (.inr (.inr (.inl ⟨Z,Z⟩))) enters3 (Ya H.out.blocks v.out.bel) (by have:=q.out.1;omega) Qnh (fun y hy ds wx h=>Qjk h (q.out.2.2.2 y hy)));go_wp2_with fail
 refine C3.out.mono ?_;rintro _ w8 ⟨G,z,rfl,V,F⟩;have B:=v.out.below F;replace c3:=B.cell (a:=[_]) 3 _ Z;have z3:=B.free (a:=[_]) 3;have j:=B.set (a:=[_]) 3 (.slice G x.blocks.length z);simp only[List.setIfInBounds_toArray,List.set_cons_zero,List.set_cons_succ] at j
 have I:=j.at (a:=[]);rw[R] at I
 have K:=Qf I;have E6:=Qf j.bel;have RZ:=Qf (Blk.range (j.at (a:=[_])));have L1:=Qf (Qdu (Ya Q.out F) (p:=⟨w.heap.size,3,none⟩) r (.slice G x.blocks.length z));have L2:=Qf (Qdu (Ya M.out F) (p:=⟨w.heap.size,3,none⟩) r (.slice G x.blocks.length z));have L3:=Qf (Qdu (Qbw V s.out) (p:=⟨w.heap.size,3,none⟩) r (.slice G x.blocks.length z));have L:=H.out.bnd;clear B j I C3 Q M V F v H q s R;go_upto_region 4 with fail
 generalize World.setCell w8 _ _=J at K E6 RZ L1 L2 L3 |-;clear c3 z3;have hu:=underlying89;have c:=Qbt infoFunc;go_wp2_with (first | (refine wpList_load_mid Z _ (.tmp 1) Z w.heap.size 0 Z _ _ RZ.out hu Z c ?_) | (refine wpList_store_mid Z _ (.tmp 2) (.tmp 15) Z (w.heap.size+1) 0 _ Z Z (Blk.there K.out Ze) c (all_oneCell_toArray (Xe.1 Z)) ?_))
 have S:∀ vs k,g.heap.size<=k->(J.setCells (w.heap.size+1) 0 vs).heap[k]?=J.heap[k]?:=fun vs k h=>QF (by have:=b.out;omega) _ 0 J;have T:w.heap.size<=g.heap.size:=by omega
 exact Qb6 (t:=2) Z Z Z (Blk.setsA K.out _ Z) hu Z c ⟨_,Z,QiU (Lay.keep _ (fun k h _=>S _ k h) (fun k h _=>Zt T h) L1.out) (Lay.keep _ (fun k h _=>S _ k h) (fun k h _=>Zt T h) L2.out) (Lay.keep _ (fun k h _=>S _ k h) (fun k h _=>Zt T h) L3.out) L,QJ (by omega) _ _ _ 0 E6.out⟩
theorem QgL (m:List (MFunc n)) (p:Option Addr) (c:Nat) (w:World) (h:(QaM n).In w All m [.slice p m.length c]) (g:Qbe m) :
 Calls prog 47 #[.agg #[.slice p m.length c]] w fun e w'=>∃ v,e=.returned v/\(∃ a' c',v=.agg #[.slice a' m.length c']/\(QaM n).In w' (Qcr w.heap.size) m [.slice a' m.length c'])/\Below w.heap.size w w':=by
 have H:=Qf h;have l:=Qf g;clear h g;have d:=Qf (((Bxs.start w).new #[.slice p m.length c] 24).new #[Nv] 24);have q:∀ o,(w.alloc o).heap.size=w.heap.size+1:=fun o=>by simp
 have b:=Qf ((d.out.at (a:=[])).lt);rw[q] at b
 go_enter func47,ntmps47
 go_upto_region 1 with fail
 generalize World.alloc (World.alloc w _) _=x at d b |-;have L:=d.out.cell (a:=[_]) 0 _ Z;have r:=Qf (Z1 (A:=ZV n) (.inr (.inr (.inr ⟨Z,Z⟩))) enters4 (Ya H.out d.out.bel) (by have:=l.out.1;omega) Qng (fun y z K G h=>Qkc h (l.out.2 y z)));go_wp2_with fail
 refine r.out.mono ?_;rintro _ I ⟨j,i,rfl,s,u⟩;have k:=d.out.below u;have f:=k.at (a:=[]);rw[q] at f
 have J:=Qb f 0 _ Z;have F:=Qj f 0;have C:w.heap.size+1<x.heap.size:=b.out;have E:=Qf (Qh f 0 (.slice j m.length i));have B:=Qf (Qdu s (p:=⟨w.heap.size+1,0,none⟩) C (.slice j m.length i));have D:=Qf (k.bel.setCell (p:=⟨w.heap.size+1,0,none⟩) (by show w.heap.size<=w.heap.size+1;omega) (.slice j m.length i));clear k r s u d f q H l b;go_wp2
 exact Qb6 (t:=2) Z Z Z E.out underlying24 Z (by kernel_rfl) ⟨_,Z,⟨j,i,Z,Qbw B.out (by omega)⟩,D.out⟩
abbrev Qci (be:Nat) (pm:Option Addr) (ml cm:Nat) (pi:Option Addr) (il ci most k:Nat):Array Value :=
 #[Pv be 0,.slice pm ml cm,.slice pi il ci,Iv most,.slice (some ⟨k,0,none⟩) 1 1,Iv 0,Nv,Nv,Iv 0,.bool false]
theorem WAt.begin {a:World}{e:Nat}{m:List (MFunc 6)}{d b lo:Nat}(D:Qdt a e bp (fun x=>d<=x/\x<b) (Est.new pages)) (C:(QaM 6).In a (fun x=>b<=x) m [.slice pm m.length cm])
 (I:intsL.In a (fun x=>b<=x) inp [.slice pi inp.length ci]) (J:inp.length<=ci) (L:b<=a.heap.size) (K:d<=b) (G:lo<=a.heap.size) :
 ∃ g,WAt (((a.alloc (.cells #[Iv 0,Iv 0,Iv 0,Nv] 132)).alloc (.cells #[Pv a.heap.size 0] 130)).alloc (.cells (Qci e pm m.length cm pi inp.length ci most (a.heap.size+1)) 68)) (a.heap.size+1+1) most m (RM.start inp pages) g/\(∀ x,g.A x->d<=x)/\g.lo=lo/\g.lk=b:=by
 have u:=ZP a (.cells #[Iv 0,Iv 0,Iv 0,Nv] 132);have v:=u.trans ((ZP (a.alloc (.cells #[Iv 0,Iv 0,Iv 0,Nv] 132)) (.cells #[Pv a.heap.size 0] 130)).mono u.size);have l:=Qe a #[Iv 0,Iv 0,Iv 0,Nv] 132;have o:=Qe (a.alloc (.cells #[Iv 0,Iv 0,Iv 0,Nv] 132)) #[Pv a.heap.size 0] 130;have q:(a.alloc (.cells #[Iv 0,Iv 0,Iv 0,Nv] 132)).heap.size=a.heap.size+1:=by simp
 generalize a.alloc (.cells #[Iv 0,Iv 0,Iv 0,Nv] 132)=s at *;rw[q] at o
 have r:(s.alloc (.cells #[Pv a.heap.size 0] 130)).heap.size=a.heap.size+1+1:=by simp[q]
 replace l:(s.alloc (.cells #[Pv a.heap.size 0] 130)).heap[a.heap.size]?=_:=(Below.heap_alloc _ _ _ (by omega)).trans l;generalize s.alloc (.cells #[Pv a.heap.size 0] 130)=n at *;have j:=v.trans ((ZP n (.cells (Qci e pm m.length cm pi inp.length ci most (a.heap.size+1)) 68)).mono v.size);have t:=Qe n (Qci e pm m.length cm pi inp.length ci most (a.heap.size+1)) 68;rw[r] at t
 have y:(n.alloc (.cells (Qci e pm m.length cm pi inp.length ci most (a.heap.size+1)) 68)).heap.size=a.heap.size+1+1+1:=by simp[r]
 replace l:(n.alloc (.cells (Qci e pm m.length cm pi inp.length ci most (a.heap.size+1)) 68)).heap[a.heap.size]?=_:=(Below.heap_alloc _ _ _ (by omega)).trans l;replace o:(n.alloc (.cells (Qci e pm m.length cm pi inp.length ci most (a.heap.size+1)) 68)).heap[a.heap.size+1]?=_:=(Below.heap_alloc _ _ _ (by omega)).trans o;generalize n.alloc (.cells (Qci e pm m.length cm pi inp.length ci most (a.heap.size+1)) 68)=B at *;clear u v q r;obtain⟨F,H⟩:∃ F,a.heap.size=F:=⟨_,Z⟩
 rw[H] at l o t y |-
 let ow:Nat->Nat:=fun x=>if x=F+1+1 then 1 else if d<=x/\x<b then 2 else if x=F+1 then 3 else if x=F then 5 else 0
 have z:∀ x,b<=x->x<F->ow x=0:=fun x N M=>by
  show (if x=F+1+1 then 1 else if d<=x/\x<b then 2 else if x=F+1 then 3 else if x=F then 5 else 0)=0;rw[Xr (by omega),Xr (by omega),Xr (by omega),Xr (by omega)]
 have w:∀ x,ow x≠0->d<=x/\x<F+1+1+1:=fun x h=>by
  have h:(if x=F+1+1 then 1 else if d<=x/\x<b then 2 else if x=F+1 then 3 else if x=F then 5 else 0)≠0:=h;split at h
  ·omega
  ·split at h
   ·omega
   ·split at h
    ·omega
    ·split at h
     ·omega
     ·exact absurd Z h
 refine⟨⟨ow,e,bp,pm,cm,pi,ci,.slice (some ⟨F+1,0,none⟩) 1 1,Nv,Nv,⟨F,Nv⟩,[],lo,b⟩,⟨t,?_,?_,?_,J,?_,⟨none,0,Z,fun i E=>by simp[RM.start] at E⟩,⟨Z,.inl ⟨Z,Z⟩⟩,?_,Xs Z,fun x c=>?_,fun x c=>by simp[Value.ownBlock] at c,fun x c=>?_,?_⟩,fun x c=>(w x c).1,Z,Z⟩
 ·have k:=D.step (P:=fun _=>False) (P':=fun _=>False) (w':=B) ⟨j.os,j.tape,j.output,j.size,fun x c _=>j.block x c,fun _ h=>h.elim⟩ (fun _ _ h=>h);refine⟨k.1.mono (fun x c _=>?_),k.2⟩
  show (if x=F+1+1 then 1 else if d<=x/\x<b then 2 else if x=F+1 then 3 else if x=F then 5 else 0)=2;rw[Xr (by omega),Xs c]
 ·exact(QaM 6).keep (fun k f p=>j.block k p) (fun k f p=>⟨z k f (by omega),f,by show k<F+1+1;omega⟩) C
 ·exact intsL.keep (fun k f p=>j.block k p) (fun k f p=>⟨z k f (by omega),f,by show k<F+1+1;omega⟩) I
 ·exact⟨Z,.inr ⟨F+1,1,#[Pv F 0],Z,Xb _,o,Ze,by unfold maxLen;omega,Z,Z⟩⟩
 ·refine⟨⟨⟨l,⟨Z,.inl ⟨Z,Z⟩⟩⟩,?_,fun k f=>by simp[Value.ownBlock] at f⟩,Y⟩
  show (if F=F+1+1 then 1 else if d<=F/\F<b then 2 else if F=F+1 then 3 else if F=F then 5 else 0)=5;rw[Xr (by omega),Xr (by omega),Xr (by omega),Xs Z]
 ·have:x=F+1:=by simpa[Value.ownBlock] using c.symm
  subst this;show (if F+1=F+1+1 then 1 else if d<=F+1/\F+1<b then 2 else if F+1=F+1 then 3 else if F+1=F then 5 else 0)=3;rw[Xr (by omega),Xr (by omega),Xs Z]
 ·rw[y];exact(w x c).2
 ·show lo<=B.heap.size;omega
def QiY (w:World) (m:List (MFunc 6)) (inp:List Int) (most pages:Nat) (e:Ending) (w':World):Prop :=
 ∃ b g,e=.returned (.tuple #[Pv b 0,Qbv 0 0])/\WAt w' b most m (RM.start inp pages) g/\(∀ x,g.A x->w.heap.size<=x)/\w.heap.size<=b/\(g.lo=w.heap.size/\w.heap.size<=g.lk)/\Below w.heap.size w w'
theorem Qgd {m:List (MFunc 6)}(hM:(QaM 6).In w All m [.slice pm m.length cm]) (hs:Qbe m) (hI:intsL.In w All inp [.slice pi inp.length ci]) (s:∀ x∈inp,Qnk x) (hi:inp.length<=200) (hf:most<=20000) (hp:pages<=64){a0:Int}
 (CV:∀ wx,Below w.heap.size w wx->Calls prog 66 #[.agg #[.slice pm m.length cm]] wx fun e w'=>e=.returned (Qbv 0 a0)/\Below wx.heap.size wx w') :
 Calls prog 32 #[.agg #[.slice pm m.length cm],.slice pi inp.length ci,Iv (most:Int),Iv (pages:Int)] w fun e w'=>QiY w m inp most pages e w':=by
 have HM:=Qc hM;have HS:=Qc hs;have HI:=Qc hI;have ab:=Qc s;have HL:=Qc (Xh hi (Xh hf hp));have n:=Qc (Qj6 w (.cells #[.slice pm m.length cm] 24) (.cells #[Iv 0,Iv 0] 32));have M:=Qc CV;have d1:decide ((inp.length:Int)>200)=false:=Xu (by omega);have d2:decide ((most:Int)<0)=false:=Xu (by omega);have d3:decide ((most:Int)>20000)=false:=Xu (by omega);clear hM hs hI s hi hf hp CV;go_enter func32,ntmps32
 go_upto_region 1 with fail
 have G:Hid (Blk ((w.alloc (.cells #[.slice pm m.length cm] 24)).alloc (.cells #[Iv 0,Iv 0] 32)) w.heap.size #[.slice pm m.length cm] 24):=QnJ w #[.slice pm m.length cm] 24 _;have O:Hid (Blk ((w.alloc (.cells #[.slice pm m.length cm] 24)).alloc (.cells #[Iv 0,Iv 0] 32)) (w.heap.size+1) #[Iv 0,Iv 0] 32):=QmO w _ #[Iv 0,Iv 0] 32;generalize (w.alloc (.cells #[.slice pm m.length cm] 24)).alloc (.cells #[Iv 0,Iv 0] 32)=w2 at n G O |-;obtain⟨Y,hY⟩:∃ Y,w.heap.size+1=Y:=⟨_,Z⟩
 have HY:Hid (w.heap.size<=Y):=by show _<=_;omega
 rw[hY] at O |-
 clear hY;have x0:=Qb G.out 0 _ Z;generalize hX:w.heap.size=X at x0 G |-;have t:=Qc (M.out w2 n.out);go_upto_region 2 with (go_at_call 66;refine t.out.mono ?_;rintro e' D ⟨rfl,V⟩)
 have B:=Qe D #[Iv 0,Iv a0] 32;have C:=Qc (V.trans ((ZP D (.cells #[Iv 0,Iv a0] 32)).mono V.size));clear V t;generalize D.alloc (.cells #[Iv 0,Iv a0] 32)=N at B C |-;generalize D.heap.size=F at B |-;have c0:=Qb B 0 _ Z;clear B x0;have CE:=Qc (QkC N pages HL.out.2.2);go_upto_region 7 with (go_at_call 67;refine CE.out.mono ?_;rintro e' i ⟨be,bp,rfl,hE,H⟩)
 clear c0 CE;have B6:=Qc (H.trans ((ZP i (.cells #[Iv 0,Iv 0] 32)).mono H.size));have z:=Qc (hE.step (P:=fun _=>False) (P':=fun _=>False) (w':=i.alloc (.cells #[Iv 0,Iv 0] 32)) ⟨Z,Z,Z,by simp,fun x f _=>Below.heap_alloc _ _ _ f,fun _ h=>h.elim⟩ (fun _ _ h=>h));have j:Hid (N.heap.size<=i.heap.size/\i.heap.size<=(i.alloc (.cells #[Iv 0,Iv 0] 32)).heap.size):=⟨H.size,by simp⟩;have A:=Qe i #[Iv 0,Iv 0] 32;clear hE H;generalize i.alloc (.cells #[Iv 0,Iv 0] 32)=o at B6 z j A |-;generalize i.heap.size=I at z j A |-;have g0:=Qb A 0 _ Z;clear A;have BW:=Qc (C.out.trans (B6.out.mono C.out.size));have X6:=Qk (Qb G.out 0 _ Z) BW.out;have E:=Qc (n.out.trans (BW.out.mono n.out.size));go_upto_region 9 with fail
 have CO:=Qc (QgL m pm cm o (Ya HM.out E.out) HS.out);have t:Hid (∀ wx,Below o.heap.size o wx->Calls prog 48 #[.slice pi inp.length ci] wx fun e w'=>Qco wx inp e w'):=fun wx bx=>Qht (Ya (Ya HI.out E.out) bx) (by have:=HL.out.1;omega);clear g0;have aa:=Qc (Blk.below O.out BW.out);go_wp2_with (first | (go_at_call 47;refine CO.out.mono ?_;rintro e' w7 ⟨v7,rfl,⟨a7,J,rfl,u⟩,b⟩) | (go_at_call 48;refine(t.out _ b).mono ?_;rintro e' c ⟨Q,c8,rfl,U,q,r,d⟩;have B9:=(Qj6 c (.cells #[Iv 0,Iv 0,Iv 0,Nv] 132) (.cells #[Pv c.heap.size 0] 130)).alloc (by simp;omega) (.cells #[Pv be 0,.slice a7 m.length J,.slice Q inp.length c8,Iv (most:Int),.slice (some ⟨c.heap.size+1,0,none⟩) 1 1,Iv 0,Nv,Nv,Iv 0,.bool false] 68);have a:=Blk.below (Blk.below (Blk.below aa.out b) d) B9;have y0:=Qb a 0 _ Z;have y1:=Qb a 1 _ Z;have z0:=Qj a 0;have z1:=Qj a 1))
 have af:o.heap.size<=w7.heap.size:=b.size;have ad:=d.size;have E8:=(z.out.step (P:=fun _=>False) (P':=fun _=>False) (w':=w7) ⟨b.os,b.tape,b.output,b.size,fun x f _=>b.block x f,fun _ h=>h.elim⟩ (fun _ _ h=>h)).step (P:=fun _=>False) (P':=fun _=>False) (w':=c) ⟨d.os,d.tape,d.output,d.size,fun x f _=>d.block x f,fun _ h=>h.elim⟩ (fun _ _ h=>h);obtain⟨S,ac⟩:=j.out
 have M8:(QaM 6).In c (fun x=>I<=x) m [.slice a7 m.length J]:=Ya (Yc u (fun k R _=>by have R:o.heap.size<=k:=R;show I<=k;omega)) d;have I8:intsL.In c (fun x=>I<=x) inp [.slice Q inp.length c8]:=QkK q ab.out (fun x f=>by have:=r x f;show I<=x;omega);have T:w.heap.size<=N.heap.size:=Zt n.out.size C.out.size;obtain⟨g,A9,hg,L,ae⟩:=WAt.begin (most:=most) (lo:=w.heap.size) E8 M8 I8 U (by omega) S (by omega)
 have C9:=E.out.trans ((b.trans ((d.trans (B9.mono d.size)).mono b.size)).mono E.out.size);have K:w.heap.size<=c.heap.size+1+1:=by omega
 have p:w.heap.size<=g.lk:=by omega
 clear y0 y1 z0 z1 B9 E8 M8 I8 u q r b d CO t z;generalize ((c.alloc (.cells #[Iv 0,Iv 0,Iv 0,Nv] 132)).alloc (.cells #[Pv c.heap.size 0] 130)).alloc (.cells (Qci be a7 m.length J Q inp.length c8 most (c.heap.size+1)) 68)=y at *
 have W:((y.setCell ⟨Y,0,none⟩ (Iv 0)).setCell ⟨Y,1,none⟩ (Iv 0)).heap[Y]?=some (.cells #[Iv 0,Iv 0] 32 (0,0)):=by
  rw[Qh (Qh a 0 _) 1 _]
  simp
 have l:Below y.heap.size y ((y.setCell ⟨Y,0,none⟩ (Iv 0)).setCell ⟨Y,1,none⟩ (Iv 0)):=⟨Z,Z,Z,by simp,fun k R=>by
  by_cases e:k=Y
  ·subst e;exact W.trans a.symm
  ·rw[Xd _ _ _ _ e,Xd _ _ _ _ e]⟩
 have f0:=Qb W 0 _ Z;have f1:=Qb W 1 _ Z;exact Xy (v:=.tuple #[Pv (c.heap.size+1+1) 0,Qbv 0 0]) (by simp[results,results32,go_sem,f0,f1]) Z ⟨_,g,Z,A9.below l,fun x f=>Zt T (hg x f),K,⟨L,p⟩,C9.trans (l.mono C9.size)⟩
section
variable {m:List (MFunc 6)}{op:Int->Int->Int->Option Int}{R N r:RM}{x:Qt}{most:Nat}
theorem QdJ (h size:Int) (l:List Int):(R.thing h size l).fuel=R.fuel/\(R.thing h size l).back=R.back:=by
 unfold RM.thing;split<;>exact⟨Z,Z⟩
theorem Qi1 (h:R.part x=some r):r.fuel=R.fuel/\r.back=R.back:=by
 unfold RM.part at h;repeat' split at h
 all_goals first | (cases h;done) | (cases h;exact⟨Z,Z⟩)
def FuO (f:Nat) (k:List Int) (o:Option RM):Prop:=∀ N,o=some N->N.fuel=f/\N.back=k
theorem FuO.no {k:List Int}:FuO f k none:=fun N h=>by cases h
theorem FuO.some {k:List Int}(h:R.fuel=f/\R.back=k):FuO f k (some R):=fun N e=>by cases e;exact h
theorem FuO.ite {k:List Int}{c:Prop}[Decidable c] {a b:Option RM}(e:c->FuO f k a) (d:¬ c->FuO f k b):FuO f k (if c then a else b):=by
 by_cases h:c
 ·rw[Xs h];exact e h
 ·rw[Xr h];exact d h
theorem ins_fuO:FuO R.fuel R.back (RM.ins op R x):=by
 unfold RM.ins;refine FuO.ite (fun _=>.some ⟨Z,Z⟩) fun _=>FuO.ite (fun _=>?_) fun _=>FuO.ite (fun _=>FuO.ite (fun _=>.some ⟨Z,Z⟩) (fun _=>.some ⟨Z,Z⟩)) fun _=>FuO.ite (fun _=>?_) fun _=>FuO.ite (fun _=>?_) fun _=>FuO.ite (fun _=>?_) fun _=>FuO.ite (fun _=>?_) fun _=>FuO.ite (fun _=>?_) fun _=>FuO.ite (fun e=>FuO.ite (fun d=>?_) (fun _=>.some ⟨Z,Z⟩)) (fun _ N h=>Qi1 h)
 ·cases iAt R.top.v x.a with
  | none=>exact .no
  | some a =>
    cases iAt R.top.v x.b with
    | none=>exact .no
    | some b =>
      simp only
      cases op x.k a b with
      | none=>exact .some ⟨Z,Z⟩
      | some c=>exact .some ⟨Z,Z⟩
 ·cases iAt R.top.v x.a with
  | none=>exact .no
  | some a=>exact .some ⟨Z,Z⟩
 ·cases iAt R.top.v x.a with
  | none=>exact .no
  | some a=>cases Qaz R.top.v x.args with
    | none=>exact .no
    | some l=>exact .some (QdJ _ _ _)
 ·cases iAt R.top.v x.a with
  | none=>exact .no
  | some a=>cases iAt R.top.v x.b with
    | none=>exact .no
    | some k=>exact FuO.ite (fun _=>.some (QdJ _ _ _)) (fun _=>.some ⟨Z,Z⟩)
 ·cases R.inp with
  | nil=>exact .some ⟨Z,Z⟩
  | cons k l=>exact .some ⟨Z,Z⟩
 ·cases iAt R.top.v x.a with
  | none=>exact .no
  | some a=>exact FuO.ite (fun _=>.some ⟨Z,Z⟩) (fun _=>.some ⟨Z,Z⟩)
 ·cases Qaz R.top.v x.args with
  | none=>exact .no
  | some l=>exact .some ⟨Z,Z⟩
theorem QjX (h:RM.ins op R x=some r):r.fuel=R.fuel/\r.back=R.back:=ins_fuO r h
theorem Qea {t:MTo}(h:R.to t=some r):r.fuel=R.fuel/\r.back=R.back:=by
 unfold RM.to at h;split at h
 ·cases h
 ·cases h;exact⟨Z,Z⟩
theorem Qi0 {e:ZA}(h:R.endd e=some r):r.fuel=R.fuel/\(r.done=true\/r.back=R.back):=by
 unfold RM.endd at h;split at h
 ·split at h
  ·cases h
  ·split at h
   ·cases h;exact⟨Z,.inl Z⟩
   ·cases h;exact⟨Z,.inr Z⟩
 ·split at h
  ·split at h
   ·cases h
   ·split at h<;>exact⟨(Qea h).1,.inr (Qea h).2⟩
  ·exact⟨(Qea h).1,.inr (Qea h).2⟩
theorem Qg0 (a:N.fuel<=most) (h:RM.step m op most N=some r):r.fuel<=most/\(r.done=false->r.fuel=N.fuel+1/\r.back=N.back):=by
 unfold RM.step at h;split at h
 ·cases h;exact⟨a,fun h=>by cases h⟩
 split at h
 ·cases h
 split at h
 ·cases h
 split at h
 ·have q:r.fuel=N.fuel+1/\r.back=N.back:=QjX h;exact⟨by omega,fun _=>q⟩
 ·obtain⟨q,k⟩:r.fuel=N.fuel+1/\(r.done=true\/r.back=N.back):=Qi0 h
  exact⟨by omega,fun e=>⟨q,k.resolve_left (by rw[e];decide)⟩⟩
theorem rsteps_snoc:∀ (k:Nat) (R:RM),RM.steps m op most (k+1) R=(match RM.steps m op most k R with
 | none=>none
 | some N=>if N.done then some N else RM.step m op most N)
 | 0,R=>by
   simp only[RM.steps]
   split
   ·rfl
   ·cases RM.step m op most R<;>rfl
 | k+1,R=>by
   rw[RM.steps]
   split
   ·rename_i a
    rw[RM.steps,Xs a]
    simp[a]
   ·rename_i a
    rw[RM.steps,Xr a]
    cases RM.step m op most R with
    | none=>rfl
    | some R'=>exact rsteps_snoc k R'
theorem QfK (h:RM.steps m op most k R=some N) (b:N.done=true):∀ n,k<=n->RM.steps m op most n R=some N:=fun n a=>by
 obtain⟨j,rfl⟩:=Nat.le.dest a
 clear a
 induction j with
 | zero=>exact h
 | succ j ih=>rw[<-Nat.add_assoc,rsteps_snoc,ih];simp[b]
theorem Qd0 (H:(Qq m).1=0) (inp:List Int)(a:pages<=64) (n:Nat):∃ N,RM.steps m op most n (RM.start inp pages)=some N:=by
 obtain⟨c,b,-,h,-⟩:=QkU (op:=op) (most:=most) H inp a n
 exact⟨b,h⟩
end
def QfO (m:List (MFunc 6)) (most:Nat) (R0:RM):Prop:=∀ k,∃ N,RM.steps m aOp most k R0=some N
structure Qey (wL w:World) (b most:Nat) (m:List (MFunc 6)) (R0 N:RM) (g:WG) (k:Nat):Prop where
 at_:WAt w b most m N g
 far:∀ x,g.A x->wL.heap.size<=x
 bel:Below wL.heap.size wL w
 st:RM.steps m aOp most k R0=some N
 fu:N.done=false->N.fuel=k
 le:N.fuel<=most
 bk:N.done=false->N.back=[]
def boolW:Value->Bool
 | .bool b=>b
 | _=>false
def Qj0 (b most:Nat) (w:World):Nat:=if boolW ((w.cell? ⟨b,9,none⟩).getD undef) then 0 else most+1 - (intOf ((w.cell? ⟨b,8,none⟩).getD undef)).toNat+1
section
variable {wL w w':World}{b most k:Nat}{m:List (MFunc 6)}{R0 N:RM}{g:WG}
theorem WAt.left (S:WAt w b most m N g):Qj0 b most w=if N.done then 0 else most+1 - N.fuel+1:=by
 unfold Qj0;have d:w.cell? ⟨b,9,none⟩=some (.bool N.done):=Qb S.box 9 _ Z;have c:w.cell? ⟨b,8,none⟩=some (Iv N.fuel):=Qb S.box 8 _ Z;rw[d,c]
 by_cases a:N.done=true
 ·simp[a,boolW]
 ·simp[a,intOf,boolW]
theorem Qey.below (Z:Qey wL w b most m R0 N g k) (h:Below w.heap.size w w'):Qey wL w' b most m R0 N g k:=⟨Z.at_.below h,Z.far,Z.bel.trans (h.mono Z.bel.size),Z.st,Z.fu,Z.le,Z.bk⟩
theorem WAt.high (S:WAt w b most m N g) (h:N.back=[]):WAt w b most m N { g with lo:=w.heap.size } :=
 ⟨S.box,S.est,S.mod,S.inp,S.inpC,S.calls,by
  obtain⟨p,c,e,-⟩:=S.back
  exact⟨p,c,e,fun i a=>by rw[h] at a;exact absurd a (XG i)⟩,S.out,S.frs,S.ob,S.oc,S.oo,S.lt,Ze⟩
theorem Qey.go (l:(modFault m).1=0) (u:most<=20000) (t:QfO m most R0) (s:ROk m 0 R0) (Z:Qey wL w b most m R0 N g k) (d:N.done=false) :
 Calls prog 34 #[Pv b 0] w fun e w'=>e=.returned (.tuple #[])/\∃ N' g',Qey wL w' b most m R0 N' g' (k+1)/\Qz g.A g'.A w w'/\(g'.lo=w.heap.size/\g'.lk=g.lk)/\(N'.done=false->N'.fuel=N.fuel+1):=by
 obtain⟨r,n⟩:=t (k+1)
 have a:=n;rw[rsteps_snoc,Z.st] at a
 simp only[d] at a
 have a:RM.step m aOp most N=some r:=by simpa using a
 have o:=Z.fu d;have f:=Z.le;have I:=QcR l s k Z.st;obtain⟨q,i⟩:=Qg0 f a
 refine(QiC (Z.at_.high (Z.bk d)) I (by omega) l f (by omega) d a).mono ?_
 rintro e w' ⟨rfl,g',p,c⟩;refine⟨Yz,r,g',⟨p,fun x j=>?_,?_,n,fun h=>by rw[(i h).1,o],q,fun h=>by rw[(i h).2,Z.bk d]⟩,c.1,⟨c.lo,c.lk⟩,fun h=>(i h).1⟩
 ·rcases c.own x j with e | e
  ·exact Z.far x e
  ·have:=Z.bel.size;omega
 ·exact⟨c.os.trans Z.bel.os,c.tape.trans Z.bel.tape,c.output.trans Z.bel.output,Zt Z.bel.size c.size,fun x j=>(c.block x (by have:=Z.bel.size;omega) (fun e=>by have:=Z.far x e;omega)).trans (Z.bel.block x j)⟩
theorem Qey.end_ (Z:Qey wL w b most m R0 N g k) (a:k<=most+1) (c:N.done=true):RM.steps m aOp most (most+1) R0=some N:=QfK Z.st c _ a
def Qek (w:World) (m:List (MFunc 6)) (inp:List Int) (most pages:Nat) (e:Ending) (w':World):Prop :=
 ∃ N v,RM.steps m aOp most (most+1) (RM.start inp pages)=some N/\N.done=true/\QjH w.heap.size N v w'/\e=.returned (.tuple #[v,Qbv 0 0])/\Below w.heap.size w w'
theorem Qkf (hm:(modFault m).1=0) (K:most<=20000) (HS:QfO m most (RM.start inp pages)) (I0:ROk m 0 (RM.start inp pages))
 (P:∀ wx,Below w.heap.size w wx->Calls prog 32 #[.agg #[.slice pm m.length cm],.slice pi inp.length ci,Iv (most:Int),Iv (pages:Int)] wx fun e w'=>QiY wx m inp most pages e w') :
 Calls prog 30 #[.agg #[.slice pm m.length cm],.slice pi inp.length ci,Iv (most:Int),Iv (pages:Int)] w fun e w'=>Qek w m inp most pages e w':=by
 have d:=((((Bxs.start w).new #[.slice pm m.length cm] 24)).new #[Iv 0,Nv,Nv,Iv 0] 44).new #[Iv 0,Iv 0] 32;rw[World.size_alloc,World.size_alloc] at d
 have d:=Qc d;have HM:=Qc hm;have HI:=Qc I0;have W:=Qc K;have ai:=Qc HS;have af:=Qc P;clear hm I0 K HS P;go_enter func30,ntmps30
 go_upto_region 1 with fail
 generalize ((w.alloc (.cells #[.slice pm m.length cm] 24)).alloc (.cells #[Iv 0,Nv,Nv,Iv 0] 44)).alloc (.cells #[Iv 0,Iv 0] 32)=u at d |-;have ad:Hid (w.heap.size<=w.heap.size+1):=by show _<=_;omega
 have ag:Hid (w.heap.size<=w.heap.size+1+1):=by show _<=_;omega
 generalize w.heap.size+1+1=h at d ag |-;generalize w.heap.size+1=c at d ad |-;generalize hX:w.heap.size=X at d |-;have HX:=Qc hX;have P:=Qc (af.out u (by rw[<-HX.out] at d;exact d.out.bel));have x0:u.cell? ⟨X,0,none⟩=some (.slice pm m.length cm):=d.out.cell (a:=[_,_]) 0 _ Yz;go_upto_region 2 with (go_at_call 32;refine P.out.mono ?_;rintro T o ⟨b,g,rfl,S4,R,ac,G,Q⟩)
 have U:=Qc ((d.out.below Q).new #[Iv 0,Iv 0] 32);have V:Hid (Qey u (o.alloc (.cells #[Iv 0,Iv 0] 32)) b most m (RM.start inp pages) (RM.start inp pages) g 0):=⟨S4.below (ZP _ _),R,Q.trans ((ZP _ _).mono Q.size),Yz,fun _=>rfl,Xb _,fun _=>rfl⟩;have ah:Hid (u.heap.size<=o.heap.size):=Q.size;clear S4 R ac G Q P x0;have ap:=Qc d.out.bel
 have O:Hid (u.heap.size<=o.heap.size/\o.heap.size<(o.alloc (.cells #[Iv 0,Iv 0] 32)).heap.size):=by
  constructor
  ·exact ah.out
  ·simp
 clear hX;generalize o.alloc (.cells #[Iv 0,Iv 0] 32)=w5 at U V O |-;generalize o.heap.size=F at U O |-;have f0:w5.cell? ⟨F,0,none⟩=some (Iv 0):=U.out.cell (a:=[]) 0 _ Yz;go_upto_region 4 with fail
 clear f0;go_loopw [] (fun wr=>∃ N g k,Qey u wr b most m (RM.start inp pages) N g k/\k<=most+1) (fun wr=>Qj0 b most wr)
 case atStart=>exact⟨_,_,_,V.out,Xb _⟩
 case round =>
  obtain⟨N,g',k,Z,hk⟩:=hrel
  have M:=Qc (QeN Z.at_)
  cases hd:N.done with
  | false =>
    have C:=Qc (Z.go HM.out W.out ai.out HI.out hd);have HL:=Qc Z.at_.left;rw[hd] at M HL
    have aq:=Z.le;have ae:k+1<=most+1:=by have:=Z.fu hd;omega
    clear Z hd;go_wp2_with (first | (go_at_call 33;refine M.out.mono ?_;rintro T w' ⟨rfl,p⟩;have p:=p.symm;subst p) | (go_at_call 34;refine C.out.mono ?_;rintro T w6 ⟨rfl,N',g6,Z6,T6,-,aa⟩))
    go_roundw
    case rel=>exact⟨N',g6,_,Z6,ae⟩
    case measure =>
     rw[HL.out,Z6.at_.left]
     have h6:=Z6.le
     cases hd6:N'.done with
     | true=>simp
     | false=>have:=aa hd6;simp;omega
  | true =>
    have al:=Qc (Z.end_ hk hd);have HD:=Qc hd
    have HK:Hid (N.out.length<=1000000/\N.back.length<=1000000):=by
     have J:=QcR HM.out HI.out k Z.st;exact⟨by have:=J.out.1;omega,by have:=J.out.2;omega⟩
    have CO:=Qc (Qcl Z.at_ HK.out.1 HK.out.2);have B:=Qc (d.out.below Z.bel);have am:Hid (c<wr.heap.size/\h<wr.heap.size):=⟨(B.out.at (a:=[_])).lt,(B.out.at (a:=[])).lt⟩;have ak:Hid (w.heap.size<=wr.heap.size):=B.out.bel.size;rw[hd] at M
    clear Z hd hk;go_upto_region 6 with (go_at_call 33;refine M.out.mono ?_;rintro T w' ⟨rfl,p⟩;have p:=p.symm;subst p)
    go_wp2_with fail
    refine CO.out.mono ?_;rintro T w8 ⟨v,rfl,⟨vb,vo,rfl,⟨t,r,rfl,A,H,I⟩,⟨y,s,rfl,D,z,E⟩⟩,b8⟩;have f:=Qc (B.out.below b8);have r0:=f.out.cell (a:=[_]) 0 _ Yz;have r1:=f.out.cell (a:=[_]) 1 _ Yz;have r2:=f.out.cell (a:=[_]) 2 _ Yz;have r3:=f.out.cell (a:=[_]) 3 _ Yz;have z0:=f.out.free (a:=[_]) 0;have z1:=f.out.free (a:=[_]) 1;have z2:=f.out.free (a:=[_]) 2;have z3:=f.out.free (a:=[_]) 3;have s0:=f.out.cell (a:=[]) 0 _ Yz;have s1:=f.out.cell (a:=[]) 1 _ Yz;have y0:=f.out.free (a:=[]) 0;have y1:=f.out.free (a:=[]) 1;have aj:¬ c=h:=fun e=>by have:=f.out.nd;simp[e] at this
    have an:¬ h=c:=fun e=>aj e.symm;have j:=Qc (Xh A (Xh H I));have i:=Qc (Xh D (Xh z E));clear A H I D z E b8 CO M d U B V;go_wp2_with fail
    have n:=(((((f.out.set (a:=[_]) 0 (Iv N.fin)).set (a:=[_]) 1 (.slice t N.back.length r)).set (a:=[_]) 2 (.slice y N.out.length s)).set (a:=[_]) 3 (Iv N.fuel)).set (a:=[]) 0 (Iv 0)).set (a:=[]) 1 (Iv 0)
    have KK:∀ x,wr.heap.size<=x->((((((w8.setCell ⟨c,0,none⟩ (Iv N.fin)).setCell ⟨c,1,none⟩ (.slice t N.back.length r)).setCell ⟨c,2,none⟩ (.slice y N.out.length s)).setCell ⟨c,3,none⟩ (Iv N.fuel)).setCell ⟨h,0,none⟩ (Iv 0)).setCell ⟨h,1,none⟩ (Iv 0)).heap[x]?=w8.heap[x]?:=fun x l=>by
     have h1:=am.out;have S:x≠c:=by omega
     have n9:x≠h:=by omega
     rw[Xd _ _ _ _ n9,Xd _ _ _ _ n9,Xd _ _ _ _ S,Xd _ _ _ _ S,Xd _ _ _ _ S,Xd _ _ _ _ S]
    generalize ((((((w8.setCell ⟨c,0,none⟩ (Iv N.fin)).setCell ⟨c,1,none⟩ (.slice t N.back.length r)).setCell ⟨c,2,none⟩ (.slice y N.out.length s)).setCell ⟨c,3,none⟩ (Iv N.fuel)).setCell ⟨h,0,none⟩ (Iv 0)).setCell ⟨h,1,none⟩ (Iv 0))=q at n KK |-;have f0:q.cell? ⟨c,0,none⟩=some (Iv N.fin):=n.cell (a:=[_]) 0 _ Yz;have f1:q.cell? ⟨c,1,none⟩=some (.slice t N.back.length r):=n.cell (a:=[_]) 1 _ Yz;have f2:q.cell? ⟨c,2,none⟩=some (.slice y N.out.length s):=n.cell (a:=[_]) 2 _ Yz;have f3:q.cell? ⟨c,3,none⟩=some (Iv N.fuel):=n.cell (a:=[_]) 3 _ Yz;have q0:q.cell? ⟨h,0,none⟩=some (Iv 0):=n.cell (a:=[]) 0 _ Yz;have q1:q.cell? ⟨h,1,none⟩=some (Iv 0):=n.cell (a:=[]) 1 _ Yz;have L:=ak.out
    exact Xy (v:=.tuple #[.agg #[Iv N.fin,.slice t N.back.length r,.slice y N.out.length s,Iv N.fuel],Qbv 0 0]) (by simp[results,results30,go_sem,f0,f1,f2,f3,q0,q1]) Yz
     ⟨N,_,al.out,HD.out,⟨_,_,Yz,⟨t,r,Yz,j.out.1,QY j.out.2.1 (fun x l=>KK x (j.out.2.2 x l)),fun x l=>Zt L (j.out.2.2 x l)⟩,⟨y,s,Yz,i.out.1,QY i.out.2.1 (fun x l=>KK x (i.out.2.2 x l)),fun x l=>Zt L (i.out.2.2 x l)⟩⟩,Yz,n.bel⟩
end
section
variable {wL w w':World}{b bx by_ most j k s F:Nat}{m o:List (MFunc 6)}{R X0 Y0 X Y:RM}{g gx gy:WG}{O O':Nat->Prop}{ff:Array Value}{T:TypeId}
theorem WAt.other (S:WAt w b most m R g) (T:Qz O O' w w') (e:∀ x,g.A x->¬ O x) (f:∀ x,g.lk<=x->x<b->¬ O x) (h:WIn w (fun x=>(g.ow x=0/\g.lo<=x)/\¬ O x) R.back g.vb):WAt w' b most m R g:=by
 have d:∀ x,g.A x->w'.heap[x]?=w.heap[x]?:=fun x a=>T.block x (S.lt x a) (e x a);have i:=S.est.step (P:=O) (P':=O') T (fun x a=>e x (by show g.ow x≠0;have a:g.ow x=2:=a;omega));refine⟨(d b (by show g.ow b≠0;rw[S.ob];decide)).trans S.box,?_,?_,?_,S.inpC,QY S.calls (fun x a=>d x (by show g.ow x≠0;rw[S.oc x a];decide)),?_,QY S.out (fun x a=>d x (by show g.ow x≠0;rw[S.oo x a];decide)),S.frs.keep (fun _ _=>rfl) (fun x a j _=>d x (by show g.ow x≠0;omega)),S.ob,S.oc,S.oo,fun x a=>Zl (S.lt x a) T.size,Zt S.low T.size⟩
 ·exact i
 ·exact(QaM 6).keep (fun x a c=>T.block x c (f x a.2.1 a.2.2)) (fun x a _=>a) S.mod
 ·exact intsL.keep (fun x a c=>T.block x c (f x a.2.1 a.2.2)) (fun x a _=>a) S.inp
 ·exact WIn.keep (fun x a c=>T.block x c a.2) (fun x a _=>a.1) h
structure Qdr (wL w:World) (bx by_ most:Nat) (m o:List (MFunc 6)) (X0 Y0 X Y:RM) (gx gy:WG) (j k s F:Nat) (ff:Array Value) (T:TypeId):Prop where
 x:Qey wL w bx most m X0 X gx j
 y:Qey wL w by_ most o Y0 Y gy k
 ap:∀ z,gx.A z->¬ gy.A z
 ys:∀ z,gy.A z->s<=z
 xs:∀ z,gx.A z->z<s\/by_<z
 bs:bx<s
 ly:s<=gy.lk
 xb:WIn w (fun z=>(gx.ow z=0/\gx.lo<=z)/\¬ gy.A z) X.back gx.vb
 yb:WIn w (fun z=>(gy.ow z=0/\gy.lo<=z)/\¬ gx.A z) Y.back gy.vb
 fb:w.heap[F]?=some (.cells ff T (0,0))
 fx:¬ gx.A F
 fy:¬ gy.A F
theorem Qdr.goX (p:(modFault m).1=0) (i:most<=20000) (C:QfO m most X0) (v:ROk m 0 X0) (Z:Qdr wL w bx by_ most m o X0 Y0 X Y gx gy j k s F ff T) (B:X.done=false) :
 Calls prog 34 #[Pv bx 0] w fun e w'=>e=.returned (.tuple #[])/\∃ X' gx',Qdr wL w' bx by_ most m o X0 Y0 X' Y gx' gy (j+1) k s F ff T/\(X'.done=false->X'.fuel=X.fuel+1):=by
 refine(Z.x.go p i C v B).mono ?_
 rintro e w' ⟨rfl,X',gx',f,b,⟨u,r⟩,t⟩;have H:=XC Z.y.at_.box;have n:=XC Z.fb;have g:∀ z,z<w.heap.size->¬ gx.A z->¬ gx'.A z:=fun z a h e=>(b.own z e).elim h (fun q=>by omega);refine⟨Yz,X',gx',⟨f,⟨Z.y.at_.other b (fun z G d=>Z.ap z d G) (fun z E D d=>?_) Z.yb,Z.y.far,f.bel,Z.y.st,Z.y.fu,Z.y.le,Z.y.bk⟩,fun z h c=>?_,Z.ys,fun z h=>?_,Z.bs,Z.ly,?_,?_,(b.block F n Z.fx).trans Z.fb,g F n Z.fx,Z.fy⟩,t⟩
 ·have I:=Z.ly;rcases Z.xs z d with e | e<;>omega
 ·exact g z (Z.y.at_.lt z c) (fun e=>Z.ap z e c) h
 ·rcases b.own z h with e | e
  ·exact Z.xs z e
  ·exact .inr (by omega)
 ·exact WIn.keep (fun _ _ _=>rfl) (fun z a _=>⟨a,fun c=>by
   have E:=Z.y.at_.lt z c;have D:=a.2;omega⟩) f.at_.back
 ·exact WIn.keep (fun z a l=>b.block z l a.2) (fun z a l=>⟨a.1,g z l a.2⟩) Z.yb
theorem Qdr.goY (u:(modFault o).1=0) (i:most<=20000) (D:QfO o most Y0) (C:ROk o 0 Y0) (Z:Qdr wL w bx by_ most m o X0 Y0 X Y gx gy j k s F ff T) :
 Calls prog 34 #[Pv by_ 0] w fun e w'=>e=.returned (.tuple #[])/\∃ Y' gy' k',Qdr wL w' bx by_ most m o X0 Y0 X Y' gx gy' j k' s F ff T:=by
 cases hd:Y.done with
 | true=>exact(Qg4 Z.y.at_ hd).mono fun e w' h=>⟨h.1,Y,gy,k,by rw[h.2];exact Z⟩
 | false =>
   refine(Z.y.go u i D C hd).mono ?_
   rintro e w' ⟨rfl,Y',gy',d,c,⟨B,f⟩,H⟩;have n:=XC Z.fb;have g:∀ z,z<w.heap.size->¬ gy.A z->¬ gy'.A z:=fun z a h e=>(c.own z e).elim h (fun q=>by omega);refine⟨Yz,Y',gy',k+1,⟨⟨Z.x.at_.other c (fun z G b=>Z.ap z G b) (fun z r p b=>?_) Z.xb,Z.x.far,d.bel,Z.x.st,Z.x.fu,Z.x.le,Z.x.bk⟩,d,fun z h b=>?_,fun z h=>?_,Z.xs,Z.bs,by rw[f];exact Z.ly,?_,?_,(c.block F n Z.fy).trans Z.fb,Z.fx,g F n Z.fy⟩⟩
   ·have E:=Z.ys z b;have v:=Z.bs;omega
   ·exact g z (Z.x.at_.lt z h) (Z.ap z h) b
   ·rcases c.own z h with e | e
    ·exact Z.ys z e
    ·have r:=Z.bs;have p:=Z.ly;have E:=XC Z.y.at_.box;have v:=Z.ys by_ (by show gy.ow by_≠0;rw[Z.y.at_.ob];decide);omega
   ·exact WIn.keep (fun z a l=>c.block z l a.2) (fun z a l=>⟨a.1,g z l a.2⟩) Z.xb
   ·exact WIn.keep (fun _ _ _=>rfl) (fun z a _=>⟨a,fun t=>by
     have r:=Z.x.at_.lt z t;have p:=a.2;omega⟩) d.at_.back
theorem Qdr.start {d:World}(a:Qey wL w2 bx most m X0 X0 gx 0) (r:bx<w2.heap.size) (q:WIn w2 (fun z=>(gx.ow z=0/\gx.lo<=z)/\z<w2.heap.size) X0.back gx.vb)
 (S:WAt d by_ most o (RM.start inp pages) gy) (f:∀ x,gy.A x->w2.heap.size<=x) (v:w2.heap.size<=by_) (b:w2.heap.size<=gy.lk) (g:Below w2.heap.size w2 d) (n:d.heap[F]?=some (.cells ff T (0,0))) (k:¬ gx.A F) (s:¬ gy.A F) :
 Qdr wL d bx by_ most m o X0 (RM.start inp pages) X0 (RM.start inp pages) gx gy 0 0 w2.heap.size F ff T:=by
 have j:=a.bel.size;refine⟨a.below g,⟨S,fun x h=>Zt j (f x h),a.bel.trans (g.mono j),Z,fun _=>rfl,Xb _,fun _=>rfl⟩,fun z h t=>?_,f,fun z h=>.inl (a.at_.lt z h),r,b,?_,?_,n,k,s⟩
 ·have:=a.at_.lt z h
  have:=f z t
  omega
 ·exact WIn.keep (fun z _ b=>g.block z b) (fun z u b=>⟨u.1,fun e=>by have:=f z e;omega⟩) q
 ·obtain⟨p,c,e,-⟩:=S.back
  exact⟨p,c,e,fun i l=>absurd l (XG i)⟩
end
theorem QjD (x:MTo) (a:Nat):x.form a true=if rangeC x.block 0 ((a:Int) - 1)=0 then handedC x.regs.length 16 x.args.length else rangeC x.block 0 ((a:Int) - 1):=by
 unfold MTo.form rangeC handedC manyC;simp only[Bool.true_eq_false,if_false]
 repeat' split
 all_goals omega
theorem QhG (x:MTo) (a:Nat):x.form a false=if x.block=0/\x.regs.length=0/\x.args.length=0 then 0 else 4:=by
 unfold MTo.form;simp only[if_true]
 repeat' split
 all_goals omega
theorem Qg1 (e:ZA) (b:Nat):e.form b=if e.op<1\/3<e.op then 3 else if (e.op≠2/\e.a≠0)\/(e.op≠3/\0<e.args.length) then 4 else if 8<e.args.length then 2
 else if e.yes.form b (e.op != 3)=0 then e.no.form b (e.op==2) else e.yes.form b (e.op != 3):=by
 unfold ZA.form;have i:decide (e.op≠3)=(e.op != 3):=by by_cases h:e.op=3<;>simp[h]
 have j:decide (e.op=2)=(e.op==2):=by by_cases h:e.op=2<;>simp[h]
 rw[i,j]
 by_cases f:e.op<1\/3<e.op
 ·simp[f]
 ·rw[Xr f,Xr f]
  by_cases c:(e.op≠2/\e.a≠0)\/(e.op≠3/\0<e.args.length)
  ·rw[Xs c,Xs (c.imp (fun h=>⟨h.2,h.1⟩) (fun h=>⟨h.2,h.1⟩))]
  ·rw[Xr c,Xr (fun h=>c (h.imp (fun h=>⟨h.2,h.1⟩) (fun h=>⟨h.2,h.1⟩)))]
   by_cases d:8<e.args.length
   ·simp[d]
   ·rw[Xr d,Xr d]
    by_cases g:e.yes.form b (e.op != 3)=0
    ·simp[g]
    ·simp[g]
theorem QlK {a:Int}{b c:Nat}{m j f:Option Addr}{e k h l i d:Nat}:Rd prog 230 #[.agg #[Iv fr,.slice m e k,.slice j h l,.slice f i d],.agg #[Iv a,.slice pR b cR,.slice pA c cA],.bool false] w (Iv (if a=0/\b=0/\c=0 then 0 else 4)):=by
 unfold Rd;rcases (show a=0/\b=0/\c=0\/¬ a=0\/a=0/\(0:Int)<b\/a=0/\b=0/\(0:Int)<c by omega) with ⟨rfl,rfl,rfl⟩ | g | ⟨rfl,g⟩|⟨rfl,rfl,g⟩
 rw[Xs ⟨Z,Z,Z⟩]
 rotate_left
 all_goals
  try rw[Xr (by omega)]
  try rw[<-bne_iff_ne,bne,Bool.not_eq_true'] at g
  go_enter func230,ntmps230
  go_wp2
  go_ret;exact⟨Z,QhA _ _ _⟩
theorem QlX {b:Int}{d c:Nat}{m r l:Option Addr}{j o q k a p:Nat}(F:a<2305843009213693952):Rd prog 230 #[.agg #[Iv fr,.slice m j o,.slice r q k,.slice l a p],.agg #[Iv b,.slice pR d cR,.slice pA c cA],.bool true] w (Iv (if rangeC b 0 ((a:Int) - 1)=0 then handedC d 16 c else rangeC b 0 ((a:Int) - 1))):=by
 have C:Hid (∀ f:World,Calls prog 262 #[Iv b,Iv 0,Iv ((a:Int) - 1)] f fun e t=>e=.returned (Iv (rangeC b 0 ((a:Int) - 1)))/\Below f.heap.size f t):=fun f=>QaE;have s:Hid (∀ f:World,Calls prog 264 #[.slice pR d cR,Iv 16,.slice pA c cA] f fun e t=>e=.returned (Iv (handedC d 16 c))/\Below f.heap.size f t):=fun f=>Qbh;generalize rangeC b 0 ((a:Int) - 1)=v at C |-;generalize handedC d 16 c=u at s |-;have i:Blk ((w.alloc (.cells #[Iv fr,.slice m j o,.slice r q k,.slice l a p] 89)).alloc (.cells #[Iv b,.slice pR d cR,.slice pA c cA] 82)) (w.heap.size+1) #[Iv b,.slice pR d cR,.slice pA c cA] 82:=Blk.new2 _ _ _ _;have g:Hid (Below w.heap.size w ((w.alloc (.cells #[Iv fr,.slice m j o,.slice r q k,.slice l a p] 89)).alloc (.cells #[Iv b,.slice pR d cR,.slice pA c cA] 82))):=QhA _ _ _;unfold Rd;by_cases x:v=0
 ·subst x;rw[Xs Z]
  go_enter func230,ntmps230
  go_wp2_with fail
  generalize ((w.alloc (.cells #[Iv fr,.slice m j o,.slice r q k,.slice l a p] 89)).alloc (.cells #[Iv b,.slice pR d cR,.slice pA c cA] 82))=G at i g |-;refine(C.out _).mono ?_
  rintro e z ⟨rfl,h⟩;have y:=(h.block _ (XC i)).trans i;have n:Hid (Below w.heap.size w z):=g.out.trans (h.mono g.out.size);have I:=Qb y 1 _ Z;have H:=Qb y 2 _ Z;clear h C i g y;go_wp2_with fail
  refine(s.out _).mono ?_
  rintro e B ⟨rfl,A⟩;have D:Hid (Below w.heap.size w B):=n.out.trans (A.mono n.out.size);clear A s n;go_wp2
  go_ret;exact⟨Z,D.out⟩
 ·rw[Xr x]
  have E:(v==0)=false:=by simpa using x
  go_enter func230,ntmps230
  go_wp2_with fail
  generalize ((w.alloc (.cells #[Iv fr,.slice m j o,.slice r q k,.slice l a p] 89)).alloc (.cells #[Iv b,.slice pR d cR,.slice pA c cA] 82))=G at i g |-;refine(C.out _).mono ?_
  rintro e z ⟨rfl,h⟩;have n:Hid (Below w.heap.size w z):=g.out.trans (h.mono g.out.size);clear h C s i g;go_wp2
  go_ret;exact⟨Z,n.out⟩
theorem QdO {x:MTo}{k h f:Option Addr}{e i g j c d:Nat}(a:Bool)(b:c<2305843009213693952) :
 Rd prog 230 #[.agg #[Iv fr,.slice k e i,.slice h g j,.slice f c d],.agg #[Iv x.block,.slice pR x.regs.length cR,.slice pA x.args.length cA],.bool a] w (Iv (x.form c a)):=by
 cases a
 ·rw[QhG];exact QlK
 ·rw[QjD];exact QlX b
theorem QjS {a r G:Int}{j c o b I:Option Addr}{l d h p n i g k q L:Nat}{x D u:Option Addr}{s A C t v B:Nat}{z M:Int}(V:¬ (a<1\/3<a)) (T:¬ ((a≠2/\r≠0)\/(a≠3/\0<q))) (U:¬ 8<q)
 (N:Hid (∀ wx:World,Calls prog 230 #[.agg #[Iv fr,.slice x s A,.slice D C t,.slice u v B],.agg #[Iv yb,.slice j l d,.slice c h p],.bool (a != 3)] wx fun e w'=>e=.returned (Iv z)/\Below wx.heap.size wx w'))
 (K:Hid (∀ wx:World,Calls prog 230 #[.agg #[Iv fr,.slice x s A,.slice D C t,.slice u v B],.agg #[Iv G,.slice o n i,.slice b g k],.bool (a==2)] wx fun e w'=>e=.returned (Iv M)/\Below wx.heap.size wx w')) :
 Rd prog 185 #[.agg #[Iv fr,.slice x s A,.slice D C t,.slice u v B],.agg #[Iv a,Iv r,Iv yb,.slice j l d,.slice c h p,Iv G,.slice o n i,.slice b g k,.slice I q L]] w (Iv (if z=0 then M else z)):=by
 obtain⟨E,y⟩:∃ E,E=(w.alloc (.cells #[Iv fr,.slice x s A,.slice D C t,.slice u v B] 89)).alloc (.cells #[Iv a,Iv r,Iv yb,.slice j l d,.slice c h p,Iv G,.slice o n i,.slice b g k,.slice I q L] 84):=⟨_,Z⟩
 have m:Blk E w.heap.size #[Iv fr,.slice x s A,.slice D C t,.slice u v B] 89:=by rw[y];exact Blk.new1 _ _ _ _ _
 have f:Blk E (w.heap.size+1) #[Iv a,Iv r,Iv yb,.slice j l d,.slice c h p,Iv G,.slice o n i,.slice b g k,.slice I q L] 84:=by rw[y];exact Blk.new2 _ _ _ _
 have J:Hid (Below w.heap.size w E):=by rw[y];exact QhA _ _ _
 unfold Rd;have g8:¬ (8:Int)<q:=by omega
 rcases (show a=1/\r=0/\q=0\/a=2/\q=0\/a=3/\r=0 by omega) with ⟨rfl,rfl,rfl⟩|⟨rfl,rfl⟩|⟨rfl,rfl⟩
 all_goals
  clear V T U;go_enter func185,ntmps185
  go_wp2_with fail
  rw[<-y]
  clear y;refine(N.out _).mono ?_
  rintro e W ⟨rfl,F⟩;replace m:=(F.block _ (XC m)).trans m;replace f:=(F.block _ (XC f)).trans f;have H:Hid (Below w.heap.size w W):=J.out.trans (F.mono J.out.size);clear F N J;by_cases P:z=0
  ·subst P;have c0:=Qb m 0 _ Z;have X:=Qb m 1 _ Z;have c2:=Qb m 2 _ Z;have c3:=Qb m 3 _ Z;have d0:=Qb f 0 _ Z;have d5:=Qb f 5 _ Z;have d6:=Qb f 6 _ Z;have d7:=Qb f 7 _ Z;clear m f;go_wp2_with fail
   refine(K.out _).mono ?_
   rintro e Q ⟨rfl,O⟩;have R:Hid (Below w.heap.size w Q):=H.out.trans (O.mono H.out.size);clear O K H;go_wp2
   go_ret;exact⟨Z,R.out⟩
  ·have S:(z==0)=false:=by simpa using P
   clear K m f;go_wp2
   go_ret;exact⟨Z,H.out⟩
theorem Qf7 {a b u:Int}{l e p d t:Option Addr}{n f j q o k i m c B:Nat}{z E x:Option Addr}{r A D s y C:Nat}{v:Int}(h:(v=3/\(a<1\/3<a))\/(v=4/\¬ (a<1\/3<a)/\((a≠2/\b≠0)\/(a≠3/\0<c)))\/(v=2/\¬ (a<1\/3<a)/\¬ ((a≠2/\b≠0)\/(a≠3/\0<c))/\8<c)) :
 Rd prog 185 #[.agg #[Iv fr,.slice z r A,.slice E D s,.slice x y C],.agg #[Iv a,Iv b,Iv yb,.slice l n f,.slice e j q,Iv u,.slice p o k,.slice d i m,.slice t c B]] w (Iv v):=by
 unfold Rd;rcases (show v=3/\a<1\/v=3/\¬ a<1/\3<a\/v=4/\a=1/\b=0/\(0:Int)<c\/v=4/\a=1/\¬ b=0\/v=4/\a=2/\(0:Int)<c\/v=4/\a=3/\¬ b=0\/v=2/\a=3/\b=0/\(8:Int)<c by omega) with ⟨rfl,g⟩|⟨rfl,F,g⟩|⟨rfl,rfl,rfl,g⟩|⟨rfl,rfl,g⟩|⟨rfl,rfl,g⟩|⟨rfl,rfl,g⟩|⟨rfl,rfl,rfl,g⟩
 all_goals
  try rw[<-bne_iff_ne,bne,Bool.not_eq_true'] at g
  clear h;go_enter func185,ntmps185
  go_wp2
  go_ret;exact⟨Z,QhA _ _ _⟩
theorem QgG {x:ZA}{e:EP}{o l j:Option Addr}{i m k n g h:Nat}(p:x.yes.regs.length<2305843009213693952/\x.yes.args.length<2305843009213693952/\x.no.regs.length<2305843009213693952/\x.no.args.length<2305843009213693952) (d:g<2305843009213693952):Rd prog 185 #[.agg #[Iv fr,.slice o i m,.slice l k n,.slice j g h],.agg #[Iv x.op,Iv x.a,Iv x.yes.block,.slice e.pYR x.yes.regs.length e.cYR,.slice e.pYA x.yes.args.length e.cYA,Iv x.no.block,.slice e.pNR x.no.regs.length e.cNR,.slice e.pNA x.no.args.length e.cNA,.slice e.pA x.args.length e.cA]] w (Iv (x.form g)):=by
 rw[Qg1]
 by_cases b:x.op<1\/3<x.op
 ·rw[Xs b];exact Qf7 (.inl ⟨Z,b⟩)
 rw[Xr b]
 by_cases c:(x.op≠2/\x.a≠0)\/(x.op≠3/\0<x.args.length)
 ·rw[Xs c];exact Qf7 (.inr (.inl ⟨Z,b,c⟩))
 rw[Xr c]
 by_cases f:8<x.args.length
 ·rw[Xs f];exact Qf7 (.inr (.inr ⟨Z,b,c,f⟩))
 rw[Xr f]
 exact QjS b c f (fun _=>QdO _ d) (fun _=>QdO _ d)
theorem typeFault_any:∀ n,Qd4 127 n:=by
 intro n
 induction n with
 | zero=>intro t;exact Empty.elim t
 | succ n ih =>
   intro t a c b w ht aa;have IH:Hid (Qd4 127 n):=ih;clear ih;have hT:Hid (LIn w All t.2.2 a):=ht.list;have S:Hid (∀ x∈t.2.2,x.count<=100000):=fun x I=>by have:=t.count_kid I;omega
   have G:t.2.2.length<=100000:=by have:=t.len_lt_count;rw[t.len_eq] at this;omega
   have m:Hid (t.fault b=if ownC t.kind t.r t.2.2.length b≠0 then ownC t.kind t.r t.2.2.length b else Qu (TT.fault b) t.2.2):=rfl;generalize t.fault b=h at m |-;simp only[Tv,TT.len_eq]
   generalize t.2.2=l at hT S m G |-;generalize t.kind=k at m |-;generalize t.r=r at m |-;clear ht aa t;generalize Q:l.length=d at m G |-;have T:Hid (l.length=d):=Q;clear Q;rcases (show k<1\/(¬ k<1/\4<k)\/k=1\/k=2\/k=4\/k=3 by omega) with p | ⟨p,F⟩ | rfl | rfl | rfl | rfl
   ·have f:=m.out;rw[show ownC _ _ d b=3 by unfold ownC;repeat' split;all_goals omega] at f
    clear m;replace f:Hid (h=3):=by show h=3;simpa using f
    go_enter func127,ntmps127
    go_wp2_with fail
    go_ret;exact⟨by rw[f.out];rfl,(Below.refl _ w).alloc Ze _⟩
   ·have f:=m.out;rw[show ownC _ _ d b=3 by unfold ownC;repeat' split;all_goals omega] at f
    clear m;replace f:Hid (h=3):=by show h=3;simpa using f
    go_enter func127,ntmps127
    go_wp2_with fail
    go_ret;exact⟨by rw[f.out];rfl,(Below.refl _ w).alloc Ze _⟩
   ·rcases (show r≠0\/(r=0/\0<d)\/(r=0/\d=0) by omega) with p | ⟨rfl,p⟩|⟨rfl,p⟩
    ·have u:(r != 0)=true:=by simpa using p
     have f:=m.out;rw[show ownC _ _ d b=4 by unfold ownC;repeat' split;all_goals omega] at f
     clear m;replace f:Hid (h=4):=by show h=4;simpa using f
     go_enter func127,ntmps127
     go_wp2_with fail
     go_ret;exact⟨by rw[f.out];rfl,(Below.refl _ w).alloc Ze _⟩
    ·have u:(0:Int)<(d:Int):=by omega
     have f:=m.out;rw[show ownC _ _ d b=4 by unfold ownC;repeat' split;all_goals omega] at f
     clear m;replace f:Hid (h=4):=by show h=4;simpa using f
     go_enter func127,ntmps127
     go_wp2_with fail
     go_ret;exact⟨by rw[f.out];rfl,(Below.refl _ w).alloc Ze _⟩
    ·have u:¬ (0:Int)<(d:Int):=by omega
     have E:¬ (8:Int)<(d:Int):=by omega
     have f:=m.out;rw[show ownC _ _ d b=0 by unfold ownC;repeat' split;all_goals omega] at f
     clear m;have R:Hid (h=Qu (TT.fault b) l):=by show h=Qu (TT.fault b) l;simpa using f
     clear f
     have N:Hid (h=0):=by
      have D:l=[]:=Xf.1 (T.out.trans p)
      have:=R.out
      rw[D] at this
      exact this
     subst p;clear R u E;go_enter func127,ntmps127
     go_wp2_with fail
     have B:=Bx.start w 1 0 a 0 c;generalize w.alloc (.cells #[Iv 1,Iv 0,.slice a 0 c] 105)=J at B |-;have s:Hid (Bx w J 1 0 a 0 c):=B;clear B;go_loopw [5] (fun i wr=>i=Iv 0/\Bx w wr 1 0 a 0 c) (fun _ _=>0)
     case atStart=>exact⟨Z,s.out⟩
     case round =>
      clear s;obtain⟨rfl,z⟩:=hrel
      have s:Hid (Bx w wr 1 0 a 0 c):=z;have V:wr.cell? ⟨w.heap.size,2,none⟩=some (.slice a 0 c):=Qb z.box 2 _ Z;clear z;go_wp2
      go_ret;exact⟨by rw[N.out];rfl,s.out.bel⟩
   ·rcases (show 0<d\/(d=0/\r<0)\/(d=0/\0<=r/\b<=r)\/(d=0/\0<=r/\r<b) by omega) with p | ⟨p,F⟩|⟨p,F,U⟩|⟨p,F,U⟩
    ·have u:(0:Int)<(d:Int):=by omega
     have f:=m.out;rw[show ownC _ _ d b=4 by unfold ownC;repeat' split;all_goals omega] at f
     clear m;replace f:Hid (h=4):=by show h=4;simpa using f
     go_enter func127,ntmps127
     go_wp2_with fail
     go_ret;exact⟨by rw[f.out];rfl,(Below.refl _ w).alloc Ze _⟩
    ·have u:¬ (0:Int)<(d:Int):=by omega
     have E:¬ (8:Int)<(d:Int):=by omega
     have f:=m.out;rw[show ownC _ _ d b=1 by unfold ownC;repeat' split;all_goals omega] at f
     clear m;replace f:Hid (h=1):=by show h=1;simpa using f
     go_enter func127,ntmps127
     go_wp2_with fail
     go_ret;exact⟨by rw[f.out];rfl,(Below.refl _ w).alloc Ze _⟩
    ·have u:¬ (0:Int)<(d:Int):=by omega
     have E:¬ (8:Int)<(d:Int):=by omega
     have f:=m.out;rw[show ownC _ _ d b=1 by unfold ownC;repeat' split;all_goals omega] at f
     clear m;replace f:Hid (h=1):=by show h=1;simpa using f
     go_enter func127,ntmps127
     go_wp2_with fail
     go_ret;exact⟨by rw[f.out];rfl,(Below.refl _ w).alloc Ze _⟩
    ·have u:¬ (0:Int)<(d:Int):=by omega
     have E:¬ (8:Int)<(d:Int):=by omega
     have f:=m.out;rw[show ownC _ _ d b=0 by unfold ownC;repeat' split;all_goals omega] at f
     clear m;have R:Hid (h=Qu (TT.fault b) l):=by show h=Qu (TT.fault b) l;simpa using f
     clear f
     have N:Hid (h=0):=by
      have D:l=[]:=Xf.1 (T.out.trans p)
      have:=R.out
      rw[D] at this
      exact this
     subst p;clear R u E;go_enter func127,ntmps127
     go_wp2_with fail
     have B:=Bx.start w 2 r a 0 c;generalize w.alloc (.cells #[Iv 2,Iv r,.slice a 0 c] 105)=J at B |-;have s:Hid (Bx w J 2 r a 0 c):=B;clear B;go_loopw [5] (fun i wr=>i=Iv 0/\Bx w wr 2 r a 0 c) (fun _ _=>0)
     case atStart=>exact⟨Z,s.out⟩
     case round =>
      clear s;obtain⟨rfl,z⟩:=hrel
      have s:Hid (Bx w wr 2 r a 0 c):=z;have V:wr.cell? ⟨w.heap.size,2,none⟩=some (.slice a 0 c):=Qb z.box 2 _ Z;clear z;go_wp2
      go_ret;exact⟨by rw[N.out];rfl,s.out.bel⟩
   ·rcases (show 0<d\/(d=0/\r<0)\/(d=0/\0<=r/\b<=r)\/(d=0/\0<=r/\r<b) by omega) with p | ⟨p,F⟩|⟨p,F,U⟩|⟨p,F,U⟩
    ·have u:(0:Int)<(d:Int):=by omega
     have f:=m.out;rw[show ownC _ _ d b=4 by unfold ownC;repeat' split;all_goals omega] at f
     clear m;replace f:Hid (h=4):=by show h=4;simpa using f
     go_enter func127,ntmps127
     go_wp2_with fail
     go_ret;exact⟨by rw[f.out];rfl,(Below.refl _ w).alloc Ze _⟩
    ·have u:¬ (0:Int)<(d:Int):=by omega
     have E:¬ (8:Int)<(d:Int):=by omega
     have f:=m.out;rw[show ownC _ _ d b=1 by unfold ownC;repeat' split;all_goals omega] at f
     clear m;replace f:Hid (h=1):=by show h=1;simpa using f
     go_enter func127,ntmps127
     go_wp2_with fail
     go_ret;exact⟨by rw[f.out];rfl,(Below.refl _ w).alloc Ze _⟩
    ·have u:¬ (0:Int)<(d:Int):=by omega
     have E:¬ (8:Int)<(d:Int):=by omega
     have f:=m.out;rw[show ownC _ _ d b=1 by unfold ownC;repeat' split;all_goals omega] at f
     clear m;replace f:Hid (h=1):=by show h=1;simpa using f
     go_enter func127,ntmps127
     go_wp2_with fail
     go_ret;exact⟨by rw[f.out];rfl,(Below.refl _ w).alloc Ze _⟩
    ·have u:¬ (0:Int)<(d:Int):=by omega
     have E:¬ (8:Int)<(d:Int):=by omega
     have f:=m.out;rw[show ownC _ _ d b=0 by unfold ownC;repeat' split;all_goals omega] at f
     clear m;have R:Hid (h=Qu (TT.fault b) l):=by show h=Qu (TT.fault b) l;simpa using f
     clear f
     have N:Hid (h=0):=by
      have D:l=[]:=Xf.1 (T.out.trans p)
      have:=R.out
      rw[D] at this
      exact this
     subst p;clear R u E;go_enter func127,ntmps127
     go_wp2_with fail
     have B:=Bx.start w 4 r a 0 c;generalize w.alloc (.cells #[Iv 4,Iv r,.slice a 0 c] 105)=J at B |-;have s:Hid (Bx w J 4 r a 0 c):=B;clear B;go_loopw [5] (fun i wr=>i=Iv 0/\Bx w wr 4 r a 0 c) (fun _ _=>0)
     case atStart=>exact⟨Z,s.out⟩
     case round =>
      clear s;obtain⟨rfl,z⟩:=hrel
      have s:Hid (Bx w wr 4 r a 0 c):=z;have V:wr.cell? ⟨w.heap.size,2,none⟩=some (.slice a 0 c):=Qb z.box 2 _ Z;clear z;go_wp2
      go_ret;exact⟨by rw[N.out];rfl,s.out.bel⟩
   ·rcases (show 8<d\/(d<=8/\r<0)\/(d<=8/\0<=r/\b<=r)\/(d<=8/\0<=r/\r<b) by omega) with p | ⟨p,F⟩|⟨p,F,U⟩|⟨p,F,U⟩
    ·have u:(8:Int)<(d:Int):=by omega
     have f:=m.out;rw[show ownC _ _ d b=2 by unfold ownC;repeat' split;all_goals omega] at f
     clear m;replace f:Hid (h=2):=by show h=2;simpa using f
     go_enter func127,ntmps127
     go_wp2_with fail
     go_ret;exact⟨by rw[f.out];rfl,(Below.refl _ w).alloc Ze _⟩
    ·have u:¬ (8:Int)<(d:Int):=by omega
     have f:=m.out;rw[show ownC _ _ d b=1 by unfold ownC;repeat' split;all_goals omega] at f
     clear m;replace f:Hid (h=1):=by show h=1;simpa using f
     go_enter func127,ntmps127
     go_wp2_with fail
     go_ret;exact⟨by rw[f.out];rfl,(Below.refl _ w).alloc Ze _⟩
    ·have u:¬ (8:Int)<(d:Int):=by omega
     have f:=m.out;rw[show ownC _ _ d b=1 by unfold ownC;repeat' split;all_goals omega] at f
     clear m;replace f:Hid (h=1):=by show h=1;simpa using f
     go_enter func127,ntmps127
     go_wp2_with fail
     go_ret;exact⟨by rw[f.out];rfl,(Below.refl _ w).alloc Ze _⟩
    ·have u:¬ (8:Int)<(d:Int):=by omega
     have f:=m.out;rw[show ownC _ _ d b=0 by unfold ownC;repeat' split;all_goals omega] at f
     clear m;have R:Hid (h=Qu (TT.fault b) l):=by show h=Qu (TT.fault b) l;simpa using f
     clear f;go_enter func127,ntmps127
     go_wp2_with fail
     have B:=Bx.start w 3 r a d c;generalize w.alloc (.cells #[Iv 3,Iv r,.slice a d c] 105)=J at B |-;have s:Hid (Bx w J 3 r a d c):=B;clear B;go_loopw [5] (fun i wr=>∃ q:Nat,q<=d/\i=Iv q/\(∀ (j:Nat) x,j<q->l[j]?=some x->x.fault b=0)/\Bx w wr 3 r a d c) (fun i _=>d - (intOf i).toNat)
     case atStart=>exact⟨0,Xb _,Z,fun j x hj=>by omega,s.out⟩
     case round =>
      clear s;obtain⟨q,hq,rfl,H,z⟩:=hrel
      have A:Hid (∀ (j:Nat) x,j<q->l[j]?=some x->x.fault b=0):=H;have s:Hid (Bx w wr 3 r a d c):=z;have V:wr.cell? ⟨w.heap.size,2,none⟩=some (.slice a d c):=Qb z.box 2 _ Z;clear H;by_cases ac:q<d
      ·have P:q<l.length:=by have:=T.out;omega
       have I:l[q]?=some l[q]:=Zg P;generalize l[q]=x at I;clear P;obtain⟨g,o,a',c',rfl,_,d0,d1,d2,hk⟩:=LIn.at (hT.out.below z.bel) I
       have O:Hid (l[q]?=some x):=I;have ad:(0:Int)<=q:=by omega
       have X:(q:Int)<d:=by omega
       have C:Hid (∀ K,Below wr.heap.size wr K->Calls prog 127 #[Tv x a' c',Iv b] K fun e w'=>e=.returned (Iv (x.fault b))/\Below K.heap.size K w') :=
        fun K hb=>IH.out x a' c' b K (hk.below hb) (S.out x (Zm I))
       clear z hk I;simp only[Tv] at C
       generalize x.kind=kx at C d0;generalize x.r=rx at C d1;generalize x.len=lx at C d2;go_wp2_with fail
       refine(C.out _ Zr).mono ?_
       rintro e w2 ⟨rfl,b2⟩;have X2:Hid (Bx w w2 3 r (some ⟨g,o,none⟩) d c):=s.out.below b2;clear s b2 C d0 d1 d2 V;by_cases M:x.fault b=0
       ·have A2:Hid (∀ (j:Nat) x,j<q+1->l[j]?=some x->x.fault b=0):=fun j y hj L=>by
         by_cases e:j=q
         ·subst e;rw[O.out] at L
          cases L
          exact M
         ·exact A.out j y (by omega) L
        rw[M]
        clear M A;go_wp2
        go_roundw
        case rel=>exact⟨q+1,by omega,by go_num,A2.out,X2.out⟩
        case measure=>simp[intOf];omega
       ·have W:Hid (h=x.fault b):=R.out.trans (Qap O.out A.out M);have ab:(x.fault b != 0)=true:=by simpa using M
        generalize x.fault b=v at ab W |-;clear M A;go_wp2
        go_ret;exact⟨by rw[W.out];rfl,X2.out.bel⟩
      ·have W:Hid (h=0):=R.out.trans (Z3 (fun j y L=>A.out j y (by have:=(Zi L).1;have:=T.out;omega) L));have X:¬ (q:Int)<d:=by omega
       clear z A;go_wp2
       go_ret;exact⟨by rw[W.out];rfl,s.out.bel⟩
theorem Qdl {α:Type}(f:α->Nat) (l:List α) (i:Nat) (x:α) (h:l[i]?=some x):((l.map f).take (i+1)).foldl max 0=max (((l.map f).take i).foldl max 0) (f x):=by
 rw[XV,XS,h]
 simp
theorem Qck (l:List Nat) (i:Nat):(l.take i).foldl max 0<=l.foldl max 0:=by
 rw[Qa0]
 exact⟨Xb _,fun x a=>(Qa0.1 (Nat.le_refl (l.foldl max 0))).2 x (List.mem_of_mem_take a)⟩
theorem deepOf_any:∀ (n:Nat) (t:TT n) (a:Option Addr) (c:Nat) (w:World) (m:Nat),TIn w All t a->t.count<=100000->m<=4 ->
 Calls prog 126 #[Tv t a c,Iv m] w fun e w'=>e=.returned (Iv ((min t.height (m+1):Nat):Int))/\Below w.heap.size w w':=by
 intro n
 induction n with
 | zero=>intro t;exact Empty.elim t
 | succ n ih =>
   intro t a c w m ht L ac
   have IH:Hid (∀ (t:TT n) (a:Option Addr) (c:Nat) (w:World) (m:Nat),TIn w All t a->t.count<=100000->m<=4 ->
    Calls prog 126 #[Tv t a c,Iv m] w fun e w'=>e=.returned (Iv ((min t.height (m+1):Nat):Int))/\Below w.heap.size w w'):=ih
   clear ih;have U:Hid (LIn w All t.2.2 a):=ht.list;have B:Hid (∀ x∈t.2.2,x.count<=100000):=fun x d=>by have:=t.count_kid d;omega
   have u:t.2.2.length<=100000:=by have:=t.len_lt_count;rw[t.len_eq] at this;omega
   have A:Hid (t.height=(t.2.2.map (fun x=>1+x.height)).foldl max 0):=rfl;generalize t.height=h at A |-;simp only[Tv,TT.len_eq]
   generalize t.2.2=l at U B A u |-;generalize t.kind=k;generalize t.r=r;clear ht L t;generalize f:((min h (m+1):Nat):Int)=b;have H:Hid (((min h (m+1):Nat):Int)=b):=f;clear f;go_enter func126,ntmps126
   go_wp2_with fail
   have N:Hid (Bx w (w.alloc (.cells #[Iv k,Iv r,.slice a l.length c] 105)) k r a l.length c):=Bx.start w k r a l.length c;generalize w.alloc (.cells #[Iv k,Iv r,.slice a l.length c] 105)=w1 at N |-;go_loopw [5,6] (fun v i wr=>∃ q y:Nat,q<=l.length/\i=Iv q/\v=Iv y/\y=min (((l.map (fun x=>1+x.height)).take q).foldl max 0) (m+1)/\Bx w wr k r a l.length c) (fun _ i _=>l.length - (intOf i).toNat)
   case atStart=>exact⟨0,0,Xb _,Yz,Yz,by simp,N.out⟩
   case round =>
    clear N;obtain⟨q,y,hq,rfl,rfl,T,j⟩:=hrel
    have Y:Hid (y=min (((l.map (fun x=>1+x.height)).take q).foldl max 0) (m+1)):=T;have E:Hid (Bx w wr k r a l.length c):=j;have e2:wr.cell? ⟨w.heap.size,2,none⟩=some (.slice a l.length c):=Qb j.box 2 _ Yz;have af:(y:Int)<=5:=by omega
    clear T;by_cases K:q<l.length
    ·have ae:(0:Int)<=q:=by omega
     have J:(q:Int)<l.length:=by omega
     by_cases p:y<=m
     ·have d:l[q]?=some l[q]:=Zg K;generalize l[q]=x at d;obtain⟨g,o,a',P,rfl,_,S,W,X,M⟩:=LIn.at (U.out.below j.bel) d
      have G:=Qdl (fun x:TT n=>1+x.height) l q x d;have D:(y:Int)<=m:=by omega
      by_cases V:m=0
      ·have I:((m:Int)==0)=true:=by simp;omega
       have F:Hid (b=1):=by
        have h1:=Qck (l.map (fun x=>1+x.height)) (q+1);have h2:=A.out;have h3:=H.out;rw[G] at h1
        show b=1;omega
       clear j M d V G p;go_wp2_with fail
       go_ret;exact⟨by rw[F.out];rfl,E.out.bel⟩
      ·have I:((m:Int)==0)=false:=by simp;omega
       have C:Hid (∀ s,Below wr.heap.size wr s->Calls prog 126 #[Tv x a' P,Iv ((m:Int) - 1)] s fun e w'=>e=.returned (Iv ((min x.height m:Nat):Int))/\Below s.heap.size s w'):=fun s hb=>by
        have:=IH.out x a' P s (m - 1) (M.below hb) (B.out x (Zm d)) (by omega)
        rw[show ((m - 1:Nat):Int)=(m:Int) - 1 by omega,show m - 1+1=m by omega] at this
        exact this
       have ab:(1:Int)<=m:=by omega
       have ad:(m:Int)<=4:=by omega
       generalize O:min x.height m=z at C;have aa:(z:Int)<=4:=by omega
       have Z:Hid (max y (1+z)=min (((l.map (fun x=>1+x.height)).take (q+1)).foldl max 0) (m+1)):=by
        rw[G]
        have:=Y.out
        show _=_;omega
       clear j M d V G O Y p;simp only[Tv] at C
       generalize x.kind=kx at C S;generalize x.r=rx at C W;generalize x.len=lx at C X;go_wp2_with fail
       refine(C.out _ Zr).mono ?_
       rintro e w2 ⟨rfl,Q⟩;have R:Hid (Bx w w2 k r (some ⟨g,o,none⟩) l.length c):=E.out.below Q;clear E Q C S W X e2;by_cases hd:(y:Int)<1+z
       ·go_wp2
        go_roundw
        case rel=>exact⟨q+1,1+z,by omega,by go_num,by go_num,by rw[<-Z.out];omega,R.out⟩
        case measure=>simp[intOf];omega
       ·go_wp2
        go_roundw
        case rel=>exact⟨q+1,y,by omega,by go_num,Yz,by rw[<-Z.out];omega,R.out⟩
        case measure=>simp[intOf];omega
     ·have F:Hid (b=y):=by
       have h1:=Qck (l.map (fun x=>1+x.height)) q;have h2:=A.out;have h3:=H.out
       have:=Y.out
       show b=y;omega
      have D:¬ (y:Int)<=m:=by omega
      clear j p Y;go_wp2
      go_ret;exact⟨by rw[F.out];rfl,E.out.bel⟩
    ·have F:Hid (b=y):=by
      have h2:=A.out;have h3:=H.out
      have:=Y.out
      rw[XO (by simp;omega)] at this
      show b=y;omega
     have J:¬ (q:Int)<l.length:=by omega
     clear j Y;go_wp2
     go_ret;exact⟨by rw[F.out];rfl,E.out.bel⟩
def QhN (f:Nat):Prop:=∀ (n:Nat) (t:TT n) (a:Option Addr) (c:Nat) (regs:Int) (w:World),TIn w All t a->t.count<=100000 ->
 Calls prog f #[Tv t a c,Iv regs] w fun e w'=>e=.returned (Iv (t.check regs))/\Below w.heap.size w w'
theorem typeFaultT_any:QhN 78:=by
 intro n t a c b w s u
 have g:Hid (∀ d,Below w.heap.size w d->Calls prog 126 #[Tv t a c,Iv 4] d fun e p=>e=.returned (Iv ((min t.height 5:Nat):Int))/\Below d.heap.size d p) :=
  fun d o=>deepOf_any n t a c d 4 (s.below o) u (by omega)
 have i:Hid (∀ d,Below w.heap.size w d->Calls prog 127 #[Tv t a c,Iv b] d fun e p=>e=.returned (Iv (t.fault b))/\Below d.heap.size d p) :=
  fun d o=>typeFault_any n t a c b d (s.below o) u
 have E:Hid (t.check b=if 4<t.height then 19 else t.fault b):=rfl;generalize t.check b=j at E |-;clear s u;simp only[Tv] at g i |-
 generalize t.kind=k at g i |-;generalize t.r=r at g i |-;generalize t.len=f at g i |-;generalize t.fault b=v at i E;generalize x:min t.height 5=q at g;go_enter func78,ntmps78
 go_wp2_with fail
 have m:=Bx.start w k r a f c;generalize w.alloc (.cells #[Iv k,Iv r,.slice a f c] 105)=I at m |-;refine(g.out _ m.bel).mono ?_
 rintro e H ⟨rfl,y⟩;have h:Hid (Bx w H k r a f c):=m.below y;have C:=Qb h.out.box 0 _ Z;have F:=Qb h.out.box 1 _ Z;have B:=Qb h.out.box 2 _ Z;clear m y g;by_cases l:4<t.height
 ·have R:Hid (j=19):=by have:=E.out;rwa [Xs l] at this
  have D:(4:Int)<q:=by omega
  clear l x;go_wp2_with fail
  go_ret;exact⟨by rw[R.out];rfl,h.out.bel⟩
 ·have R:Hid (j=v):=by have:=E.out;rwa [Xr l] at this
  have D:¬ (4:Int)<q:=by omega
  clear l x;go_wp2_with fail
  refine(i.out _ h.out.bel).mono ?_
  rintro e A ⟨rfl,z⟩;have G:Hid (Bx w A k r a f c):=h.out.below z;clear h z i C F B;go_wp2_with fail
  go_ret;exact⟨by rw[R.out];rfl,G.out.bel⟩
theorem QfQ (k r:Int) (a:Option Addr) (len c:Nat) (regs:Int) (w:World) :
 Calls prog 282 #[.agg #[Iv k,Iv r,.slice a len c],Iv regs] w fun e w'=>e=.returned (Iv (ownC k r len regs))/\Below w.heap.size w w':=by
 rcases (show k<1\/(¬ k<1/\4<k)\/k=1\/k=2\/k=4\/k=3 by omega) with b | ⟨b,f⟩ | rfl | rfl | rfl | rfl
 ·rw[show ownC _ _ len regs=3 by unfold ownC;repeat' split;all_goals omega]
  go_enter func282,ntmps282
  go_wp2_with fail
  go_ret;exact⟨Z,(Below.refl _ w).alloc Ze _⟩
 ·rw[show ownC _ _ len regs=3 by unfold ownC;repeat' split;all_goals omega]
  go_enter func282,ntmps282
  go_wp2_with fail
  go_ret;exact⟨Z,(Below.refl _ w).alloc Ze _⟩
 ·rcases (show r≠0\/(r=0/\0<len)\/(r=0/\len=0) by omega) with b | ⟨rfl,b⟩|⟨rfl,b⟩
  ·have d:(r != 0)=true:=by simpa using b
   rw[show ownC _ _ len regs=4 by unfold ownC;repeat' split;all_goals omega]
   go_enter func282,ntmps282
   go_wp2_with fail
   go_ret;exact⟨Z,(Below.refl _ w).alloc Ze _⟩
  ·have d:(0:Int)<(len:Int):=by omega
   rw[show ownC _ _ len regs=4 by unfold ownC;repeat' split;all_goals omega]
   go_enter func282,ntmps282
   go_wp2_with fail
   go_ret;exact⟨Z,(Below.refl _ w).alloc Ze _⟩
  ·have d:¬ (0:Int)<(len:Int):=by omega
   have g:¬ (8:Int)<(len:Int):=by omega
   rw[show ownC _ _ len regs=0 by unfold ownC;repeat' split;all_goals omega]
   go_enter func282,ntmps282
   go_wp2_with fail
   go_ret;exact⟨Z,(Below.refl _ w).alloc Ze _⟩
 ·rcases (show 0<len\/(len=0/\r<0)\/(len=0/\0<=r/\regs<=r)\/(len=0/\0<=r/\r<regs) by omega) with b | ⟨b,f⟩|⟨b,f,h⟩|⟨b,f,h⟩
  ·have d:(0:Int)<(len:Int):=by omega
   rw[show ownC _ _ len regs=4 by unfold ownC;repeat' split;all_goals omega]
   go_enter func282,ntmps282
   go_wp2_with fail
   go_ret;exact⟨Z,(Below.refl _ w).alloc Ze _⟩
  ·have d:¬ (0:Int)<(len:Int):=by omega
   have g:¬ (8:Int)<(len:Int):=by omega
   rw[show ownC _ _ len regs=1 by unfold ownC;repeat' split;all_goals omega]
   go_enter func282,ntmps282
   go_wp2_with fail
   go_ret;exact⟨Z,(Below.refl _ w).alloc Ze _⟩
  ·have d:¬ (0:Int)<(len:Int):=by omega
   have g:¬ (8:Int)<(len:Int):=by omega
   rw[show ownC _ _ len regs=1 by unfold ownC;repeat' split;all_goals omega]
   go_enter func282,ntmps282
   go_wp2_with fail
   go_ret;exact⟨Z,(Below.refl _ w).alloc Ze _⟩
  ·have d:¬ (0:Int)<(len:Int):=by omega
   have g:¬ (8:Int)<(len:Int):=by omega
   rw[show ownC _ _ len regs=0 by unfold ownC;repeat' split;all_goals omega]
   go_enter func282,ntmps282
   go_wp2_with fail
   go_ret;exact⟨Z,(Below.refl _ w).alloc Ze _⟩
 ·rcases (show 0<len\/(len=0/\r<0)\/(len=0/\0<=r/\regs<=r)\/(len=0/\0<=r/\r<regs) by omega) with b | ⟨b,f⟩|⟨b,f,h⟩|⟨b,f,h⟩
  ·have d:(0:Int)<(len:Int):=by omega
   rw[show ownC _ _ len regs=4 by unfold ownC;repeat' split;all_goals omega]
   go_enter func282,ntmps282
   go_wp2_with fail
   go_ret;exact⟨Z,(Below.refl _ w).alloc Ze _⟩
  ·have d:¬ (0:Int)<(len:Int):=by omega
   have g:¬ (8:Int)<(len:Int):=by omega
   rw[show ownC _ _ len regs=1 by unfold ownC;repeat' split;all_goals omega]
   go_enter func282,ntmps282
   go_wp2_with fail
   go_ret;exact⟨Z,(Below.refl _ w).alloc Ze _⟩
  ·have d:¬ (0:Int)<(len:Int):=by omega
   have g:¬ (8:Int)<(len:Int):=by omega
   rw[show ownC _ _ len regs=1 by unfold ownC;repeat' split;all_goals omega]
   go_enter func282,ntmps282
   go_wp2_with fail
   go_ret;exact⟨Z,(Below.refl _ w).alloc Ze _⟩
  ·have d:¬ (0:Int)<(len:Int):=by omega
   have g:¬ (8:Int)<(len:Int):=by omega
   rw[show ownC _ _ len regs=0 by unfold ownC;repeat' split;all_goals omega]
   go_enter func282,ntmps282
   go_wp2_with fail
   go_ret;exact⟨Z,(Below.refl _ w).alloc Ze _⟩
 ·rcases (show 8<len\/(len<=8/\r<0)\/(len<=8/\0<=r/\regs<=r)\/(len<=8/\0<=r/\r<regs) by omega) with b | ⟨b,f⟩|⟨b,f,h⟩|⟨b,f,h⟩
  ·have d:(8:Int)<(len:Int):=by omega
   rw[show ownC _ _ len regs=2 by unfold ownC;repeat' split;all_goals omega]
   go_enter func282,ntmps282
   go_wp2_with fail
   go_ret;exact⟨Z,(Below.refl _ w).alloc Ze _⟩
  ·have d:¬ (8:Int)<(len:Int):=by omega
   rw[show ownC _ _ len regs=1 by unfold ownC;repeat' split;all_goals omega]
   go_enter func282,ntmps282
   go_wp2_with fail
   go_ret;exact⟨Z,(Below.refl _ w).alloc Ze _⟩
  ·have d:¬ (8:Int)<(len:Int):=by omega
   rw[show ownC _ _ len regs=1 by unfold ownC;repeat' split;all_goals omega]
   go_enter func282,ntmps282
   go_wp2_with fail
   go_ret;exact⟨Z,(Below.refl _ w).alloc Ze _⟩
  ·have d:¬ (8:Int)<(len:Int):=by omega
   rw[show ownC _ _ len regs=0 by unfold ownC;repeat' split;all_goals omega]
   go_enter func282,ntmps282
   go_wp2_with fail
   go_ret;exact⟨Z,(Below.refl _ w).alloc Ze _⟩
theorem firstCode_any:∀ n,Qd4 258 n:=by
 intro n
 induction n with
 | zero=>intro t;exact Empty.elim t
 | succ n ih =>
   intro t a c b w ht N;have IH:Hid (Qd4 258 n):=ih;clear ih;have V:Hid (LIn w All t.2.2 a):=ht.list;have F:Hid (∀ x∈t.2.2,x.count<=100000):=fun x p=>by have:=t.count_kid p;omega
   have D:t.2.2.length<=100000:=by have:=t.len_lt_count;rw[t.len_eq] at this;omega
   have h:Hid (t.fault b=if ownC t.kind t.r t.2.2.length b≠0 then ownC t.kind t.r t.2.2.length b else Qu (TT.fault b) t.2.2):=rfl;generalize t.fault b=d at h |-;simp only[Tv,TT.len_eq]
   generalize t.2.2=l at V F h D |-;generalize t.kind=k at h |-;generalize t.r=r at h |-;clear ht N t;go_enter func258,ntmps258
   go_wp2_with fail
   have X0:Hid (Bx w (w.alloc (.cells #[Iv k,Iv r,.slice a l.length c] 105)) k r a l.length c):=Bx.start w k r a l.length c;refine(QfQ k r a l.length c b _).mono ?_
   rintro e w1 ⟨rfl,U⟩;have m:Hid (Bx w w1 k r a l.length c):=X0.out.below U;clear X0 U;by_cases z:ownC k r l.length b=0
   ·have R:Hid (d=Qu (TT.fault b) l):=by
     have:=h.out
     rw[z] at this
     show d=Qu (TT.fault b) l;simpa using this
    rw[z]
    clear z h;have e2:w1.cell? ⟨w.heap.size,2,none⟩=some (.slice a l.length c):=Qb m.out.box 2 _ Z;go_wp2_with fail
    clear e2;go_loopw [18] (fun i wr=>∃ q:Nat,q<=l.length/\i=Iv q/\(∀ (j:Nat) x,j<q->l[j]?=some x->x.fault b=0)/\Bx w wr k r a l.length c) (fun i _=>l.length - (intOf i).toNat)
    case atStart=>exact⟨0,Xb _,Z,fun j x hj=>by omega,m.out⟩
    case round =>
     clear m;obtain⟨q,hq,rfl,f,G⟩:=hrel
     have A:Hid (∀ (j:Nat) x,j<q->l[j]?=some x->x.fault b=0):=f;have m:Hid (Bx w wr k r a l.length c):=G;clear f;by_cases L:q<l.length
     ·have p:l[q]?=some l[q]:=Zg L;generalize l[q]=x at p;obtain⟨g,o,O,I,rfl,_,T,W,X,hk⟩:=LIn.at (V.out.below G.bel) p
      have E:Hid (l[q]?=some x):=p;have aa:(0:Int)<=q:=by omega
      have K:(q:Int)<l.length:=by omega
      have C:Hid (∀ s,Below wr.heap.size wr s->Calls prog 258 #[Tv x O I,Iv b] s fun e w'=>e=.returned (Iv (x.fault b))/\Below s.heap.size s w') :=
       fun s hb=>IH.out x O I b s (hk.below hb) (F.out x (Zm p))
      clear G hk p;simp only[Tv] at C
      generalize x.kind=kx at C T;generalize x.r=rx at C W;generalize x.len=lx at C X;go_wp2_with fail
      have M:Below wr.heap.size wr (wr.alloc (.cells #[Iv kx,Iv rx,.slice O lx I] 105)):=(Below.refl _ wr).alloc Ze _;refine(C.out _ M).mono ?_
      rintro e w2 ⟨rfl,Q⟩;have S:Hid (Bx w w2 k r (some ⟨g,o,none⟩) l.length c):=(m.out.below M).below Q;clear m Q M C T W X;by_cases B:x.fault b=0
      ·have A2:Hid (∀ (j:Nat) x,j<q+1->l[j]?=some x->x.fault b=0):=fun j y hj u=>by
        by_cases e:j=q
        ·subst e;rw[E.out] at u
         cases u
         exact B
        ·exact A.out j y (by omega) u
       rw[B]
       clear B A;go_wp2
       go_roundw
       case rel=>exact⟨q+1,by omega,by go_num,A2.out,S.out⟩
       case measure=>simp[intOf];omega
      ·have H:Hid (d=x.fault b):=R.out.trans (Qap E.out A.out B);have P:(x.fault b != 0)=true:=by simpa using B
       generalize x.fault b=v at P H |-;clear B A;go_wp2
       go_ret;exact⟨by rw[H.out];rfl,S.out.bel⟩
     ·have H:Hid (d=0):=R.out.trans (Z3 (fun j y u=>A.out j y (by have:=(Zi u).1;omega) u));have K:¬ (q:Int)<l.length:=by omega
      clear G A;go_wp2
      go_ret;exact⟨by rw[H.out];rfl,m.out.bel⟩
   ·have R:Hid (d=ownC k r l.length b):=by
     have:=h.out
     rwa [Xs z] at this
    have J:(ownC k r l.length b != 0)=true:=by simpa using z
    generalize ownC k r l.length b=v at J R |-;clear z h;go_wp2_with fail
    go_ret;exact⟨by rw[R.out];rfl,m.out.bel⟩
theorem Qi6 {l:List (TT n)}{k r:Int}:m<TT.height (n:=n+1) (mkT k r l)↔∃ (i:Nat) (x:TT n),l[i]?=some x/\m<1+x.height:=by
 rw[<-Nat.not_le,Q9]
 constructor
 ·intro h;simp only[Classical.not_forall] at h
  obtain⟨x,a,c⟩:=h
  obtain⟨i,b,rfl⟩:=List.mem_iff_getElem.1 a
  exact⟨i,_,Zg b,by omega⟩
 ·rintro ⟨i,x,a,c⟩ h
  have:=h x (Zm (l:=l) a)
  omega
theorem deeper_any:∀ (n:Nat) (t:TT n) (a:Option Addr) (c:Nat) (w:World) (m:Nat),TIn w All t a->t.count<=100000->m<=4 ->
 Calls prog 257 #[Tv t a c,Iv m] w fun e w'=>e=.returned (.bool (decide (m<t.height)))/\Below w.heap.size w w':=by
 intro n
 induction n with
 | zero=>intro t;exact Empty.elim t
 | succ n ih =>
   intro t a c w m X N ab
   have IH:Hid (∀ (t:TT n) (a:Option Addr) (c:Nat) (w:World) (m:Nat),TIn w All t a->t.count<=100000->m<=4 ->
    Calls prog 257 #[Tv t a c,Iv m] w fun e w'=>e=.returned (.bool (decide (m<t.height)))/\Below w.heap.size w w'):=ih
   clear ih;have T:Hid (LIn w All t.2.2 a):=X.list;have v:Hid (∀ x∈t.2.2,x.count<=100000):=fun x b=>by have:=t.count_kid b;omega
   have p:t.2.2.length<=100000:=by have:=t.len_lt_count;rw[t.len_eq] at this;omega
   have s:Hid (m<t.height↔∃ (i:Nat) (x:TT n),t.2.2[i]?=some x/\m<1+x.height):=Qi6;generalize t.height=h at s |-;simp only[Tv,TT.len_eq]
   generalize t.2.2=l at T v s p |-;generalize t.kind=k;generalize t.r=r;clear X N t;go_enter func257,ntmps257
   go_wp2_with fail
   have Q:Hid (Bx w (w.alloc (.cells #[Iv k,Iv r,.slice a l.length c] 105)) k r a l.length c):=Bx.start w k r a l.length c;generalize w.alloc (.cells #[Iv k,Iv r,.slice a l.length c] 105)=w1 at Q |-;go_loopw [10] (fun i wr=>∃ q:Nat,q<=l.length/\i=Iv q/\(∀ (j:Nat) x,j<q->l[j]?=some x->1+x.height<=m)/\Bx w wr k r a l.length c) (fun i _=>l.length - (intOf i).toNat)
   case atStart=>exact⟨0,Xb _,Z,fun j x hj=>by omega,Q.out⟩
   case round =>
    clear Q;obtain⟨q,hq,rfl,d,D⟩:=hrel
    have A:Hid (∀ (j:Nat) x,j<q->l[j]?=some x->1+x.height<=m):=d;have F:Hid (Bx w wr k r a l.length c):=D;clear d;by_cases K:q<l.length
    ·have b:l[q]?=some l[q]:=Zg K;generalize l[q]=x at b;obtain⟨g,o,O,G,rfl,_,I,V,W,P⟩:=LIn.at (T.out.below D.bel) b
     have hg:g<wr.heap.size:=Xi wr ⟨g,o+q*3,none⟩ I;have u:Hid (l[q]?=some x):=b;have ad:(0:Int)<=q:=by omega
     have J:(q:Int)<l.length:=by omega
     by_cases U:m=0
     ·have z:Hid (m<h):=s.out.2 ⟨q,x,b,by omega⟩;have H:((m:Int)==0)=true:=by simp;omega
      clear D P b U;go_wp2_with fail
      go_ret;exact⟨by rw[Xt z.out];rfl,(F.out.alloc _).bel⟩
     ·have H:((m:Int)==0)=false:=by simp;omega
      have C:Hid (∀ f,Below wr.heap.size wr f->Calls prog 257 #[Tv x O G,Iv ((m:Int) - 1)] f fun e w'=>e=.returned (.bool (decide (m - 1<x.height)))/\Below f.heap.size f w'):=fun f hb=>by
       have:=IH.out x O G f (m - 1) (P.below hb) (v.out x (Zm b)) (by omega)
       rw[show ((m - 1:Nat):Int)=(m:Int) - 1 by omega] at this
       exact this
      have aa:(1:Int)<=m:=by omega
      have ac:(m:Int)<=4:=by omega
      have B:Hid (1<=m):=by show 1<=m;omega
      clear D P b U;simp only[Tv] at C
      generalize x.kind=kx at C I;generalize x.r=rx at C V;generalize x.len=lx at C W;go_wp2_with fail
      have M:Below wr.heap.size wr (wr.alloc (.cells #[Iv kx,Iv rx,.slice O lx G] 105)):=(Below.refl _ wr).alloc Ze _;refine(C.out _ M).mono ?_
      rintro e w2 ⟨rfl,R⟩;have S:Hid (Bx w w2 k r (some ⟨g,o,none⟩) l.length c):=(F.out.below M).below R;clear F R M C I V W;by_cases E:m - 1<x.height
      ·have z:Hid (m<h):=s.out.2 ⟨q,x,u.out,by have:=B.out;omega⟩;rw[Xt E]
       clear E;go_wp2
       go_ret;exact⟨by rw[Xt z.out];rfl,S.out.bel⟩
      ·have A2:Hid (∀ (j:Nat) x,j<q+1->l[j]?=some x->1+x.height<=m):=fun j y hj L=>by
        by_cases e:j=q
        ·subst e;rw[u.out] at L
         cases L
         have:=B.out
         omega
        ·exact A.out j y (by omega) L
       rw[Xu E]
       clear E A;go_wp2
       go_roundw
       case rel=>exact⟨q+1,by omega,by go_num,A2.out,S.out⟩
       case measure=>simp[intOf];omega
    ·have z:Hid (¬ m<h):=fun hc=>by
      obtain⟨i,x,b,h3⟩:=s.out.1 hc
      have:=A.out i x (by have:=(Zi b).1;omega) b
      omega
     have J:¬ (q:Int)<l.length:=by omega
     clear D A;go_wp2
     go_ret;exact⟨by rw[Xu z.out];rfl,F.out.bel⟩
theorem check_any:QhN 223:=by
 intro n t a c b w q s
 have i:Hid (∀ d,Below w.heap.size w d->Calls prog 257 #[Tv t a c,Iv 4] d fun e p=>e=.returned (.bool (decide (4<t.height)))/\Below d.heap.size d p) :=
  fun d o=>deeper_any n t a c d 4 (q.below o) s (by omega)
 have h:Hid (∀ d,Below w.heap.size w d->Calls prog 258 #[Tv t a c,Iv b] d fun e p=>e=.returned (Iv (t.fault b))/\Below d.heap.size d p) :=
  fun d o=>firstCode_any n t a c b d (q.below o) s
 have E:Hid (t.check b=if 4<t.height then 19 else t.fault b):=rfl;generalize t.check b=l at E |-;clear q s;simp only[Tv] at i h |-
 generalize t.kind=k at i h |-;generalize t.r=r at i h |-;generalize t.len=f at i h |-;generalize t.fault b=v at h E;go_enter func223,ntmps223
 go_wp2_with fail
 have m:=Bx.start w k r a f c;generalize w.alloc (.cells #[Iv k,Iv r,.slice a f c] 105)=F at m |-;refine(i.out _ m.bel).mono ?_
 rintro e D ⟨rfl,u⟩;have g:Hid (Bx w D k r a f c):=m.below u;have A:=Qb g.out.box 0 _ Z;have B:=Qb g.out.box 1 _ Z;have z:=Qb g.out.box 2 _ Z;clear m u i;by_cases j:4<t.height
 ·rw[Xt j]
  have R:Hid (l=19):=by have:=E.out;rwa [Xs j] at this
  clear j;go_wp2_with fail
  go_ret;exact⟨by rw[R.out];rfl,g.out.bel⟩
 ·rw[Xu j]
  have R:Hid (l=v):=by have:=E.out;rwa [Xr j] at this
  clear j;go_wp2_with fail
  refine(h.out _ g.out.bel).mono ?_
  rintro e y ⟨rfl,x⟩;have C:Hid (Bx w y k r a f c):=g.out.below x;clear g x h A B z;go_wp2_with fail
  go_ret;exact⟨by rw[R.out];rfl,C.out.bel⟩
abbrev QG (p:Int × Int):Value:=.agg #[Iv p.1,Iv p.2]
def atF (c p:Int):Int × Int:=if c=0 then (0,0) else (c,p)
theorem QeD {α:Type}{f:Nat->α->Int × Int}:∀ {l:List α}{j:Nat},firstF (fun i x=>atF (f i x).1 (f i x).2) j l=firstF f j l
 | [],_=>rfl
 | x::xs,j=>by
   simp only[firstF,atF]
   by_cases h:(f j x).1=0
   ·simp only[h,if_true,ne_eq,not_true_eq_false,if_false]
    exact QeD
   ·simp[h]
def MFunc.code {n:Nat}(f:Nat) (x:MFunc n):Int :=
 if x.regs<0\/6<x.regs then 1 else if listC x.regs x.params≠0 then listC x.regs x.params else if listC x.regs x.results≠0 then listC x.regs x.results
 else if x.blocks.length<1\/12<x.blocks.length then 2 else if f=0/\¬ (x.regs=0/\x.params.length=0/\x.results.all (fun t=>t.kind==1)=true) then 18 else 0
theorem MFunc.fault_eq (a f:Nat) (x:MFunc n):MFunc.fault a f x=if x.code f=0 then firstF (fun b y=>MBlock.fault a f x b y) 0 x.blocks else (x.code f,10000*(f:Int)+9999):=by
 unfold MFunc.fault MFunc.code;generalize listC x.regs x.params=c;generalize listC x.regs x.results=e;generalize firstF (fun b y=>MBlock.fault a f x b y) 0 x.blocks=d;repeat' split
 all_goals first | rfl | (exfalso;omega) | contradiction
def MBlock.code' {n:Nat}(fn:MFunc n) (b:Nat) (x:MBlock n):Int :=
 if x.regs<fn.regs\/16<x.regs then 1 else if listC x.regs x.params≠0 then listC x.regs x.params
 else if b=0/\(x.regs≠fn.regs\/QcF x.params fn.params=false) then 9 else if 40<x.code.length then 2 else 0
theorem MBlock.fault_eq (a f:Nat) (fn:MFunc n) (b:Nat) (x:MBlock n):MBlock.fault a f fn b x =
 if x.code' fn b=0 then (if (firstF (fun i y=>(Qt.form a y,(10000*f+100*b+i:Int))) 0 x.code).1=0 then atF (x.fin.form fn.blocks.length) (10000*(f:Int)+100*(b:Int)+91)
  else firstF (fun i y=>(Qt.form a y,(10000*f+100*b+i:Int))) 0 x.code) else (x.code' fn b,10000*(f:Int)+100*(b:Int)+90):=by
 unfold MBlock.fault MBlock.code' atF;generalize firstF (fun i y=>(Qt.form a y,(10000*f+100*b+i:Int))) 0 x.code=d;generalize x.fin.form fn.blocks.length=e;generalize listC x.regs x.params=c;repeat' split
 all_goals first | rfl | (exfalso;omega) | contradiction
def idxK {n:Nat}:Nat->List (TT n)->Int
 | _,[]=>-1
 | i,t::ts=>if t.kind=1 then idxK (i+1) ts else (i:Int)
theorem QiS {l:List (TT n)}{x:TT n}(h:l[q]?=some x):idxK q (l.drop q)=if x.kind=1 then idxK (q+1) (l.drop (q+1)) else (q:Int):=by
 obtain⟨a,rfl⟩:=Zi h
 rw[List.drop_eq_getElem_cons a]
 rfl
theorem Qgs {n:Nat}:∀ (l:List (TT n)) (j:Nat),(0<=idxK j l)↔¬ l.all (fun t=>t.kind==1)=true
 | [],j=>by simp[idxK]
 | y::ys,j=>by
   by_cases h:y.kind=1
   ·simp only[idxK,h,if_true,List.all_cons,beq_self_eq_true,Bool.true_and]
    exact Qgs ys (j+1)
   ·simp[idxK,h]
theorem Qfa {t:TT n}{regs:Int}(b:TIn w All t a) (d:t.count<=100000):Rd prog 78 #[Tv t a c,Iv regs] w (Iv (t.check regs)):=typeFaultT_any n t a c regs w b d
theorem QkW {t:TT n}{regs:Int}(b:TIn w All t a) (d:t.count<=100000):Rd prog 223 #[Tv t a c,Iv regs] w (Iv (t.check regs)):=check_any n t a c regs w b d
theorem Qc9 {α:Type}{f:α->Int}{l:List α}{x:α}(h:l[q]?=some x):Qu f (l.drop q)=if f x≠0 then f x else Qu f (l.drop (q+1)):=by
 obtain⟨a,rfl⟩:=Zi h
 rw[List.drop_eq_getElem_cons a]
 rfl
theorem Qld {l:List (TT n)}{regs:Int}(b:(Qo n).In w All l [.slice p l.length c]) (f:QcG l) :
 Rd prog 51 #[.slice p l.length c,Iv regs] w (Iv (listC regs l)):=by
 have H:=Qf (QU b).1;have G:=Qf f.2;by_cases j:8<l.length
 ·have E:Hid (listC regs l=2):=Xs j;have d:decide ((l.length:Int)>8)=true:=Xt (by omega);clear j f b;go_enter func51,ntmps51
  go_wp2
  go_ret;exact⟨by rw[E.out];rfl,Zr⟩
 have E:Hid (listC regs l=Qu (TT.check regs) (l.drop 0)):=Xr j;have d:decide ((l.length:Int)>8)=false:=Xu (by omega);have j:l.length<=8:=by omega
 generalize listC regs l=V at E |-;clear f b;go_enter func51,ntmps51
 go_wp2
 go_loopw [5] (fun i wr=>∃ q:Nat,q<=l.length/\i=Iv q/\Hid (V=Qu (TT.check regs) (l.drop q))/\Hid (Below w.heap.size w wr)) (fun i _=>l.length - (intOf i).toNat)
 case atStart=>exact⟨0,Xb _,Z,E,Zr⟩
 case round =>
  obtain⟨q,O,rfl,e,k⟩:=hrel
  clear E;by_cases h:q<l.length
  ·have s:l[q]?=some l[q]:=Zg h;have A:=Qf (G.out _ (List.getElem_mem h));generalize l[q]=t at s A;obtain⟨g,o,F,B,rfl,-,D,I,J,In⟩:=LIn.at (TIn.below H.out k.out) s
   have N:(q:Int)<l.length:=by omega
   have a:=Qf (e.out.trans (Qc9 s));have C:Hid (∀ u,Below wr.heap.size wr u->Rd prog 78 #[.agg #[Iv t.kind,Iv t.r,.slice F t.len B],Iv regs] u (Iv (t.check regs))):=fun u L=>Qfa (In.below L) A.out;clear s e In;generalize t.check regs=v at a C;have C:=Qf (C.out wr Zr);go_wp2_with fail
   refine C.out.mono ?_;rintro P K ⟨rfl,y⟩;have z:Hid (Below w.heap.size w K):=k.out.trans (y.mono k.out.size);clear y C D I J;by_cases m:v=0
   ·subst m;have a:=Qf (a.out.trans (Xr (by simp)));go_wp2
    go_roundw
    case rel=>exact⟨q+1,by omega,by go_num,a,z⟩
    case measure=>simp[intOf];omega
   ·have a:=Qf (a.out.trans (Xs m));have M:(v != 0)=true:=bne_iff_ne.2 m;clear m;go_wp2
    go_ret;exact⟨by rw[a.out];rfl,z.out⟩
  ·have x:q=l.length:=by omega
   subst x;go_wp2
   go_ret;exact⟨by rw[e.out,List.drop_length];rfl,k.out⟩
theorem QaG {l:List (TT n)}{regs:Int}(b:(Qo n).In w All l [.slice p l.length c]) (f:QcG l) :
 Rd prog 178 #[.slice p l.length c,Iv regs] w (Iv (listC regs l)):=by
 have H:=Qf (QU b).1;have G:=Qf f.2;by_cases j:8<l.length
 ·have E:Hid (listC regs l=2):=Xs j;have d:decide ((l.length:Int)>8)=true:=Xt (by omega);clear j f b;go_enter func178,ntmps178
  go_wp2
  go_ret;exact⟨by rw[E.out];rfl,Zr⟩
 have E:Hid (listC regs l=Qu (TT.check regs) (l.drop 0)):=Xr j;have d:decide ((l.length:Int)>8)=false:=Xu (by omega);have j:l.length<=8:=by omega
 generalize listC regs l=V at E |-;clear f b;go_enter func178,ntmps178
 go_wp2
 go_loopw [13] (fun i wr=>∃ q:Nat,q<=l.length/\i=Iv q/\Hid (V=Qu (TT.check regs) (l.drop q))/\Hid (Below w.heap.size w wr)) (fun i _=>l.length - (intOf i).toNat)
 case atStart=>exact⟨0,Xb _,Z,E,Zr⟩
 case round =>
  obtain⟨q,O,rfl,e,k⟩:=hrel
  clear E;by_cases h:q<l.length
  ·have s:l[q]?=some l[q]:=Zg h;have D:=Qf (G.out _ (List.getElem_mem h));generalize l[q]=t at s D;obtain⟨g,o,A,y,rfl,-,F,I,J,In⟩:=LIn.at (TIn.below H.out k.out) s
   have N:(q:Int)<l.length:=by omega
   have a:=Qf (e.out.trans (Qc9 s));have C:Hid (∀ u,Below wr.heap.size wr u->Rd prog 223 #[.agg #[Iv t.kind,Iv t.r,.slice A t.len y],Iv regs] u (Iv (t.check regs))):=fun u L=>QkW (In.below L) D.out;clear s e In;generalize t.check regs=v at a C;have C:=Qf (C.out _ (Zd wr (.cells #[Iv t.kind,Iv t.r,.slice A t.len y] 105)));go_wp2_with fail
   refine C.out.mono ?_;rintro P K ⟨rfl,z⟩;have B:Hid (Below w.heap.size w K):=k.out.trans (((Zd wr _).trans (z.mono (Zd wr _).size)).mono k.out.size);clear z C F I J;by_cases m:v=0
   ·subst m;have a:=Qf (a.out.trans (Xr (by simp)));go_wp2
    go_roundw
    case rel=>exact⟨q+1,by omega,by go_num,a,B⟩
    case measure=>simp[intOf];omega
   ·have a:=Qf (a.out.trans (Xs m));have M:(v != 0)=true:=bne_iff_ne.2 m;clear m;go_wp2
    go_ret;exact⟨by rw[a.out];rfl,B.out⟩
  ·have x:q=l.length:=by omega
   subst x;go_wp2
   go_ret;exact⟨by rw[e.out,List.drop_length];rfl,k.out⟩
theorem Qbn {b:Int}:Rd prog 117 #[Iv xc,Iv b] w (QG (atF xc b)):=by
 have f:=Qf ((Bxs.start w).new #[Iv 0,Iv 0] 32);go_enter func117,ntmps117
 go_upto_region 1 with fail
 generalize w.alloc (.cells #[Iv 0,Iv 0] 32)=l at f |-;generalize w.heap.size=R at f |-;have i:=f.out.cell (a:=[]) 0 _ Z;have k:=f.out.cell (a:=[]) 1 _ Z;have m:=f.out.free (a:=[]) 0;have j:=f.out.free (a:=[]) 1;have g:Hid (∀ c p:Int,_):=fun c p=>(f.out.set (a:=[]) 0 (Iv c)).set (a:=[]) 1 (Iv p);by_cases h:xc=0
 ·subst h;go_wp2
  exact Xy (v:=QG (atF 0 b)) (by simp[results,results117,go_sem,(g.out 0 0).cell (a:=[]) 0 _ Z,(g.out 0 0).cell (a:=[]) 1 _ Z,atF,QG]) Z ⟨Z,(g.out 0 0).bel⟩
 ·have d:(xc==0)=false:=by simpa using h
  have e:=Qf h;clear h;go_wp2
  exact Xy (v:=QG (atF xc b)) (by simp[results,results117,go_sem,(g.out xc b).cell (a:=[]) 0 _ Z,(g.out xc b).cell (a:=[]) 1 _ Z,atF,QG,e.out]) Z ⟨Z,(g.out xc b).bel⟩
theorem QgY {l:List (TT n)}(d:(Qo n).In w All l [.slice p l.length c]) (x:l.length<=100000) :
 Rd prog 259 #[.slice p l.length c,.func (.func 225) #[] #[]] w (Iv (idxK 0 l)):=by
 have y:=Qf (QU d).1;have E:Hid (idxK 0 l=idxK 0 (l.drop 0)):=rfl;have z:∀ (args:Array Value) (w:World),(callFunc 225 args).run prog w=.ok (.enter 225 args) w:=fun _ _=>by kernel_rfl
 generalize idxK 0 l=V at E |-;clear d;go_enter func259,ntmps259
 go_wp2
 go_loopw [8] (fun i wr=>∃ q:Nat,q<=l.length/\i=Iv q/\Hid (V=idxK q (l.drop q))/\Hid (Below w.heap.size w wr)) (fun i _=>l.length - (intOf i).toNat)
 case atStart=>exact⟨0,Xb _,Z,E,Zr⟩
 case round =>
  obtain⟨q,D,rfl,e,k⟩:=hrel
  clear E;by_cases j:q<l.length
  ·have f:l[q]?=some l[q]:=Zg j;generalize l[q]=t at f;obtain⟨g,o,v,s,rfl,-,u,B,C,In⟩:=LIn.at (TIn.below y.out k.out) f
   have F:(q:Int)<l.length:=by omega
   have b:=Qf (e.out.trans (QiS f));have h:Hid (Below w.heap.size w (wr.alloc (.cells #[Iv t.kind,Iv t.r,.slice v t.len s] 105))):=k.out.trans ((Zd wr _).mono k.out.size);clear f e In;by_cases a:t.kind=1
   ·have b:=Qf (b.out.trans (Xs a));rw[a] at u h
    clear a;go_wp2
    go_roundw
    case rel=>exact⟨q+1,by omega,by go_num,b,h⟩
    case measure=>simp[intOf];omega
   ·have b:=Qf (b.out.trans (Xr a));have A:(t.kind != 1)=true:=bne_iff_ne.2 a;clear a;go_wp2
    go_ret;exact⟨by rw[b.out];rfl,h.out⟩
  ·have m:q=l.length:=by omega
   subst m;go_wp2
   go_ret;exact⟨by rw[e.out,List.drop_length];rfl,k.out⟩
theorem Qd8 {l:List (TT n)}(a:(Qo n).In w All l [.slice p l.length c]) (b:l.length<=100000) :
 Rd prog 224 #[.slice p l.length c,.func (.func 225) #[] #[]] w (.bool (decide (0<=idxK 0 l))):=by
 have C:=Qf (QgY a b);clear a;go_enter func224,ntmps224
 go_wp2_with fail
 refine C.out.mono ?_;rintro g f ⟨rfl,d⟩;have e:=Qf d;clear d C;go_wp2
 go_ret;exact⟨Z,e.out⟩
def MFunc.begins {n:Nat}(x:MFunc n):Prop:=x.regs=0/\x.params.length=0/\x.results.all (fun t=>t.kind==1)=true
def MBlock.takes {n:Nat}(fn:MFunc n) (x:MBlock n):Prop:=x.regs=fn.regs/\x.params=fn.params
theorem QjO {fn:MFunc n}{x:MBlock n}(h:¬ x.takes fn):x.regs≠fn.regs\/QcF x.params fn.params=false:=by
 by_cases a:x.regs=fn.regs
 ·refine .inr ?_
  cases e:QcF x.params fn.params with
  | false=>rfl
  | true=>exact absurd ⟨a,QcO.1 e⟩ h
 ·exact .inl a
theorem Qje {fn:MFunc n}{x:MBlock n}(h:x.takes fn):¬ (x.regs≠fn.regs\/QcF x.params fn.params=false):=by
 rintro (a | a)
 ·exact a h.1
 ·rw[QcO.2 h.2] at a;cases a
abbrev bkA {n:Nat}(m:List (MFunc n)) (p:Option Addr) (c:Nat) (x:MFunc n) (fp:FP) (fi:Nat) (y:MBlock n) (bp:BP) (bi:Nat):Array Value:=#[.slice p m.length c,Iv x.regs,.slice fp.pP x.params.length fp.cP,.slice fp.pR x.results.length fp.cR,.slice fp.pB x.blocks.length fp.cB,Iv (fi:Int),Iv y.regs,.slice bp.pP y.params.length bp.cP,.slice bp.pC y.code.length bp.cC,Iv y.fin.op,Iv y.fin.a,Iv y.fin.yes.block,.slice bp.e.pYR y.fin.yes.regs.length bp.e.cYR,.slice bp.e.pYA y.fin.yes.args.length bp.e.cYA,Iv y.fin.no.block,.slice bp.e.pNR y.fin.no.regs.length bp.e.cNR,.slice bp.e.pNA y.fin.no.args.length bp.e.cNA,.slice bp.e.pA y.fin.args.length bp.e.cA,Iv (bi:Int)]
theorem Qfh {m:List (MFunc n)}{x:MFunc n}{a:FP}(g:FIn w All x a) (j:x.small) :
 Rd prog 179 #[.agg #[.slice p m.length c,Iv x.regs,.slice a.pP x.params.length a.cP,.slice a.pR x.results.length a.cR,.slice a.pB x.blocks.length a.cB,Iv (fi:Int)]] w (.bool (ZU x.begins)):=by
 have e:=Qf (Zd w (.cells #[.slice p m.length c,Iv x.regs,.slice a.pP x.params.length a.cP,.slice a.pR x.results.length a.cR,.slice a.pB x.blocks.length a.cB,Iv (fi:Int)] 139));have i:=Qf (Blk.new w #[.slice p m.length c,Iv x.regs,.slice a.pP x.params.length a.cP,.slice a.pR x.results.length a.cR,.slice a.pB x.blocks.length a.cB,Iv (fi:Int)] 139);have C:=Qf (Qd8 (Ya g.results e.out) (by have:=j.2.2.1.1;omega));have r:x.begins↔x.regs=0/\x.params.length=0/\¬ 0<=idxK 0 x.results:=by unfold MFunc.begins;rw[Qgs,Classical.not_not]
 have b:=Qf r;clear r;generalize idxK 0 x.results=o at C b;clear g j;go_enter func179,ntmps179
 go_upto_region 1 with fail
 generalize w.alloc (.cells #[.slice p m.length c,Iv x.regs,.slice a.pP x.params.length a.cP,.slice a.pR x.results.length a.cR,.slice a.pB x.blocks.length a.cB,Iv (fi:Int)] 139)=G at e i C |-;generalize s:w.heap.size=X at i |-;have B:=Qf s;clear s;have F:=Qb i.out 1 _ Z;have y:=Qb i.out 2 _ Z;have z:=Qb i.out 3 _ Z;by_cases d:x.regs=0
 ·have t:(x.regs==0)=true:=by simpa using d
  by_cases f:x.params.length=0
  ·have v:((x.params.length:Int)==0)=true:=by simpa using f
   have k:Hid (ZU x.begins=!(decide (0<=o))):=by
    by_cases l:0<=o
    ·exact(QB (fun h=>(b.out.1 h).2.2 l)).trans (by simp[l])
    ·exact(QC (b.out.2 ⟨d,f,l⟩)).trans (by simp[l])
   clear d f b;go_wp2_with fail
   refine C.out.mono ?_;rintro D E ⟨rfl,q⟩;have u:=Qf (e.out.trans (q.mono e.out.size));clear q C;go_wp2
   go_ret;exact⟨by rw[k.out];rfl,u.out⟩
  ·have v:((x.params.length:Int)==0)=false:=by simpa using f
   have k:=Qf (QB (A:=x.begins) (fun h=>f (b.out.1 h).2.1));clear d f b;go_wp2
   go_ret;exact⟨by rw[k.out];rfl,e.out⟩
 ·have t:(x.regs==0)=false:=by simpa using d
  have k:=Qf (QB (A:=x.begins) (fun h=>d (b.out.1 h).1));clear d b;go_wp2
  go_ret;exact⟨by rw[k.out];rfl,e.out⟩
theorem Qe9 {m:List (MFunc n)}{x:MFunc n}{a:FP}(k:FIn w All x a) (i:x.small) :
 Rd prog 116 #[.agg #[.slice p m.length c,Iv x.regs,.slice a.pP x.params.length a.cP,.slice a.pR x.results.length a.cR,.slice a.pB x.blocks.length a.cB,Iv (fi:Int)]] w (Iv (x.code fi)):=by
 have o:=Qf (Zd w (.cells #[.slice p m.length c,Iv x.regs,.slice a.pP x.params.length a.cP,.slice a.pR x.results.length a.cR,.slice a.pB x.blocks.length a.cB,Iv (fi:Int)] 139));have d:=Qf (Blk.new w #[.slice p m.length c,Iv x.regs,.slice a.pP x.params.length a.cP,.slice a.pR x.results.length a.cR,.slice a.pB x.blocks.length a.cB,Iv (fi:Int)] 139);have v:Hid (∀ f,Below w.heap.size w f->Calls prog 178 #[.slice a.pP x.params.length a.cP,Iv x.regs] f fun e y=>e=.returned (Iv (listC x.regs x.params))/\Below f.heap.size f y):=fun f C=>QaG (regs:=x.regs) (Ya k.params C) i.2.1;have r:Hid (∀ f,Below w.heap.size w f->Calls prog 178 #[.slice a.pR x.results.length a.cR,Iv x.regs] f fun e y=>e=.returned (Iv (listC x.regs x.results))/\Below f.heap.size f y):=fun f C=>QaG (regs:=x.regs) (Ya k.results C) i.2.2.1;have g:Hid (∀ f,Below w.heap.size w f->Calls prog 179 #[.agg #[.slice p m.length c,Iv x.regs,.slice a.pP x.params.length a.cP,.slice a.pR x.results.length a.cR,.slice a.pB x.blocks.length a.cB,Iv (fi:Int)]] f fun e y=>e=.returned (.bool (ZU x.begins))/\Below f.heap.size f y):=fun f C=>Qfh (k.below C) i;have aa:=i.1;have b:Hid (x.code fi=if x.regs<0\/6<x.regs then 1 else if listC x.regs x.params≠0 then listC x.regs x.params else if listC x.regs x.results≠0 then listC x.regs x.results else if x.blocks.length<1\/12<x.blocks.length then 2 else if fi=0/\¬ (x.regs=0/\x.params.length=0/\x.results.all (fun t=>t.kind==1)=true) then 18 else 0):=rfl;generalize x.code fi=V at b |-;generalize listC x.regs x.params=W at b v;generalize listC x.regs x.results=S at b r;clear k i;go_enter func116,ntmps116
 go_upto_region 1 with fail
 generalize w.alloc (.cells #[.slice p m.length c,Iv x.regs,.slice a.pP x.params.length a.cP,.slice a.pR x.results.length a.cR,.slice a.pB x.blocks.length a.cB,Iv (fi:Int)] 139)=w1 at o d |-;generalize U:w.heap.size=X at d |-;have HX:=Qf U;clear U;have L:=Qb d.out 1 _ Z;have F:=Qb d.out 2 _ Z;have I:=Qb d.out 3 _ Z;have J:=Qb d.out 4 _ Z;have K:=Qb d.out 5 _ Z;by_cases B:x.regs<0\/6<x.regs
 ·have E:=Qf (b.out.trans (Xs B));by_cases l:x.regs<0
  ·have G:decide (x.regs<0)=true:=Xt l;clear l B b v r g;go_wp2
   go_ret;exact⟨by rw[E.out];rfl,o.out⟩
  ·have G:decide (x.regs<0)=false:=Xu l;have T:decide (x.regs>6)=true:=Xt (by omega);clear l B b v r g;go_wp2
   go_ret;exact⟨by rw[E.out];rfl,o.out⟩
 replace b:=Qf (b.out.trans (Xr B));have G:decide (x.regs<0)=false:=Xu (by omega);have T:decide (x.regs>6)=false:=Xu (by omega);clear B;go_wp2_with fail
 refine(v.out w1 o.out).mono ?_
 rintro O w2 ⟨rfl,M⟩;have H:=Qf (o.out.trans (M.mono o.out.size));have d:=Qf (d.out.below M);clear M v L F I J K;have L:=Qb d.out 1 _ Z;have F:=Qb d.out 2 _ Z;have I:=Qb d.out 3 _ Z;have J:=Qb d.out 4 _ Z;have K:=Qb d.out 5 _ Z;by_cases u:W=0
 rotate_left
 ·have E:=Qf (b.out.trans (Xs u));have R:(W != 0)=true:=bne_iff_ne.2 u;clear u b r g;go_wp2
  go_ret;exact⟨by rw[E.out];rfl,H.out⟩
 replace b:=Qf (b.out.trans (Xr (fun h=>h u)));subst u;go_wp2_with fail
 refine(r.out w2 H.out).mono ?_
 rintro O Q ⟨rfl,N⟩;have j:=Qf (H.out.trans (N.mono H.out.size));have d:=Qf (d.out.below N);clear N r L F I J K;have x0:=Qb d.out 0 _ Z;have L:=Qb d.out 1 _ Z;have F:=Qb d.out 2 _ Z;have I:=Qb d.out 3 _ Z;have J:=Qb d.out 4 _ Z;have K:=Qb d.out 5 _ Z;by_cases z:S=0
 rotate_left
 ·have E:=Qf (b.out.trans (Xs z));have R:(S != 0)=true:=bne_iff_ne.2 z;clear z b g;go_wp2
  go_ret;exact⟨by rw[E.out];rfl,j.out⟩
 replace b:=Qf (b.out.trans (Xr (fun h=>h z)));subst z;by_cases s:x.blocks.length<1\/12<x.blocks.length
 ·have E:=Qf (b.out.trans (Xs s));by_cases l:x.blocks.length<1
  ·have G:decide ((x.blocks.length:Int)<1)=true:=Xt (by omega);clear l s b g;go_wp2
   go_ret;exact⟨by rw[E.out];rfl,j.out⟩
  ·have G:decide ((x.blocks.length:Int)<1)=false:=Xu (by omega);have T:decide ((x.blocks.length:Int)>12)=true:=Xt (by omega);clear l s b g;go_wp2
   go_ret;exact⟨by rw[E.out];rfl,j.out⟩
 replace b:=Qf (b.out.trans (Xr s));have R:decide ((x.blocks.length:Int)<1)=false:=Xu (by omega);have d4:decide ((x.blocks.length:Int)>12)=false:=Xu (by omega);clear s;by_cases D:fi=0
 rotate_left
 ·have E:=Qf (b.out.trans (Xr (fun h=>D h.1)));have d5:((fi:Int)==0)=false:=by simpa using D
  clear D b g;go_wp2
  go_ret;exact⟨by rw[E.out];rfl,j.out⟩
 subst D;by_cases q:x.begins
 ·have E:=Qf (b.out.trans (Xr (fun h=>h.2 q)));have g:=Qf (g.out Q j.out);rw[QC q] at g
  clear q b;go_wp2_with fail
  refine g.out.mono ?_;rintro O w4 ⟨rfl,A⟩;have P:=Qf (j.out.trans (A.mono j.out.size));clear A g;go_wp2
  go_ret;exact⟨by rw[E.out];rfl,P.out⟩
 ·have E:=Qf (b.out.trans (Xs ⟨Z,q⟩));have g:=Qf (g.out Q j.out);rw[QB q] at g
  clear q b;go_wp2_with fail
  refine g.out.mono ?_;rintro O w4 ⟨rfl,A⟩;have P:=Qf (j.out.trans (A.mono j.out.size));clear A g;go_wp2
  go_ret;exact⟨by rw[E.out];rfl,P.out⟩
theorem ZN {rest:List Oper}{op:Oper}{a:Act}{Q:Exit->Act->World->Prop}(e:Region.wanted op (yielded ops a.tmps)=true) (c:TypeId) (x:Operand) (f:op.op=.load c x)
 (b o:Nat) (g:a.eval x=Pv b o) (cs:List Value) (d:TypeDesc) (l:w.rangeAt b o cs) (k:P.underlying c=some d) (j:d.isRow=true) (hi:(P.info? c).map (·.size)=some cs.length)
 (h:wpList P ops Q rest (a.put op.dst (.agg cs.toArray)) w):wpList P ops Q (op::rest) a w :=
 wpList_step fun K i=>by
  rw[Xs e]
  exact wp_load_mid c x f b o g cs d l k j hi (i _ _ h)
theorem bkSize:(prog.info? 194).map (·.size)=some 19:=by kernel_rfl
theorem Qiy {m:List (MFunc n)}{x:MFunc n}{d:FP}{y:MBlock n}{b:BP}(k:FIn w All x d) (r:x.small) (l:BIn w All y b) (f:y.small) :
 Rd prog 226 #[.agg (bkA m p c x d fi y b bi)] w (.bool (ZU (y.takes x))):=by
 have o:=Qf (Zd w (.cells (bkA m p c x d fi y b bi) 194));have i:=Qf (Blk.new w (bkA m p c x d fi y b bi) 194);have C:Hid (∀ g,Below w.heap.size w g->Calls prog 260 #[.slice b.pP y.params.length b.cP,.slice d.pP x.params.length d.cP,FV] g fun e F=>ZL e (y.params=x.params)/\Below g.heap.size g F):=fun g v=>QhE n (same_any n) _ _ _ _ _ _ g (QU (Ya l.params v)).1 (QU (Ya k.params v)).1 (by have:=f.2.1.1;omega) f.2.1.2;clear k r l f;unfold Rd;go_enter func226,ntmps226
 go_upto_region 1 with fail
 generalize w.alloc (.cells #[.slice p m.length c,Iv x.regs,.slice d.pP x.params.length d.cP,.slice d.pR x.results.length d.cR,.slice d.pB x.blocks.length d.cB,Iv (fi:Int),Iv y.regs,.slice b.pP y.params.length b.cP,.slice b.pC y.code.length b.cC,Iv y.fin.op,Iv y.fin.a,Iv y.fin.yes.block,.slice b.e.pYR y.fin.yes.regs.length b.e.cYR,.slice b.e.pYA y.fin.yes.args.length b.e.cYA,Iv y.fin.no.block,.slice b.e.pNR y.fin.no.regs.length b.e.cNR,.slice b.e.pNA y.fin.no.args.length b.e.cNA,.slice b.e.pA y.fin.args.length b.e.cA,Iv (bi:Int)] 194)=G at o i |-;generalize u:w.heap.size=X at i |-;have J:=Qf u;clear u;have M:=Qb i.out 1 _ Z;have I:=Qb i.out 2 _ Z;have H:=Qb i.out 6 _ Z;have N:=Qb i.out 7 _ Z;by_cases j:y.regs=x.regs
 ·have B:(y.regs==x.regs)=true:=by simpa using j
  have z:=Qf j;clear j;go_wp2_with fail
  refine(C.out G o.out).mono ?_
  rintro K L ⟨⟨q,rfl,t⟩,s⟩;have D:=Qf (o.out.trans (s.mono o.out.size));have E:Hid (ZU (y.takes x)=q):=(QfP (t.trans ⟨fun h=>⟨z.out,h⟩,fun h=>h.2⟩)).symm;clear s C t;go_wp2
  go_ret;exact⟨by rw[E.out];rfl,D.out⟩
 ·have B:(y.regs==x.regs)=false:=by simpa using j
  have E:=Qf (QB (A:=y.takes x) (fun h=>j h.1));clear j C;go_wp2
  go_ret;exact⟨by rw[E.out];rfl,o.out⟩
theorem Qec {m:List (MFunc n)}{x:MFunc n}{f:FP}{y:MBlock n}{b:BP}(v:FIn w All x f) (A:x.small) (s:BIn w All y b) (q:y.small) :
 Rd prog 180 #[.agg (bkA m p c x f fi y b bi)] w (Iv (y.code' x bi)):=by
 have u:=Qf (Zd w (.cells (bkA m p c x f fi y b bi) 194));have i:=Qf (Blk.new w (bkA m p c x f fi y b bi) 194);have C:Hid (∀ j,Below w.heap.size w j->Calls prog 178 #[.slice b.pP y.params.length b.cP,Iv y.regs] j fun e M=>e=.returned (Iv (listC y.regs y.params))/\Below j.heap.size j M):=fun j J=>QaG (Ya s.params J) q.2.1;have g:Hid (∀ j,Below w.heap.size w j->Calls prog 226 #[.agg #[.slice p m.length c,Iv x.regs,.slice f.pP x.params.length f.cP,.slice f.pR x.results.length f.cR,.slice f.pB x.blocks.length f.cB,Iv (fi:Int),Iv y.regs,.slice b.pP y.params.length b.cP,.slice b.pC y.code.length b.cC,Iv y.fin.op,Iv y.fin.a,Iv y.fin.yes.block,.slice b.e.pYR y.fin.yes.regs.length b.e.cYR,.slice b.e.pYA y.fin.yes.args.length b.e.cYA,Iv y.fin.no.block,.slice b.e.pNR y.fin.no.regs.length b.e.cNR,.slice b.e.pNA y.fin.no.args.length b.e.cNA,.slice b.e.pA y.fin.args.length b.e.cA,Iv (bi:Int)]] j fun e M=>e=.returned (.bool (ZU (y.takes x)))/\Below j.heap.size j M):=fun j J=>Qiy (v.below J) A (s.below J) q;have aa:=q.1;have d:Hid (y.code' x bi=if y.regs<x.regs\/16<y.regs then 1 else if listC y.regs y.params≠0 then listC y.regs y.params else if bi=0/\(y.regs≠x.regs\/QcF y.params x.params=false) then 9 else if 40<y.code.length then 2 else 0):=rfl;generalize y.code' x bi=V at d |-;generalize listC y.regs y.params=S at d C;clear v A s q;unfold Rd;go_enter func180,ntmps180
 go_upto_region 1 with fail
 generalize w.alloc (.cells #[.slice p m.length c,Iv x.regs,.slice f.pP x.params.length f.cP,.slice f.pR x.results.length f.cR,.slice f.pB x.blocks.length f.cB,Iv (fi:Int),Iv y.regs,.slice b.pP y.params.length b.cP,.slice b.pC y.code.length b.cC,Iv y.fin.op,Iv y.fin.a,Iv y.fin.yes.block,.slice b.e.pYR y.fin.yes.regs.length b.e.cYR,.slice b.e.pYA y.fin.yes.args.length b.e.cYA,Iv y.fin.no.block,.slice b.e.pNR y.fin.no.regs.length b.e.cNR,.slice b.e.pNA y.fin.no.args.length b.e.cNA,.slice b.e.pA y.fin.args.length b.e.cA,Iv (bi:Int)] 194)=w1 at u i |-;generalize R:w.heap.size=X at i |-;have HX:=Qf R;clear R;have x1:=Qb i.out 1 _ Z;have U:=Qb i.out 6 _ Z;have x7:=Qb i.out 7 _ Z;have t:=Qb i.out 8 _ Z;have G:=Qb i.out 18 _ Z;by_cases D:y.regs<x.regs\/16<y.regs
 ·have E:=Qf (d.out.trans (Xs D));by_cases H:y.regs<x.regs
  ·have Q:decide (y.regs<x.regs)=true:=Xt H;clear H D d C g;go_wp2
   go_ret;exact⟨by rw[E.out];rfl,u.out⟩
  ·have Q:decide (y.regs<x.regs)=false:=Xu H;have W:decide (y.regs>16)=true:=Xt (by omega);clear H D d C g;go_wp2
   go_ret;exact⟨by rw[E.out];rfl,u.out⟩
 replace d:=Qf (d.out.trans (Xr D));have Q:decide (y.regs<x.regs)=false:=Xu (by omega);have W:decide (y.regs>16)=false:=Xu (by omega);clear D;go_wp2_with fail
 refine(C.out w1 u.out).mono ?_
 rintro N T ⟨rfl,K⟩;have k:=Qf (u.out.trans (K.mono u.out.size));replace i:=Qf (i.out.below K);have L:=Qf (Blk.range (c:=(bkA m p c x f fi y b bi).toList) i.out);clear K C x1 U x7 t G;have t:=Qb i.out 8 _ Z;have G:=Qb i.out 18 _ Z;by_cases B:S=0
 rotate_left
 ·have E:=Qf (d.out.trans (Xs B));have d3:(S != 0)=true:=bne_iff_ne.2 B;clear B d g;go_wp2
  go_ret;exact⟨by rw[E.out];rfl,k.out⟩
 replace d:=Qf (d.out.trans (Xr (fun h=>h B)));subst B;by_cases r:bi=0/\¬ y.takes x
 ·have E:=Qf (d.out.trans (Xs ⟨r.1,QjO r.2⟩));have g:=Qf (g.out T k.out);rw[QB r.2] at g
  have z:=r.1;subst z;clear r d;go_wp2_with (refine ZN Z 194 (.tmp 1) Z X 0 Z (bkA m p c x f fi y b 0).toList _ L.out underlying194 Z bkSize ?_)
  refine g.out.mono ?_;rintro N P ⟨rfl,l⟩;have F:=Qf (k.out.trans (l.mono k.out.size));clear l g;go_wp2
  go_ret;exact⟨by rw[E.out];rfl,F.out⟩
 replace d:=Qf (d.out.trans (Xr (fun h=>r ⟨h.1,fun I=>Qje I h.2⟩)));by_cases z:bi=0
 ·subst z;have I:y.takes x:=Classical.byContradiction (fun h=>r ⟨Z,h⟩);have g:=Qf (g.out T k.out);rw[QC I] at g
  clear r I;by_cases o:40<y.code.length
  ·have O:decide ((y.code.length:Int)>40)=true:=Xt (by omega);have E:=Qf (d.out.trans (Xs o));clear o d;go_wp2_with (refine ZN Z 194 (.tmp 1) Z X 0 Z (bkA m p c x f fi y b 0).toList _ L.out underlying194 Z bkSize ?_)
   refine g.out.mono ?_;rintro N P ⟨rfl,l⟩;have F:=Qf (k.out.trans (l.mono k.out.size));have t:=Qk t l;clear l g;go_wp2
   go_ret;exact⟨by rw[E.out];rfl,F.out⟩
  ·have O:decide ((y.code.length:Int)>40)=false:=Xu (by omega);have E:=Qf (d.out.trans (Xr o));clear o d;go_wp2_with (refine ZN Z 194 (.tmp 1) Z X 0 Z (bkA m p c x f fi y b 0).toList _ L.out underlying194 Z bkSize ?_)
   refine g.out.mono ?_;rintro N P ⟨rfl,l⟩;have F:=Qf (k.out.trans (l.mono k.out.size));have t:=Qk t l;clear l g;go_wp2
   go_ret;exact⟨by rw[E.out];rfl,F.out⟩
 ·have d5:((bi:Int)==0)=false:=by simpa using z
  clear r z g;by_cases o:40<y.code.length
  ·have O:decide ((y.code.length:Int)>40)=true:=Xt (by omega);have E:=Qf (d.out.trans (Xs o));clear o d;go_wp2
   go_ret;exact⟨by rw[E.out];rfl,k.out⟩
  ·have O:decide ((y.code.length:Int)>40)=false:=Xu (by omega);have E:=Qf (d.out.trans (Xr o));clear o d;go_wp2
   go_ret;exact⟨by rw[E.out];rfl,k.out⟩
theorem FbS.start0 (w:World):FbS w (w.alloc (.cells #[Iv 0,Iv 0] 32)) w.heap.size []:=⟨Zd w _,Ze,Blk.new _ _ _,fun i b a=>by simp at a⟩
theorem Qit {l:List Qt}{Bc:Nat}(G:Nat->Qt->Int × Int) (H:insL.list.In w All l [.slice p l.length c]) (aa:l.length<=100000)
 (A:∀ (i:Nat) x (z:IP) wx,l[i]?=some x->IIn wx All x z->Below w.heap.size w wx->Rd prog 183 #[Iv (i:Int),.agg #[Iv x.op,Iv x.a,Iv x.b,Iv x.c,Iv x.k,Iv x.n,.slice z.pR x.regs.length z.cR,.slice z.pA x.args.length z.cA],Pv Bc 0] wx (QG (G i x))) :
 Rd prog 182 #[.slice p l.length c,.func (.func 183) #[] #[Pv Bc 0]] w (QG (firstF G 0 l)):=by
 have HL:=Qf H;have HC:=Qf A;have S:=Qf (FbS.start0 w);have hE:∀ (args:Array Value) (w:World),(callFunc 183 args).run prog w=.ok (.enter 183 args) w:=fun _ _=>by kernel_rfl
 clear H A;unfold Rd;go_enter func182,ntmps182
 go_upto_region 1 with fail
 generalize w.alloc (.cells #[Iv 0,Iv 0] 32)=w1 at S |-;generalize w.heap.size=R at S |-;go_wp2_with fail
 go_loopw [10] (fun i wr=>∃ q:Nat,q<=l.length/\i=Iv q/\FbS w wr R []/\∀ (j:Nat) x,j<q->l[j]?=some x->(G j x).1=0) (fun i _=>l.length - (intOf i).toNat)
 case atStart=>exact⟨0,Xb _,Yz,S.out,fun j z B=>absurd B (XG _)⟩
 case round =>
  obtain⟨q,hq,rfl,hs,t⟩:=hrel
  have e:=Qf hs;have F:=Qf t;clear hs t S;obtain⟨L,O⟩:∃ L,L=wr:=⟨_,Yz⟩
  subst O;by_cases W:q<l.length
  rotate_left
  ·have J:¬ (q:Int)<l.length:=by omega
   have E:firstF G 0 l=(0,0):=Q0 fun j x B=>by rw[XK];exact F.out j x (by have:=(Zi B).1;omega) B
   obtain⟨r0,r1,z0,z1⟩:=e.out.cells
   have D:=Qf (e.out.fin 0 0);go_wp2_with fail
   generalize World.setCell _ _ _=N at D |-;exact Xy (v:=.agg #[Iv 0,Iv 0]) (by simp[results,results182,go_sem,Qb D.out.1 0 _ Yz,Qb D.out.1 1 _ Yz]) Yz ⟨by first | rfl | rw[E],D.out.2⟩
  have J:(q:Int)<l.length:=by omega
  have K:l[q]?=some l[q]:=Zg W;generalize l[q]=x at K;have T:=Qf K;obtain⟨g,o,z,rfl,h,X⟩:=Qib HL.out K
  have HI:=Qf X;have v0:=Qk (show w.cell? ⟨g,o+q*8,none⟩=_ from h 0 _ Yz) e.out.bel;have v1:=Qk (show w.cell? ⟨g,o+q*8+1,none⟩=_ from h 1 _ Yz) e.out.bel;have v2:=Qk (show w.cell? ⟨g,o+q*8+2,none⟩=_ from h 2 _ Yz) e.out.bel;have v3:=Qk (show w.cell? ⟨g,o+q*8+3,none⟩=_ from h 3 _ Yz) e.out.bel;have v4:=Qk (show w.cell? ⟨g,o+q*8+4,none⟩=_ from h 4 _ Yz) e.out.bel;have v5:=Qk (show w.cell? ⟨g,o+q*8+5,none⟩=_ from h 5 _ Yz) e.out.bel;have v6:=Qk (show w.cell? ⟨g,o+q*8+6,none⟩=_ from h 6 _ Yz) e.out.bel;have v7:=Qk (show w.cell? ⟨g,o+q*8+7,none⟩=_ from h 7 _ Yz) e.out.bel;have d:=Qf (e.out.new #[Iv x.op,Iv x.a,Iv x.b,Iv x.c,Iv x.k,Iv x.n,.slice z.pR x.regs.length z.cR,.slice z.pA x.args.length z.cA] 78);clear K h X;go_upto_region 4 with fail
  generalize L.alloc (.cells #[Iv x.op,Iv x.a,Iv x.b,Iv x.c,Iv x.k,Iv x.n,.slice z.pR x.regs.length z.cR,.slice z.pA x.args.length z.cA] 78)=w3 at d |-;generalize L.heap.size=Z at d |-;clear e v0 v1 v2 v3 v4 v5 v6 v7;have t0:=Qb (d.out.box 0 _ Yz) 0 _ Yz;have t1:=Qb (d.out.box 0 _ Yz) 1 _ Yz;have t2:=Qb (d.out.box 0 _ Yz) 2 _ Yz;have t3:=Qb (d.out.box 0 _ Yz) 3 _ Yz;have t4:=Qb (d.out.box 0 _ Yz) 4 _ Yz;have t5:=Qb (d.out.box 0 _ Yz) 5 _ Yz;have t6:=Qb (d.out.box 0 _ Yz) 6 _ Yz;have t7:=Qb (d.out.box 0 _ Yz) 7 _ Yz;have V:=Qf (HC.out q x z w3 T.out (HI.out.below d.out.bel) d.out.bel);unfold Rd at V;obtain⟨m,C,U⟩:∃ m C,G q x=(m,C):=⟨_,_,Yz⟩
  rw[U] at V
  have Q:=Qf U;clear U;go_wp2_with fail
  refine V.out.mono ?_;rintro _ w8 ⟨rfl,b8⟩;have y:=Qf ((d.out.below b8).new #[Iv m,Iv C] 32);clear b8 d;simp only[QG]
  go_upto_region 5 with fail
  generalize w8.alloc (.cells #[Iv m,Iv C] 32)=w9 at y |-;generalize w8.heap.size=F8 at y |-;have f0:=Qb (y.out.box 0 _ Yz) 0 _ Yz;have f1:=Qb (y.out.box 0 _ Yz) 1 _ Yz;have P:Hid (FbS w w9 R []):=⟨y.out.bel,y.out.ge,y.out.r,fun i b hb=>by simp at hb⟩;clear y;by_cases s:m=0
  ·subst s;go_wp2
   go_roundw
   case rel =>
    refine⟨q+1,by omega,by go_num,P.out,fun j u B I=>?_⟩
    by_cases M:j<q
    ·exact F.out j u M I
    ·have:j=q:=by omega
     subst this;rw[T.out] at I
     cases I
     rw[Q.out]
   case measure=>simp[intOf];omega
  ·have d9:(m != 0)=true:=by simpa using s
   have E:firstF G 0 l=(m,C):=by
    have hF:=Qat (f:=G) (j:=0) T.out (fun j u B I=>by rw[XK];exact F.out j u B I) (by rw[XK,Q.out];exact s);rw[XK,Q.out] at hF
    exact hF
   clear s;obtain⟨r0,r1,z0,z1⟩:=P.out.cells
   have D:=Qf (P.out.fin m C);go_wp2_with fail
   generalize World.setCell _ _ _=N at D |-;exact Xy (v:=.agg #[Iv m,Iv C]) (by simp[results,results182,go_sem,Qb D.out.1 0 _ Yz,Qb D.out.1 1 _ Yz]) Yz ⟨by first | rfl | rw[E],D.out.2⟩
theorem Qfx {l:List (MBlock n)}{Bc:Nat}(G:Nat->(MBlock n)->Int × Int) (K:(Zp n).list.In w All l [.slice p l.length c]) (ab:l.length<=100000)
 (A:∀ (i:Nat) x (z:BP) wx,l[i]?=some x->BIn wx All x z->Below w.heap.size w wx->Rd prog 120 #[Iv (i:Int),.agg #[Iv x.regs,.slice z.pP x.params.length z.cP,.slice z.pC x.code.length z.cC,Iv x.fin.op,Iv x.fin.a,Iv x.fin.yes.block,.slice z.e.pYR x.fin.yes.regs.length z.e.cYR,.slice z.e.pYA x.fin.yes.args.length z.e.cYA,Iv x.fin.no.block,.slice z.e.pNR x.fin.no.regs.length z.e.cNR,.slice z.e.pNA x.fin.no.args.length z.e.cNA,.slice z.e.pA x.fin.args.length z.e.cA],Pv Bc 0] wx (QG (G i x))) :
 Rd prog 119 #[.slice p l.length c,.func (.func 120) #[] #[Pv Bc 0]] w (QG (firstF G 0 l)):=by
 have HL:=Qf K;have HC:=Qf A;have S:=Qf (FbS.start0 w);have hE:∀ (args:Array Value) (w:World),(callFunc 120 args).run prog w=.ok (.enter 120 args) w:=fun _ _=>by kernel_rfl
 clear K A;unfold Rd;go_enter func119,ntmps119
 go_upto_region 1 with fail
 generalize w.alloc (.cells #[Iv 0,Iv 0] 32)=w1 at S |-;generalize w.heap.size=R at S |-;go_wp2_with fail
 go_loopw [10] (fun i wr=>∃ q:Nat,q<=l.length/\i=Iv q/\FbS w wr R []/\∀ (j:Nat) x,j<q->l[j]?=some x->(G j x).1=0) (fun i _=>l.length - (intOf i).toNat)
 case atStart=>exact⟨0,Xb _,Yz,S.out,fun j z h=>absurd h (XG _)⟩
 case round =>
  obtain⟨q,hq,rfl,hs,t⟩:=hrel
  have N:=Qf hs;have I:=Qf t;clear hs t S;obtain⟨B,V⟩:∃ B,B=wr:=⟨_,Yz⟩
  subst V;by_cases aa:q<l.length
  rotate_left
  ·have O:¬ (q:Int)<l.length:=by omega
   have E:firstF G 0 l=(0,0):=Q0 fun j x h=>by rw[XK];exact I.out j x (by have:=(Zi h).1;omega) h
   obtain⟨r0,r1,z0,z1⟩:=N.out.cells
   have D:=Qf (N.out.fin 0 0);go_wp2_with fail
   generalize World.setCell _ _ _=U at D |-;exact Xy (v:=.agg #[Iv 0,Iv 0]) (by simp[results,results119,go_sem,Qb D.out.1 0 _ Yz,Qb D.out.1 1 _ Yz]) Yz ⟨by first | rfl | rw[E],D.out.2⟩
  have O:(q:Int)<l.length:=by omega
  have Q:l[q]?=some l[q]:=Zg aa;generalize l[q]=x at Q;have HX:=Qf Q;obtain⟨g,o,z,rfl,X,I3⟩:=Qd6 HL.out Q
  have HI:=Qf I3;generalize m:([Iv x.regs,.slice z.pP x.params.length z.cP,.slice z.pC x.code.length z.cC,Iv x.fin.op,Iv x.fin.a,Iv x.fin.yes.block,.slice z.e.pYR x.fin.yes.regs.length z.e.cYR,.slice z.e.pYA x.fin.yes.args.length z.e.cYA,Iv x.fin.no.block,.slice z.e.pNR x.fin.no.regs.length z.e.cNR,.slice z.e.pNA x.fin.no.args.length z.e.cNA,.slice z.e.pA x.fin.args.length z.e.cA]:List Value)=d at X;have hl:d.length=12:=by rw[<-m];rfl
  have C:=Qf (Qm1.of B hl);have TO:Hid (d.toArray.all (·.oneCell')=true):=by show _=_;rw[<-m];exact all_oneCell_toArray (Xe.1 Yz)
  have RG:Hid (B.rangeAt g (o+q*12) d):=fun j v h=>Qk (X j v h) N.out.bel;clear Q X I3 hl;go_upto_region 4 with (first | (refine wpList_load_mid Yz 86 (.tmp 13) Yz g (o+q*12) Yz d _ RG.out underlying86 Yz C.out.size ?_) | (refine wpList_store_mid Yz 86 (.tmp 6) (.tmp 14) Yz B.heap.size 0 d.toArray Yz Yz C.out.there C.out.size2 TO.out ?_))
  have H:=Qf ((N.out.below C.out.bel).add C.out.blk);have TS:=Qf C.out.size;clear N RG TO C;generalize (B.alloc (.cells #[Iv 0,Nv,Nv,Iv 0,Iv 0,Iv 0,Nv,Nv,Iv 0,Nv,Nv,Nv] 86)).setCells B.heap.size 0 d=J at H |-;generalize B.heap.size=Z at H |-;have RZ:Hid (J.rangeAt Z 0 d):=Blk.range (H.out.box 0 _ Yz);have CC:=Qf (HC.out q x z J HX.out (HI.out.below H.out.bel) H.out.bel);unfold Rd at CC;have L:Hid (([Iv x.regs,.slice z.pP x.params.length z.cP,.slice z.pC x.code.length z.cC,Iv x.fin.op,Iv x.fin.a,Iv x.fin.yes.block,.slice z.e.pYR x.fin.yes.regs.length z.e.cYR,.slice z.e.pYA x.fin.yes.args.length z.e.cYA,Iv x.fin.no.block,.slice z.e.pNR x.fin.no.regs.length z.e.cNR,.slice z.e.pNA x.fin.no.args.length z.e.cNA,.slice z.e.pA x.fin.args.length z.e.cA]:List Value)=d):=m;have P:Hid (Calls prog 120 #[Iv (q:Int),.agg d.toArray,Pv Bc 0] J fun e w'=>e=.returned (QG (G q x))/\Below J.heap.size J w'):=by rw[<-L.out];exact CC.out
  clear CC L m;obtain⟨k,F,hg⟩:∃ k F,G q x=(k,F):=⟨_,_,Yz⟩
  rw[hg] at P
  have HG:=Qf hg;clear hg;go_wp2_with (refine wpList_load_mid Yz 86 (.tmp 6) Yz Z 0 Yz d _ RZ.out underlying86 Yz TS.out ?_)
  refine P.out.mono ?_;rintro _ w8 ⟨rfl,b8⟩;have y:=Qf ((H.out.below b8).new #[Iv k,Iv F] 32);clear b8 H;simp only[QG]
  go_upto_region 5 with fail
  generalize w8.alloc (.cells #[Iv k,Iv F] 32)=w9 at y |-;generalize w8.heap.size=F8 at y |-;have f0:=Qb (y.out.box 0 _ Yz) 0 _ Yz;have f1:=Qb (y.out.box 0 _ Yz) 1 _ Yz;have W:Hid (FbS w w9 R []):=⟨y.out.bel,y.out.ge,y.out.r,fun i b hb=>by simp at hb⟩;clear y;by_cases s:k=0
  ·subst s;go_wp2
   go_roundw
   case rel =>
    refine⟨q+1,by omega,by go_num,W.out,fun j u h M=>?_⟩
    by_cases T:j<q
    ·exact I.out j u T M
    ·have:j=q:=by omega
     subst this;rw[HX.out] at M
     cases M
     rw[HG.out]
   case measure=>simp[intOf];omega
  ·have d9:(k != 0)=true:=by simpa using s
   have E:firstF G 0 l=(k,F):=by
    have hF:=Qat (f:=G) (j:=0) HX.out (fun j u h M=>by rw[XK];exact I.out j u h M) (by rw[XK,HG.out];exact s);rw[XK,HG.out] at hF
    exact hF
   clear s;obtain⟨r0,r1,z0,z1⟩:=W.out.cells
   have D:=Qf (W.out.fin k F);go_wp2_with fail
   generalize World.setCell _ _ _=U at D |-;exact Xy (v:=.agg #[Iv k,Iv F]) (by simp[results,results119,go_sem,Qb D.out.1 0 _ Yz,Qb D.out.1 1 _ Yz]) Yz ⟨by first | rfl | rw[E],D.out.2⟩
theorem Qg2 {l:List (MFunc n)}{Bc:Nat}(G:Nat->(MFunc n)->Int × Int) (B:(QaM n).In w All l [.slice p l.length c]) (aa:l.length<=100000)
 (m:∀ (i:Nat) x (z:FP) wx,l[i]?=some x->FIn wx All x z->Below w.heap.size w wx->Rd prog 74 #[Iv (i:Int),.agg #[Iv x.regs,.slice z.pP x.params.length z.cP,.slice z.pR x.results.length z.cR,.slice z.pB x.blocks.length z.cB],Pv Bc 0] wx (QG (G i x))) :
 Rd prog 73 #[.slice p l.length c,.func (.func 74) #[] #[Pv Bc 0]] w (QG (firstF G 0 l)):=by
 have HL:=Qf B;have HC:=Qf m;have S:=Qf (FbS.start0 w);have hE:∀ (args:Array Value) (w:World),(callFunc 74 args).run prog w=.ok (.enter 74 args) w:=fun _ _=>by kernel_rfl
 clear B m;unfold Rd;go_enter func73,ntmps73
 go_upto_region 1 with fail
 generalize w.alloc (.cells #[Iv 0,Iv 0] 32)=w1 at S |-;generalize w.heap.size=R at S |-;go_wp2_with fail
 go_loopw [10] (fun i wr=>∃ q:Nat,q<=l.length/\i=Iv q/\FbS w wr R []/\∀ (j:Nat) x,j<q->l[j]?=some x->(G j x).1=0) (fun i _=>l.length - (intOf i).toNat)
 case atStart=>exact⟨0,Xb _,Yz,S.out,fun j z t=>absurd t (XG _)⟩
 case round =>
  obtain⟨q,hq,rfl,W,h⟩:=hrel
  have s:=Qf W;have A:=Qf h;clear W h S;obtain⟨J,M⟩:∃ J,J=wr:=⟨_,Yz⟩
  subst M;by_cases U:q<l.length
  rotate_left
  ·have H:¬ (q:Int)<l.length:=by omega
   have E:firstF G 0 l=(0,0):=Q0 fun j x t=>by rw[XK];exact A.out j x (by have:=(Zi t).1;omega) t
   obtain⟨r0,r1,z0,z1⟩:=s.out.cells
   have D:=Qf (s.out.fin 0 0);go_wp2_with fail
   generalize World.setCell _ _ _=L at D |-;exact Xy (v:=.agg #[Iv 0,Iv 0]) (by simp[results,results73,go_sem,Qb D.out.1 0 _ Yz,Qb D.out.1 1 _ Yz]) Yz ⟨by first | rfl | rw[E],D.out.2⟩
  have H:(q:Int)<l.length:=by omega
  have I:l[q]?=some l[q]:=Zg U;generalize l[q]=x at I;have P:=Qf I;obtain⟨g,o,z,rfl,C,V⟩:=Qfy HL.out I
  have HI:=Qf V;have v0:=Qk (show w.cell? ⟨g,o+q*4,none⟩=_ from C 0 _ Yz) s.out.bel;have v1:=Qk (show w.cell? ⟨g,o+q*4+1,none⟩=_ from C 1 _ Yz) s.out.bel;have v2:=Qk (show w.cell? ⟨g,o+q*4+2,none⟩=_ from C 2 _ Yz) s.out.bel;have v3:=Qk (show w.cell? ⟨g,o+q*4+3,none⟩=_ from C 3 _ Yz) s.out.bel;have a:=Qf (s.out.new #[Iv x.regs,.slice z.pP x.params.length z.cP,.slice z.pR x.results.length z.cR,.slice z.pB x.blocks.length z.cB] 89);clear I C V;go_upto_region 4 with fail
  generalize J.alloc (.cells #[Iv x.regs,.slice z.pP x.params.length z.cP,.slice z.pR x.results.length z.cR,.slice z.pB x.blocks.length z.cB] 89)=w3 at a |-;generalize J.heap.size=Z at a |-;clear s v0 v1 v2 v3;have t0:=Qb (a.out.box 0 _ Yz) 0 _ Yz;have t1:=Qb (a.out.box 0 _ Yz) 1 _ Yz;have t2:=Qb (a.out.box 0 _ Yz) 2 _ Yz;have t3:=Qb (a.out.box 0 _ Yz) 3 _ Yz;have T:=Qf (HC.out q x z w3 P.out (HI.out.below a.out.bel) a.out.bel);unfold Rd at T;obtain⟨d,y,Q⟩:∃ d y,G q x=(d,y):=⟨_,_,Yz⟩
  rw[Q] at T
  have O:=Qf Q;clear Q;go_wp2_with fail
  refine T.out.mono ?_;rintro _ w8 ⟨rfl,X⟩;have k:=Qf ((a.out.below X).new #[Iv d,Iv y] 32);clear X a;simp only[QG]
  go_upto_region 5 with fail
  generalize w8.alloc (.cells #[Iv d,Iv y] 32)=w9 at k |-;generalize w8.heap.size=F8 at k |-;have f0:=Qb (k.out.box 0 _ Yz) 0 _ Yz;have f1:=Qb (k.out.box 0 _ Yz) 1 _ Yz;have N:Hid (FbS w w9 R []):=⟨k.out.bel,k.out.ge,k.out.r,fun i b hb=>by simp at hb⟩;clear k;by_cases e:d=0
  ·subst e;go_wp2
   go_roundw
   case rel =>
    refine⟨q+1,by omega,by go_num,N.out,fun j u t F=>?_⟩
    by_cases K:j<q
    ·exact A.out j u K F
    ·have:j=q:=by omega
     subst this;rw[P.out] at F
     cases F
     rw[O.out]
   case measure=>simp[intOf];omega
  ·have d9:(d != 0)=true:=by simpa using e
   have E:firstF G 0 l=(d,y):=by
    have hF:=Qat (f:=G) (j:=0) P.out (fun j u t F=>by rw[XK];exact A.out j u t F) (by rw[XK,O.out];exact e);rw[XK,O.out] at hF
    exact hF
   clear e;obtain⟨r0,r1,z0,z1⟩:=N.out.cells
   have D:=Qf (N.out.fin d y);go_wp2_with fail
   generalize World.setCell _ _ _=L at D |-;exact Xy (v:=.agg #[Iv d,Iv y]) (by simp[results,results73,go_sem,Qb D.out.1 0 _ Yz,Qb D.out.1 1 _ Yz]) Yz ⟨by first | rfl | rw[E],D.out.2⟩
abbrev iA (z:Qt) (zi:IP):Array Value:=#[Iv z.op,Iv z.a,Iv z.b,Iv z.c,Iv z.k,Iv z.n,.slice zi.pR z.regs.length zi.cR,.slice zi.pA z.args.length zi.cA]
abbrev fA {n:Nat}(x:MFunc n) (fp:FP):Array Value:=#[Iv x.regs,.slice fp.pP x.params.length fp.cP,.slice fp.pR x.results.length fp.cR,.slice fp.pB x.blocks.length fp.cB]
abbrev eA {n:Nat}(y:MBlock n) (bp:BP):Array Value:=#[Iv y.fin.op,Iv y.fin.a,Iv y.fin.yes.block,.slice bp.e.pYR y.fin.yes.regs.length bp.e.cYR,.slice bp.e.pYA y.fin.yes.args.length bp.e.cYA,Iv y.fin.no.block,.slice bp.e.pNR y.fin.no.regs.length bp.e.cNR,.slice bp.e.pNA y.fin.no.args.length bp.e.cNA,.slice bp.e.pA y.fin.args.length bp.e.cA]
abbrev bA {n:Nat}(y:MBlock n) (bp:BP):Array Value:=#[Iv y.regs,.slice bp.pP y.params.length bp.cP,.slice bp.pC y.code.length bp.cC,Iv y.fin.op,Iv y.fin.a,Iv y.fin.yes.block,.slice bp.e.pYR y.fin.yes.regs.length bp.e.cYR,.slice bp.e.pYA y.fin.yes.args.length bp.e.cYA,Iv y.fin.no.block,.slice bp.e.pNR y.fin.no.regs.length bp.e.cNR,.slice bp.e.pNA y.fin.no.args.length bp.e.cNA,.slice bp.e.pA y.fin.args.length bp.e.cA]
abbrev lA {n:Nat}(m:List (MFunc n)) (p:Option Addr) (c:Nat) (x:MFunc n) (fp:FP) (fi:Nat):Array Value:=#[.slice p m.length c,Iv x.regs,.slice fp.pP x.params.length fp.cP,.slice fp.pR x.results.length fp.cR,.slice fp.pB x.blocks.length fp.cB,Iv (fi:Int)]
theorem bkSizeE:(prog.info? 84).map (·.size)=some 9:=by kernel_rfl
def QnV (w6:World) (Bc X q N c fi bi:Nat) (p:Option Addr) (z:Qt) (zi:IP) (vf vp v0 v1:Int) (t:Tmp) (v:Value) (w:World):Prop :=
 v=(([(2,Pv Bc 0),(4,Pv X 0),(0,Iv (q:Int)),(6,Pv Bc 0),(7,Pv Bc 0),(8,.agg #[.slice p N c]),(9,.agg (iA z zi)),(10,Iv vf),(11,Pv Bc 0),(12,Pv Bc 5),(13,Iv (fi:Int)),(14,Pv Bc 18),(15,Iv (bi:Int)),(16,Iv (q:Int)),(17,Iv vp),(18,.agg #[Iv v0,Iv v1])]:List (Tmp × Value)).lookup t).getD undef
theorem kd1 {Bc:Nat}{z:Qt}{l:IP}{x y o u:Int}(D:w6.cell? ⟨Bc,0,none⟩=some (.slice p N c)) (L:w6.cell? ⟨Bc,5,none⟩=some (Iv (fi:Int))) (s:w6.cell? ⟨Bc,18,none⟩=some (Iv (bi:Int))) (d:Hid (Blk w6 X (iA z l) 78)) (F:Hid (∀ w,Below w6.heap.size w6 w->Calls prog 184 #[.agg #[.slice p N c],.agg (iA z l)] w fun e w'=>e=.returned (Iv x)/\Below w.heap.size w w')) (O:Hid (∀ w,Below w6.heap.size w6 w->Calls prog 130 #[Iv (fi:Int),Iv (bi:Int),Iv (q:Int)] w fun e w'=>e=.returned (Iv y)/\Below w.heap.size w w')) (H:Hid (∀ w,Below w6.heap.size w6 w->Calls prog 117 #[Iv x,Iv y] w fun e w'=>e=.returned (.agg #[Iv o,Iv u])/\Below w.heap.size w w')){Q:Exit->Act->World->Prop}
 (a:Act) (m:Nat) (M:a.tmps.size=m) (r:19<=m) (I:a.tmps.getD 2 undef=Pv Bc 0) (E:a.tmps.getD 4 undef=Pv X 0) (C:a.tmps.getD 0 undef=Iv (q:Int))
 (hend:∀ ops vs w',vs 18=.agg #[Iv o,Iv u]->Below w6.heap.size w6 w'->wpList prog ops Q (Qal 13 ((Tryz.f183.body.bind (Qi 1)).getD .skip)) (QM a vs [6,7,8,9,10,11,12,13,14,15,16,17,18]) w') :
 Code.wp prog ((Tryz.f183.body.bind (Qi 1)).getD .skip) Q a w6:=by
 conv=>arg 2;whnf
 refine Qg 13 (QnV w6 Bc X q N c fi bi p z l x y o u) (fun w=>Below w6.heap.size w6 w) (fun w w'=>Below w.heap.size w w') (outs:=[2,4,0]) (gs:=[]) (bs:=[true,true,true,true,true,true,true,true,true,true,true,true,true]) (by kernel_rfl) (n:=19) M r (by kernel_rfl) (by kernel_rfl) ?hR ?hG (QI Zr 1) ⟨I,E,C,Y⟩ ?hA ?hend
 case hR=>exact fun t v w w' _ h=>h
 case hG=>exact Y
 case hend=>exact fun ops vs w' b i=>hend ops vs w' (i 18 (by kernel_rfl)) b
 case hA =>
  repeat
   refine⟨fun a w b i K k=>?_,?_⟩
   focus first
    | obtain⟨g,-⟩:=i
      conv at g=>whnf;rhs;whnf
      have c0:=Qk D b;have U:=Qk (Qb d.out 0 _ Z) b;have W:=Qk (Qb d.out 1 _ Z) b;have V:=Qk (Qb d.out 2 _ Z) b;have S:=Qk (Qb d.out 3 _ Z) b;have R:=Qk (Qb d.out 4 _ Z) b;have c6:=Qk (Qb d.out 5 _ Z) b;have P:=Qk (Qb d.out 6 _ Z) b;have c8:=Qk (Qb d.out 7 _ Z) b;have T:=Qk L b;have J:=Qk s b;go_simp;exact k _ _ Zr b Z
    | obtain⟨g,j,-⟩:=i
      conv at g=>whnf;rhs;whnf
      conv at j=>whnf;rhs;whnf
      go_simp;refine Xm (F.out w b) ?_;rintro A B ⟨rfl,f⟩;go_simp;exact k _ _ f (b.trans (f.mono b.size)) Z
    | obtain⟨g,j,-⟩:=i
      conv at g=>whnf;rhs;whnf
      conv at j=>whnf;rhs;whnf
      go_simp;refine Xm (H.out w b) ?_;rintro A B ⟨rfl,f⟩;go_simp;exact k _ _ f (b.trans (f.mono b.size)) Z
    | obtain⟨g,j,G,-⟩:=i
      conv at g=>whnf;rhs;whnf
      conv at j=>whnf;rhs;whnf
      conv at G=>whnf;rhs;whnf
      go_simp;refine Xm (O.out w b) ?_;rintro A B ⟨rfl,f⟩;go_simp;exact k _ _ f (b.trans (f.mono b.size)) Z
  trivial
def Qn7 {n:Nat}(w6:World) (X fi bi:Nat) (x:MFunc n) (fp:FP) (y:MBlock n) (bp:BP) (vf vp v0 v1:Int) (t:Tmp) (v:Value) (w:World):Prop :=
 v=(([(1,Pv X 0),(26,Pv X 0),(27,Pv X 1),(28,.agg (fA x fp)),(29,Pv X 6),(30,Pv X 9),(31,.agg (eA y bp)),(32,Iv vf),(33,Pv X 0),(34,Pv X 5),(35,Iv (fi:Int)),(36,Pv X 18),(37,Iv (bi:Int)),(38,Iv vp),(39,.agg #[Iv v0,Iv v1])]:List (Tmp × Value)).lookup t).getD undef
theorem kd7 {m:List (MFunc n)}{x:MFunc n}{z:FP}{y:MBlock n}{l:BP}{A B q u:Int}(i:Hid (Blk w6 X (bkA m p c x z fi y l bi) 194)) (s:Hid (w6.rangeAt X 9 (eA y l).toList)) (E:Hid (∀ w,Below w6.heap.size w6 w->Calls prog 185 #[.agg (fA x z),.agg (eA y l)] w fun e w'=>e=.returned (Iv A)/\Below w.heap.size w w')) (J:Hid (∀ w,Below w6.heap.size w6 w->Calls prog 131 #[Iv (fi:Int),Iv (bi:Int)] w fun e w'=>e=.returned (Iv B)/\Below w.heap.size w w')) (F:Hid (∀ w,Below w6.heap.size w6 w->Calls prog 117 #[Iv A,Iv B] w fun e w'=>e=.returned (.agg #[Iv q,Iv u])/\Below w.heap.size w w')){Q:Exit->Act->World->Prop}
 (a:Act) (m:Nat) (I:a.tmps.size=m) (r:40<=m) (H:a.tmps.getD 1 undef=Pv X 0)
 (hend:∀ ops vs w',vs 39=.agg #[Iv q,Iv u]->Below w6.heap.size w6 w'->wpList prog ops Q (Qal 14 ((Tryz.f121.body.bind (Qi 7)).getD .skip)) (QM a vs [26,27,28,29,30,31,32,33,34,35,36,37,38,39]) w') :
 Code.wp prog ((Tryz.f121.body.bind (Qi 7)).getD .skip) Q a w6:=by
 conv=>arg 2;whnf
 refine Qg 14 (Qn7 w6 X fi bi x z y l A B q u) (fun w=>Below w6.heap.size w6 w) (fun w w'=>Below w.heap.size w w') (outs:=[1]) (gs:=[]) (bs:=[true,true,true,true,true,true,true,true,true,true,true,true,true,true]) (by kernel_rfl) (n:=40) I r (by kernel_rfl) (by kernel_rfl) ?hR ?hG (QI Zr 1) ⟨H,Y⟩ ?hA ?hend
 case hR=>exact fun t v w w' _ h=>h
 case hG=>exact Y
 case hend=>exact fun ops vs w' b g=>hend ops vs w' (g 39 (by kernel_rfl)) b
 case hA =>
  repeat
   refine⟨fun a w b g K o=>?_,?_⟩
   focus first
    | obtain⟨d,-⟩:=g
      conv at d=>whnf;rhs;whnf
      have R:=Qk (Qb i.out 1 _ Z) b;have N:=Qk (Qb i.out 2 _ Z) b;have P:=Qk (Qb i.out 3 _ Z) b;have O:=Qk (Qb i.out 4 _ Z) b;have M:=Qk (Qb i.out 5 _ Z) b;have L:=Qk (Qb i.out 18 _ Z) b;go_simp;exact o _ _ Zr b Z
    | obtain⟨d,-⟩:=g
      conv at d=>whnf;rhs;whnf
      exact wp_load_mid 84 (.tmp 30) Z X 9 d (eA y l).toList _ (fun j v G=>Qk (s.out j v G) b) underlying84 Z bkSizeE (o _ _ Zr b Z)
    | obtain⟨d,k,-⟩:=g
      conv at d=>whnf;rhs;whnf
      conv at k=>whnf;rhs;whnf
      go_simp;refine Xm (E.out w b) ?_;rintro C D ⟨rfl,f⟩;go_simp;exact o _ _ f (b.trans (f.mono b.size)) Z
    | obtain⟨d,k,-⟩:=g
      conv at d=>whnf;rhs;whnf
      conv at k=>whnf;rhs;whnf
      go_simp;refine Xm (J.out w b) ?_;rintro C D ⟨rfl,f⟩;go_simp;exact o _ _ f (b.trans (f.mono b.size)) Z
    | obtain⟨d,k,-⟩:=g
      conv at d=>whnf;rhs;whnf
      conv at k=>whnf;rhs;whnf
      go_simp;refine Xm (F.out w b) ?_;rintro C D ⟨rfl,f⟩;go_simp;exact o _ _ f (b.trans (f.mono b.size)) Z
  trivial
theorem Qi4 {m:List (MFunc n)}{x:MFunc n}{D:FP}{y:MBlock n}{A:BP}{Bc:Nat}{z:Qt}{i:IP}(B:q<1000000) (K:m.length<=100000) (o:fi<1000000) (s:bi<1000000) (d:Blk w Bc (bkA m p c x D fi y A bi) 194) :
 Rd prog 183 #[Iv (q:Int),.agg (iA z i),Pv Bc 0] w (QG (atF (z.form m.length) (10000*(fi:Int)+100*(bi:Int)+(q:Int)))):=by
 have f:=((Bxs.start w).new (iA z i) 78).new #[Iv 0,Iv 0] 32;rw[World.size_alloc] at f
 have f:=Qf f;have H:=Qf d;have C:Hid (∀ b:World,Calls prog 184 #[.agg #[.slice p m.length c],.agg (iA z i)] b fun e j=>e=.returned (Iv (z.form m.length))/\Below b.heap.size b j):=fun b=>Qgx m.length z i p c b (by omega);have I:Hid (∀ b:World,Calls prog 130 #[Iv (fi:Int),Iv (bi:Int),Iv (q:Int)] b fun e j=>e=.returned (Iv (10000*(fi:Int)+100*(bi:Int)+(q:Int)))/\Below b.heap.size b j):=fun b=>QdL ⟨o,s,B⟩;have u:Hid (∀ b:World,Calls prog 117 #[Iv (z.form m.length),Iv (10000*(fi:Int)+100*(bi:Int)+(q:Int))] b fun e j=>e=.returned (.agg #[Iv (atF (z.form m.length) (10000*(fi:Int)+100*(bi:Int)+(q:Int))).1,Iv (atF (z.form m.length) (10000*(fi:Int)+100*(bi:Int)+(q:Int))).2])/\Below b.heap.size b j):=fun b=>Qbn;generalize G:atF (z.form m.length) (10000*(fi:Int)+100*(bi:Int)+(q:Int))=v at u |-;clear d G;unfold Rd;go_enter func183,ntmps183
 go_upto_region 1 with fail
 generalize (w.alloc (.cells (iA z i) 78)).alloc (.cells #[Iv 0,Iv 0] 32)=O at f |-;generalize w.heap.size+1=R at f |-;generalize w.heap.size=X at f |-;have g:=Qf (H.out.below f.out.bel);refine kd1 (Qb g.out 0 _ Z) (Qb g.out 5 _ Z) (Qb g.out 18 _ Z) (f.out.at (a:=[_])) (fun b _=>C.out b) (fun b _=>I.out b) (fun b _=>u.out b) _ _ Z (Xg (by kernel_rfl)) Z Z Z ?_;rintro r F E k t;have h:=Qf (f.out.below t);clear t f g;show wpList _ r _ [_] (QM _ F [6,7,8,9,10,11,12,13,14,15,16,17,18]) E;simp only[QM,Act.put,List.setIfInBounds_toArray,List.set_cons_zero,List.set_cons_succ,k]
 have M:=h.out.cell (a:=[]) 0 _ Z;have N:=h.out.cell (a:=[]) 1 _ Z;have L:=h.out.free (a:=[]) 0;have J:=h.out.free (a:=[]) 1;have l:=Qf ((h.out.set (a:=[]) 0 (Iv (v.1))).set (a:=[]) 1 (Iv (v.2)));go_wp2
 exact Xy (v:=QG v) (by simp[results,results183,go_sem,l.out.cell (a:=[]) 0 _ Z,l.out.cell (a:=[]) 1 _ Z]) Z ⟨Z,l.out.bel⟩
theorem QcW {m:List (MFunc n)}{x:MFunc n}{A:FP}{y:MBlock n}{o:BP}(G:FIn w All x A) (u:x.small) (H:BIn w All y o) (q:y.small) (hm:m.length<=100000) (s:fi<1000000) (t:bi<1000000) :
 Rd prog 121 #[.agg (bkA m p c x A fi y o bi)] w (QG (MBlock.fault m.length fi x bi y)):=by
 have r:=((Bxs.start w).new (bkA m p c x A fi y o bi) 194).new #[Iv 0,Iv 0] 32;rw[World.size_alloc] at r
 have r:=Qf r;have HB:=Qf (Xh hm (Xh s t));have I:=Qf (Xh G (Xh u (Xh H q)));have g:=Qf (MBlock.fault_eq m.length fi x bi y);have EI:=QeD (f:=fun i z=>(Qt.form m.length z,(10000*(fi:Int)+100*(bi:Int)+(i:Int)))) (l:=y.code) (j:=0);dsimp only at EI
 have CC:Hid (∀ b,Below w.heap.size w b->Calls prog 180 #[.agg (bkA m p c x A fi y o bi)] b fun e C=>e=.returned (Iv (y.code' x bi))/\Below b.heap.size b C):=fun b bx=>Qec (G.below bx) u (H.below bx) q;have CF:Hid (∀ (T S:Int) (b:World),Calls prog 117 #[Iv T,Iv S] b fun e C=>e=.returned (.agg #[Iv (atF T S).1,Iv (atF T S).2])/\Below b.heap.size b C):=fun T S b=>Qbn;have CB:Hid (∀ b:World,Calls prog 181 #[Iv (fi:Int),Iv (bi:Int)] b fun e C=>e=.returned (Iv (10000*(fi:Int)+100*(bi:Int)+90))/\Below b.heap.size b C):=fun b=>Qe5 ⟨s,t⟩;have CA:Hid (∀ b:World,Calls prog 131 #[Iv (fi:Int),Iv (bi:Int)] b fun e C=>e=.returned (Iv (10000*(fi:Int)+100*(bi:Int)+91))/\Below b.heap.size b C):=fun b=>QdH ⟨s,t⟩;have CE:Hid (∀ b:World,Calls prog 185 #[.agg (fA x A),.agg (eA y o)] b fun e C=>e=.returned (Iv (y.fin.form x.blocks.length))/\Below b.heap.size b C):=fun b=>QgG (by obtain⟨a1,a2⟩:=q.2.2.1.1;obtain⟨a3,a4⟩:=q.2.2.1.2.1;exact⟨by omega,by omega,by omega,by omega⟩) (by have:=u.1;omega);rw[<-EI] at g
 have g:=Qf g.out;generalize MBlock.fault m.length fi x bi y=V at g |-;generalize y.code' x bi=v at g CC;clear G u H q hm s t EI;unfold Rd;go_enter func121,ntmps121
 go_upto_region 1 with fail
 generalize (w.alloc (.cells (bkA m p c x A fi y o bi) 194)).alloc (.cells #[Iv 0,Iv 0] 32)=w1 at r |-;generalize w.heap.size+1=R at r |-;generalize w.heap.size=X at r |-;have RG:=Qf (Blk.range (c:=(bkA m p c x A fi y o bi).toList) (r.out.at (a:=[_])));go_wp2_with (refine ZN Z 194 (.tmp 1) Z X 0 Z (bkA m p c x A fi y o bi).toList _ RG.out underlying194 Z bkSize ?_)
 refine(CC.out w1 r.out.bel).mono ?_
 rintro e' P ⟨rfl,b2⟩;have B:=Qf (r.out.below b2);clear b2 RG r CC;have x5:P.cell? ⟨X,5,none⟩=some (Iv (fi:Int)):=B.out.cell (a:=[_]) 5 _ Z;have x8:P.cell? ⟨X,8,none⟩=some (.slice o.pC y.code.length o.cC):=B.out.cell (a:=[_]) 8 _ Z;have O:P.cell? ⟨X,18,none⟩=some (Iv (bi:Int)):=B.out.cell (a:=[_]) 18 _ Z;by_cases K:v=0
 rotate_left
 ·have E:=Qf (g.out.trans (Xr K));have dv:(v != 0)=true:=bne_iff_ne.2 K;have HV:=Qf K;clear K g CE CA;go_wp2_with fail
  refine(CB.out P).mono ?_
  rintro e' Q ⟨rfl,M⟩;have d:=Qf (B.out.below M);clear M B x5 x8 O;go_wp2_with fail
  refine(CF.out v (10000*(fi:Int)+100*(bi:Int)+90) Q).mono ?_
  rintro e' w4 ⟨rfl,b4⟩;have N:=Qf (d.out.below b4);clear b4 d;have EA:Hid (atF v (10000*(fi:Int)+100*(bi:Int)+90)=V):=(Xr HV.out).trans E.out.symm;rw[EA.out]
  have r0:=N.out.cell (a:=[]) 0 _ Z;have r1:=N.out.cell (a:=[]) 1 _ Z;have z0:=N.out.free (a:=[]) 0;have z1:=N.out.free (a:=[]) 1;have k:=Qf ((N.out.set (a:=[]) 0 (Iv (V.1))).set (a:=[]) 1 (Iv (V.2)));go_wp2
  exact Xy (v:=QG V) (by simp[results,results121,go_sem,k.out.cell (a:=[]) 0 _ Z,k.out.cell (a:=[]) 1 _ Z]) Z ⟨Z,k.out.bel⟩
 replace g:=Qf (g.out.trans (Xs K));subst K;have U:=Qf (Qit (w:=P) (Bc:=X) (fun i z=>atF (Qt.form m.length z) (10000*(fi:Int)+100*(bi:Int)+(i:Int))) (Ya I.out.2.2.1.code B.out.bel) (by have:=I.out.2.2.2.1;omega) (fun i z zi b hz hi hb=>Qi4 (y:=y) (by have h8:=I.out.2.2.2.1;have h9:=(Zi hz).1;omega) HB.out.1 HB.out.2.1 HB.out.2.2 ((B.out.at (a:=[_])).below hb)));unfold Rd at U;generalize firstF (fun i z=>atF (Qt.form m.length z) (10000*(fi:Int)+100*(bi:Int)+(i:Int))) 0 y.code=h at g U;go_wp2_with fail
 refine U.out.mono ?_;rintro e' Q ⟨rfl,M⟩;have d:=Qf ((B.out.below M).new #[Iv h.1,Iv h.2] 32);clear M B x5 x8 O U;go_upto_region 5 with fail
 generalize Q.alloc (.cells #[Iv h.1,Iv h.2] 32)=w4 at d |-;generalize Q.heap.size=F at d |-;have y0:w4.cell? ⟨F,0,none⟩=some (Iv h.1):=d.out.cell (a:=[]) 0 _ Z;have y1:w4.cell? ⟨F,1,none⟩=some (Iv h.2):=d.out.cell (a:=[]) 1 _ Z;by_cases J:h.1=0
 rotate_left
 ·have E:=Qf (g.out.trans (Xr J));have df:(h.1 != 0)=true:=bne_iff_ne.2 J;clear J g;have r0:=d.out.cell (a:=[_]) 0 _ Z;have r1:=d.out.cell (a:=[_]) 1 _ Z;have z0:=d.out.free (a:=[_]) 0;have z1:=d.out.free (a:=[_]) 1;have k:=Qf ((d.out.set (a:=[_]) 0 (Iv (h.1))).set (a:=[_]) 1 (Iv (h.2)));go_wp2
  exact Xy (v:=QG h) (by simp[results,results121,go_sem,k.out.cell (a:=[_]) 0 _ Z,k.out.cell (a:=[_]) 1 _ Z]) Z ⟨by rw[E.out],k.out.bel⟩
 have E:=Qf (g.out.trans (Xs J));have df:(h.1 != 0)=false:=by simpa using J
 clear J g;go_upto_region 7 with fail
 clear y0 y1;have HX:=Qf (d.out.at (a:=[_,_]));refine kd7 HX (fun j v hj=>by have h8:=(Blk.range (c:=(bkA m p c x A fi y o bi).toList) HX.out) (9+j) v (by rcases j with _ | _ | _ | _ | _ | _ | _ | _ | _ | j<;>first | exact hj | simp at hj);rwa [XK] at h8) (fun b _=>CE.out b) (fun b _=>CA.out b) (fun b _=>CF.out _ _ b) _ _ Z (Xg (by kernel_rfl)) Z ?_;rintro W vs w5 D b5;have L:=Qf (d.out.below b5);clear b5 d HX;rw[<-E.out] at D
 show wpList _ W _ [_] (QM _ vs [26,27,28,29,30,31,32,33,34,35,36,37,38,39]) w5;simp only[QM,Act.put,List.setIfInBounds_toArray,List.set_cons_zero,List.set_cons_succ,D]
 have r0:=L.out.cell (a:=[_]) 0 _ Z;have r1:=L.out.cell (a:=[_]) 1 _ Z;have z0:=L.out.free (a:=[_]) 0;have z1:=L.out.free (a:=[_]) 1;have k:=Qf ((L.out.set (a:=[_]) 0 (Iv (V.1))).set (a:=[_]) 1 (Iv (V.2)));go_wp2
 exact Xy (v:=QG V) (by simp[results,results121,go_sem,k.out.cell (a:=[_]) 0 _ Z,k.out.cell (a:=[_]) 1 _ Z]) Z ⟨Z,k.out.bel⟩
theorem Qh9 {m:List (MFunc n)}{x:MFunc n}{o:FP}{y:MBlock n}{f:BP}(i:FIn w All x o) (k:x.small) (j:BIn w All y f) (r:y.small){Bc:Nat}(u:m.length<=100000) (g:fi<1000000) (l:bi<1000000) (d:Blk w Bc (lA m p c x o fi) 139) :
 Rd prog 120 #[Iv (bi:Int),.agg (bA y f),Pv Bc 0] w (QG (MBlock.fault m.length fi x bi y)):=by
 have b:=((Bxs.start w).new (bA y f) 86).new #[Iv 0,Iv 0] 32;rw[World.size_alloc] at b
 have b:=Qf b;have E:=Qf d;have t:Hid (∀ h,Below w.heap.size w h->Calls prog 121 #[.agg (bkA m p c x o fi y f bi)] h fun e D=>e=.returned (QG (MBlock.fault m.length fi x bi y))/\Below h.heap.size h D):=fun h C=>QcW (i.below C) k (j.below C) r u g l;generalize MBlock.fault m.length fi x bi y=V at t |-;clear i k j r u g l d;unfold Rd;go_enter func120,ntmps120
 go_upto_region 1 with fail
 generalize (w.alloc (.cells (bA y f) 86)).alloc (.cells #[Iv 0,Iv 0] 32)=F at b |-;generalize w.heap.size+1=R at b |-;generalize w.heap.size=X at b |-;have B:=Qf (Blk.range (c:=(bA y f).toList) (b.out.at (a:=[_])));have A:=Qf (Blk.range (c:=(lA m p c x o fi).toList) (E.out.below b.out.bel));go_wp2_with (first | refine ZN Z 139 (.tmp 2) Z Bc 0 Z (lA m p c x o fi).toList _ A.out underlying139 Z (by kernel_rfl) ?_ | refine ZN Z 86 (.tmp 4) Z X 0 Z (bA y f).toList _ B.out underlying86 Z pSizeB ?_)
 refine(t.out F b.out.bel).mono ?_
 rintro J K ⟨rfl,z⟩;have q:=Qf (b.out.below z);clear z B A b t;have I:=q.out.cell (a:=[]) 0 _ Z;have L:=q.out.cell (a:=[]) 1 _ Z;have H:=q.out.free (a:=[]) 0;have G:=q.out.free (a:=[]) 1;have s:=Qf ((q.out.set (a:=[]) 0 (Iv (V.1))).set (a:=[]) 1 (Iv (V.2)));go_wp2
 exact Xy (v:=QG V) (by simp[results,results120,go_sem,s.out.cell (a:=[]) 0 _ Z,s.out.cell (a:=[]) 1 _ Z]) Z ⟨Z,s.out.bel⟩
theorem Qdp {m:List (MFunc n)}{x:MFunc n}{j:FP}(q:FIn w All x j) (s:x.small) (J:m.length<=100000) (o:fi<1000000) :
 Rd prog 75 #[.agg (lA m p c x j fi)] w (QG (MFunc.fault m.length fi x)):=by
 have g:=((Bxs.start w).new (lA m p c x j fi) 139).new #[Iv 0,Iv 0] 32;rw[World.size_alloc] at g
 have g:=Qf g;have M:=Qf (Xh J o);have f:=Qf (Xh q s);have r:=Qf (MFunc.fault_eq m.length fi x);have H:Hid (∀ d,Below w.heap.size w d->Calls prog 116 #[.agg (lA m p c x j fi)] d fun e u=>e=.returned (Iv (x.code fi))/\Below d.heap.size d u):=fun d bx=>Qe9 (q.below bx) s;have CF:Hid (∀ (C B:Int) (d:World),Calls prog 117 #[Iv C,Iv B] d fun e u=>e=.returned (.agg #[Iv (atF C B).1,Iv (atF C B).2])/\Below d.heap.size d u):=fun C B d=>Qbn;have CA:Hid (∀ d:World,Calls prog 118 #[Iv (fi:Int)] d fun e u=>e=.returned (Iv (10000*(fi:Int)+9999))/\Below d.heap.size d u):=fun d=>QfG o;generalize MFunc.fault m.length fi x=V at r |-;generalize x.code fi=v at r H;clear q s J o;unfold Rd;go_enter func75,ntmps75
 go_upto_region 1 with fail
 generalize (w.alloc (.cells (lA m p c x j fi) 139)).alloc (.cells #[Iv 0,Iv 0] 32)=w1 at g |-;generalize w.heap.size+1=R at g |-;generalize w.heap.size=X at g |-;have O:=Qf (Blk.range (c:=(lA m p c x j fi).toList) (g.out.at (a:=[_])));go_wp2_with (refine ZN Z 139 (.tmp 1) Z X 0 Z (lA m p c x j fi).toList _ O.out underlying139 Z (by kernel_rfl) ?_)
 refine(H.out w1 g.out.bel).mono ?_
 rintro G F ⟨rfl,K⟩;have h:=Qf (g.out.below K);clear K O g H;have P:F.cell? ⟨X,4,none⟩=some (.slice j.pB x.blocks.length j.cB):=h.out.cell (a:=[_]) 4 _ Z;have S:F.cell? ⟨X,5,none⟩=some (Iv (fi:Int)):=h.out.cell (a:=[_]) 5 _ Z;by_cases t:v=0
 rotate_left
 ·have E:=Qf (r.out.trans (Xr t));have dv:(v != 0)=true:=bne_iff_ne.2 t;have HV:=Qf t;clear t r;go_wp2_with fail
  refine(CA.out F).mono ?_
  rintro G I ⟨rfl,z⟩;have k:=Qf (h.out.below z);clear z h P S;go_wp2_with fail
  refine(CF.out v (10000*(fi:Int)+9999) I).mono ?_
  rintro G w4 ⟨rfl,Q⟩;have A:=Qf (k.out.below Q);clear Q k;have T:Hid (atF v (10000*(fi:Int)+9999)=V):=(Xr HV.out).trans E.out.symm;rw[T.out]
  have r0:=A.out.cell (a:=[]) 0 _ Z;have r1:=A.out.cell (a:=[]) 1 _ Z;have z0:=A.out.free (a:=[]) 0;have U:=A.out.free (a:=[]) 1;have l:=Qf ((A.out.set (a:=[]) 0 (Iv (V.1))).set (a:=[]) 1 (Iv (V.2)));go_wp2
  exact Xy (v:=QG V) (by simp[results,results75,go_sem,l.out.cell (a:=[]) 0 _ Z,l.out.cell (a:=[]) 1 _ Z]) Z ⟨Z,l.out.bel⟩
 replace r:=Qf (r.out.trans (Xs t));subst t;have D:=Qf (Qfx (w:=F) (Bc:=X) (fun b y=>MBlock.fault m.length fi x b y) (Ya f.out.1.blocks h.out.bel) (by have:=f.out.2.1;omega) (fun i y bp d N W L=>Qh9 (f.out.1.below (h.out.bel.trans (L.mono h.out.bel.size))) f.out.2 W (f.out.2.2.2.2 y (Zm N)) M.out.1 M.out.2 (by have h8:=f.out.2.1;have h9:=(Zi N).1;omega) ((h.out.at (a:=[_])).below L)));unfold Rd at D;rw[<-r.out] at D
 go_wp2_with fail
 refine D.out.mono ?_;rintro G I ⟨rfl,z⟩;have k:=Qf (h.out.below z);clear z h P S D;have r0:=k.out.cell (a:=[]) 0 _ Z;have r1:=k.out.cell (a:=[]) 1 _ Z;have z0:=k.out.free (a:=[]) 0;have U:=k.out.free (a:=[]) 1;have l:=Qf ((k.out.set (a:=[]) 0 (Iv (V.1))).set (a:=[]) 1 (Iv (V.2)));go_wp2
 exact Xy (v:=QG V) (by simp[results,results75,go_sem,l.out.cell (a:=[]) 0 _ Z,l.out.cell (a:=[]) 1 _ Z]) Z ⟨Z,l.out.bel⟩
theorem QiE {m:List (MFunc n)}{x:MFunc n}{f:FP}(i:FIn w All x f) (j:x.small){Bc:Nat}(q:m.length<=100000) (g:fi<1000000) (d:Blk w Bc #[.slice p m.length c] 24) :
 Rd prog 74 #[Iv (fi:Int),.agg (fA x f),Pv Bc 0] w (QG (MFunc.fault m.length fi x)):=by
 have b:=((Bxs.start w).new (fA x f) 89).new #[Iv 0,Iv 0] 32;rw[World.size_alloc] at b
 have b:=Qf b;have y:=Qf d;have o:Hid (∀ h,Below w.heap.size w h->Calls prog 75 #[.agg (lA m p c x f fi)] h fun e t=>e=.returned (QG (MFunc.fault m.length fi x))/\Below h.heap.size h t):=fun h z=>Qdp (i.below z) j q g;generalize MFunc.fault m.length fi x=V at o |-;clear i j q g d;unfold Rd;go_enter func74,ntmps74
 go_upto_region 1 with fail
 generalize (w.alloc (.cells (fA x f) 89)).alloc (.cells #[Iv 0,Iv 0] 32)=A at b |-;generalize w.heap.size+1=R at b |-;generalize w.heap.size=X at b |-;have u:=Qb (y.out.below b.out.bel) 0 _ Z;have s:=Qf (Blk.range (c:=(fA x f).toList) (b.out.at (a:=[_])));go_wp2_with (refine ZN Z 89 (.tmp 4) Z X 0 Z (fA x f).toList _ s.out underlying89 Z (by kernel_rfl) ?_)
 refine(o.out A b.out.bel).mono ?_
 rintro E F ⟨rfl,r⟩;have k:=Qf (b.out.below r);clear r s b o u;have D:=k.out.cell (a:=[]) 0 _ Z;have G:=k.out.cell (a:=[]) 1 _ Z;have C:=k.out.free (a:=[]) 0;have B:=k.out.free (a:=[]) 1;have l:=Qf ((k.out.set (a:=[]) 0 (Iv (V.1))).set (a:=[]) 1 (Iv (V.2)));go_wp2
 exact Xy (v:=QG V) (by simp[results,results74,go_sem,l.out.cell (a:=[]) 0 _ Z,l.out.cell (a:=[]) 1 _ Z]) Z ⟨Z,l.out.bel⟩
theorem Qca {m:List (MFunc n)}(j:(QaM n).In w All m [.slice p m.length c]) (e:Qbe m) :
 Rd prog 44 #[.agg #[.slice p m.length c]] w (QG (modFault m)):=by
 have b:=((Bxs.start w).new #[.slice p m.length c] 24).new #[Iv 0,Iv 0] 32;rw[World.size_alloc] at b
 have b:=Qf b;have C:=Qf j;have o:=Qf e;have g:Hid (modFault m=if m.length<1\/8<m.length then (2,-1) else firstF (fun f x=>MFunc.fault m.length f x) 0 m):=rfl;have A:=e.1;generalize modFault m=V at g |-;clear j e;unfold Rd;go_enter func44,ntmps44
 go_upto_region 1 with fail
 generalize (w.alloc (.cells #[.slice p m.length c] 24)).alloc (.cells #[Iv 0,Iv 0] 32)=u at b |-;generalize w.heap.size+1=R at b |-;generalize w.heap.size=X at b |-;have y:u.cell? ⟨X,0,none⟩=some (.slice p m.length c):=b.out.cell (a:=[_]) 0 _ Z;by_cases k:m.length<1\/8<m.length
 ·have E:=Qf (g.out.trans (Xs k));clear g;have G:=b.out.cell (a:=[]) 0 _ Z;have I:=b.out.cell (a:=[]) 1 _ Z;have F:=b.out.free (a:=[]) 0;have z:=b.out.free (a:=[]) 1;by_cases q:m.length<1
  ·have r:decide ((m.length:Int)<1)=true:=Xt (by omega);clear q k;have d:=Qf ((b.out.set (a:=[]) 0 (Iv (2))).set (a:=[]) 1 (Iv (-1)));go_wp2
   exact Xy (v:=QG V) (by simp[results,results44,go_sem,d.out.cell (a:=[]) 0 _ Z,d.out.cell (a:=[]) 1 _ Z,E.out]) Z ⟨Z,d.out.bel⟩
  ·have r:decide ((m.length:Int)<1)=false:=Xu (by omega);have H:decide ((m.length:Int)>8)=true:=Xt (by omega);clear q k;have d:=Qf ((b.out.set (a:=[]) 0 (Iv (2))).set (a:=[]) 1 (Iv (-1)));go_wp2
   exact Xy (v:=QG V) (by simp[results,results44,go_sem,d.out.cell (a:=[]) 0 _ Z,d.out.cell (a:=[]) 1 _ Z,E.out]) Z ⟨Z,d.out.bel⟩
 replace g:=Qf (g.out.trans (Xr k));have r:decide ((m.length:Int)<1)=false:=Xu (by omega);have H:decide ((m.length:Int)>8)=false:=Xu (by omega);clear k;have l:=Qf (Qg2 (w:=u) (Bc:=X) (fun f x=>MFunc.fault m.length f x) (Ya C.out b.out.bel) (by omega) (fun i x M L s D B=>QiE D (o.out.2 x (Zm s)) o.out.1 (by have N:=o.out.1;have J:=(Zi s).1;omega) ((b.out.at (a:=[_])).below B)));unfold Rd at l;rw[<-g.out] at l
 go_wp2_with fail
 refine l.out.mono ?_;rintro O K ⟨rfl,t⟩;have h:=Qf (b.out.below t);clear t b y l;have G:=h.out.cell (a:=[]) 0 _ Z;have I:=h.out.cell (a:=[]) 1 _ Z;have F:=h.out.free (a:=[]) 0;have z:=h.out.free (a:=[]) 1;have d:=Qf ((h.out.set (a:=[]) 0 (Iv (V.1))).set (a:=[]) 1 (Iv (V.2)));go_wp2
 exact Xy (v:=QG V) (by simp[results,results44,go_sem,d.out.cell (a:=[]) 0 _ Z,d.out.cell (a:=[]) 1 _ Z]) Z ⟨Z,d.out.bel⟩
def Qcz (w:World) (a:Option Addr) (l:List Int):Prop:=∀ i x,l[i]?=some x->∃ g o,a=some ⟨g,o,none⟩/\w.cell? ⟨g,o+i,none⟩=some (Iv x)
theorem Qcz.below (h:Qcz w a l) (b:Below w.heap.size w w'):Qcz w' a l:=fun i x d=>by
 obtain⟨g,o,e,c⟩:=h i x d
 exact⟨g,o,e,Qk c b⟩
theorem QhF.lg {lo:Nat}(h:QhF lo l (.slice a n c) w):n=l.length/\Qcz w a l:=by
 obtain⟨u,m,e,r,o,p⟩:=h
 simp only[Value.slice.injEq] at e
 obtain⟨rfl,rfl,rfl⟩:=e
 refine⟨Z,fun i x b=>?_⟩
 have q:=(Zi b).1;rcases o.2 with ⟨e,s⟩|⟨g,t,k,e,-,j,-,-,-,f⟩
 ·omega
 ·simp only[Value.slice.injEq] at e
  have d:(l.map (Value.int .i64))[i]?=some (Iv x):=by simp[b]
  rw[<-f,XR,Xs (by omega)] at d
  exact⟨g,0,e.1,Qb j _ _ (by rw[XK];simpa using d)⟩
theorem Qcz.nil (w:World) (a:Option Addr):Qcz w a []:=fun i x b=>by simp at b
theorem Qf9 {b:Option Addr}(q:l.length=N) (s:N<=100000) (n:Qcz w a l) (j:Qcz w b l) :
 Calls prog 28 #[.slice a N c,.slice b N d] w fun e w'=>e=.returned (.bool true)/\∃ m,w'=w.drewN m:=by
 have u:=Qc n;have x:=Qc j;have p:Hid (l.length=N):=q;clear n j q;go_enter func28,ntmps28
 go_wp2
 go_loopw [5] (fun i wr=>∃ k m:Nat,k<=N/\i=Iv k/\wr=w.drewN m) (fun i _=>N - (intOf i).toNat)
 case atStart=>exact⟨0,0,Xb _,Z,Z⟩
 case round =>
  obtain⟨k,m,z,rfl,rfl⟩:=hrel
  by_cases h:k<N
  ·have f:l[k]?=some (l[k]'(by rw[p.out];exact h)):=Zg _;generalize l[k]'(by rw[p.out];exact h)=y at f;obtain⟨g,o,rfl,B⟩:=u.out k y f
   obtain⟨A,C,rfl,t⟩:=x.out k y f
   have v:(k:Int)<N:=by omega
   have r:(0:Int)<=k:=by omega
   clear f;go_wp2_with fail
   go_quiet (fail)
   go_wp2
   go_roundw
   case rel=>exact⟨k+1,_,by omega,by go_num,Z⟩
   case measure=>simp[intOf];omega
  ·go_wp2
   go_ret;exact⟨Z,_,Z⟩
theorem Qcp {b:Option Addr}(k:l.length=N) (f:N<=100000) (h:Qcz w a l) (g:Qcz w b l) :
 Calls prog 28 #[.slice a N c,.slice b N d] w fun e w'=>e=.returned (.bool true)/\Below w.heap.size w w' :=
 (Qf9 k f h g).mono fun e w' ⟨i,m,j⟩=>⟨i,by rw[j];exact QI Zr _⟩
theorem QbZ {fin fuel:Int}{r:List Int}{a' b g:Option Addr}{c' k:Nat}(H:l.length<=100000) (E:r.length<=100000) (B:Qcz w a l) (z:Qcz w a' l) (A:Qcz w b r) (v:Qcz w g r) :
 Calls prog 26 #[.agg #[Iv fin,.slice a l.length c,.slice b r.length d,Iv fuel],.agg #[Iv fin,.slice a' l.length c',.slice g r.length k,Iv fuel]] w fun e w'=>e=.returned (.bool true)/\Below w.heap.size w w':=by
 have x:Hid (∀ f,Below w.heap.size w f->Calls prog 28 #[.slice a l.length c,.slice a' l.length c'] f fun e w'=>e=.returned (.bool true)/\Below f.heap.size f w'):=fun f n=>Qcp Z H (B.below n) (z.below n);have y:Hid (∀ f,Below w.heap.size w f->Calls prog 28 #[.slice b r.length d,.slice g r.length k] f fun e w'=>e=.returned (.bool true)/\Below f.heap.size f w'):=fun f n=>Qcp Z E (A.below n) (v.below n);have m:=Qc (Qj6 w (.cells #[Iv fin,.slice a l.length c,.slice b r.length d,Iv fuel] 44) (.cells #[Iv fin,.slice a' l.length c',.slice g r.length k,Iv fuel] 44));clear B z A v;go_enter func26,ntmps26
 go_upto_region 1 with fail
 have h:=QnJ w #[Iv fin,.slice a l.length c,.slice b r.length d,Iv fuel] 44 (.cells #[Iv fin,.slice a' l.length c',.slice g r.length k,Iv fuel] 44);have i:=QmO w (.cells #[Iv fin,.slice a l.length c,.slice b r.length d,Iv fuel] 44) #[Iv fin,.slice a' l.length c',.slice g r.length k,Iv fuel] 44;generalize (w.alloc (.cells #[Iv fin,.slice a l.length c,.slice b r.length d,Iv fuel] 44)).alloc (.cells #[Iv fin,.slice a' l.length c',.slice g r.length k,Iv fuel] 44)=D at m h i |-;generalize w.heap.size+1=Y at i |-;generalize w.heap.size=X at h |-;have C:=Qb h 0 _ Z;have K:=Qb h 1 _ Z;have t:=Qb h 2 _ Z;have p:=Qb h 3 _ Z;have I:=Qb i 0 _ Z;have F:=Qb i 1 _ Z;have u:=Qb i 2 _ Z;have s:=Qb i 3 _ Z;clear h i;go_wp2_with fail
 refine(x.out D m.out).mono ?_
 rintro M J ⟨rfl,j⟩;have o:=Qc (m.out.trans (j.mono m.out.size));have t:=Qk t j;have u:=Qk u j;have p:=Qk p j;have s:=Qk s j;clear x C K I F j m;go_wp2_with fail
 refine(y.out J o.out).mono ?_
 rintro N L ⟨rfl,q⟩;have G:=Qc (o.out.trans (q.mono o.out.size));have p:=Qk p q;have s:=Qk s q;clear y t u q o;go_wp2
 go_ret;exact⟨Z,G.out⟩
abbrev QhY (c a:Int):Value:=.tuple #[.agg #[Iv 0,Nv,Nv,Iv 0],Qbv c a]
def Qd1 (c0 a0:Int) (n:Nat) (fu pg:Int) (c a:Int):Prop:=(c0≠0/\c=c0/\a=a0)\/(c0=0/\(200<n\/fu<0\/20000<fu\/pg<0\/64<pg)/\c=1/\a=-1)
theorem Qd1.ne {c0 a0:Int}{fu pg c a:Int}(h:Qd1 c0 a0 n fu pg c a):c≠0:=by
 rcases h with ⟨h,rfl,-⟩|⟨-,-,rfl,-⟩
 ·exact h
 ·decide
theorem Qh0 {ml:Nat}{fu pg c a c0 a0:Int}(L:∀ wx,Below w.heap.size w wx->Calls prog 66 #[.agg #[.slice pm ml cm]] wx fun e w'=>e=.returned (Qbv c0 a0)/\Below wx.heap.size wx w') (m:n<1152921504606846976) (H:Qd1 c0 a0 n fu pg c a) :
 Calls prog 32 #[.agg #[.slice pm ml cm],.slice pi n ci,Iv fu,Iv pg] w fun e w'=>e=.returned (.tuple #[.pointer none,Qbv c a])/\Below w.heap.size w w':=by
 have r:=Qc L;have t:=Qc H;have i:=Qc ((((Bxs.start w).new #[.slice pm ml cm] 24)).new #[Iv 0,Iv 0] 32);clear L H m;go_enter func32,ntmps32
 go_upto_region 1 with fail
 rw[World.size_alloc] at i
 have B:=Qc (r.out _ i.out.bel);generalize (w.alloc (.cells #[.slice pm ml cm] 24)).alloc (.cells #[Iv 0,Iv 0] 32)=w2 at i B |-;generalize w.heap.size+1=Y at i |-;generalize w.heap.size=X at i |-;have S:w2.cell? ⟨X,0,none⟩=some (.slice pm ml cm):=i.out.cell (a:=[_]) 0 _ Z;go_upto_region 2 with (go_at_call 66;refine B.out.mono ?_;rintro e' K ⟨rfl,P⟩)
 have d:=Qc ((i.out.below P).new #[Iv c0,Iv a0] 32);clear B P i S r;generalize K.alloc (.cells #[Iv c0,Iv a0] 32)=k at d |-;generalize K.heap.size=F at d |-;have C:k.cell? ⟨F,0,none⟩=some (Iv c0):=d.out.cell (a:=[]) 0 _ Z;have x:k.cell? ⟨F,1,none⟩=some (Iv a0):=d.out.cell (a:=[]) 1 _ Z;have R:=d.out.cell (a:=[_]) 0 _ Z;have Q:=d.out.cell (a:=[_]) 1 _ Z;have N:=d.out.free (a:=[_]) 0;have I:=d.out.free (a:=[_]) 1
 have l:Hid (∀ c a:Int,(((k.setCell ⟨Y,0,none⟩ (Iv c)).setCell ⟨Y,1,none⟩ (Iv a)).cell? ⟨Y,0,none⟩=some (Iv c)/\((k.setCell ⟨Y,0,none⟩ (Iv c)).setCell ⟨Y,1,none⟩ (Iv a)).cell? ⟨Y,1,none⟩=some (Iv a))/\Below w.heap.size w ((k.setCell ⟨Y,0,none⟩ (Iv c)).setCell ⟨Y,1,none⟩ (Iv a))):=fun c a=>by
  have j:=(d.out.set (a:=[_]) 0 (Iv c)).set (a:=[_]) 1 (Iv a);exact⟨⟨j.cell (a:=[_]) 0 _ Z,j.cell (a:=[_]) 1 _ Z⟩,j.bel⟩
 by_cases g:c0=0
 ·subst g
  have E:Hid ((200<n\/fu<0\/20000<fu\/pg<0\/64<pg)/\c=1/\a=-1):=by
   rcases t.out with ⟨b,-⟩|⟨-,b⟩
   ·exact absurd Z b
   ·exact b
  have D:=Qc (l.out 1 (-1));clear t;by_cases m:200<n
  ·have U:decide ((n:Int)>200)=true:=Xt (by omega);clear l m;go_upto_region 5 with fail
   go_wp2
   exact Xy (v:=.tuple #[.pointer none,Qbv c a]) (by rw[E.out.2.1,E.out.2.2];simp[results,results32,go_sem,D.out.1.1,D.out.1.2,Qbv]) Z ⟨Z,D.out.2⟩
  have U:decide ((n:Int)>200)=false:=Xu (by omega);by_cases p:fu<0
  ·have W:decide (fu<0)=true:=Xt p;clear l m p;go_upto_region 5 with fail
   go_wp2
   exact Xy (v:=.tuple #[.pointer none,Qbv c a]) (by rw[E.out.2.1,E.out.2.2];simp[results,results32,go_sem,D.out.1.1,D.out.1.2,Qbv]) Z ⟨Z,D.out.2⟩
  have W:decide (fu<0)=false:=Xu p;by_cases b:20000<fu
  ·have T:decide (fu>20000)=true:=Xt b;clear l m p b;go_upto_region 5 with fail
   go_wp2
   exact Xy (v:=.tuple #[.pointer none,Qbv c a]) (by rw[E.out.2.1,E.out.2.2];simp[results,results32,go_sem,D.out.1.1,D.out.1.2,Qbv]) Z ⟨Z,D.out.2⟩
  have T:decide (fu>20000)=false:=Xu b;have J:=Qc (Qlz k pg (by have:=E.out.1;omega));clear m p b D;go_upto_region 7 with (go_at_call 67;refine J.out.mono ?_;rintro e' O ⟨rfl,M⟩)
  have h:=Qc ((d.out.below M).new #[Iv 1,Iv (-1)] 32);clear M C x R Q N I l J d;generalize O.alloc (.cells #[Iv 1,Iv (-1)] 32)=o at h |-;generalize O.heap.size=G at h |-;have k0:o.cell? ⟨G,0,none⟩=some (Iv 1):=h.out.cell (a:=[]) 0 _ Z;have k1:o.cell? ⟨G,1,none⟩=some (Iv (-1)):=h.out.cell (a:=[]) 1 _ Z;have R:=h.out.cell (a:=[_,_]) 0 _ Z;have Q:=h.out.cell (a:=[_,_]) 1 _ Z;have N:=h.out.free (a:=[_,_]) 0;have I:=h.out.free (a:=[_,_]) 1
  have V:Hid ((((o.setCell ⟨Y,0,none⟩ (Iv 1)).setCell ⟨Y,1,none⟩ (Iv (-1))).cell? ⟨Y,0,none⟩=some (Iv 1)/\((o.setCell ⟨Y,0,none⟩ (Iv 1)).setCell ⟨Y,1,none⟩ (Iv (-1))).cell? ⟨Y,1,none⟩=some (Iv (-1)))/\Below w.heap.size w ((o.setCell ⟨Y,0,none⟩ (Iv 1)).setCell ⟨Y,1,none⟩ (Iv (-1)))) :=
   have j:=(h.out.set (a:=[_,_]) 0 (Iv 1)).set (a:=[_,_]) 1 (Iv (-1));show _ from ⟨⟨j.cell (a:=[_,_]) 0 _ Z,j.cell (a:=[_,_]) 1 _ Z⟩,j.bel⟩
  go_upto_region 8 with fail
  go_region
  all_goals
   go_wp2_with fail
   have q:=V.out;generalize (o.setCell ⟨Y,0,none⟩ (Iv 1)).setCell ⟨Y,1,none⟩ (Iv (-1))=s at q |-;obtain⟨⟨y,z⟩,f⟩:=q
   have u:s.drew.cell? ⟨Y,0,none⟩=some (Iv 1):=y;have A:s.drew.cell? ⟨Y,1,none⟩=some (Iv (-1)):=z;exact Xy (v:=.tuple #[.pointer none,Qbv c a]) (by rw[E.out.2.1,E.out.2.2];simp[results,results32,go_sem,u,A,Qbv]) Z ⟨Z,⟨f.os,f.tape,f.output,f.size,f.block⟩⟩
 ·have d0:(c0 != 0)=true:=bne_iff_ne.2 g
  have E:Hid (c=c0/\a=a0):=by
   rcases t.out with ⟨-,b,h2⟩|⟨b,-⟩
   ·exact⟨b,h2⟩
   ·exact absurd b g
  have D:=Qc (l.out c0 a0);clear g l t;go_upto_region 3 with fail
  go_region
  all_goals
   go_wp2_with fail
   have q:=D.out;generalize (k.setCell ⟨Y,0,none⟩ (Iv c0)).setCell ⟨Y,1,none⟩ (Iv a0)=s at q |-;obtain⟨⟨y,z⟩,f⟩:=q
   have u:s.drew.cell? ⟨Y,0,none⟩=some (Iv c0):=y;have A:s.drew.cell? ⟨Y,1,none⟩=some (Iv a0):=z;exact Xy (v:=.tuple #[.pointer none,Qbv c a]) (by rw[E.out.1,E.out.2];simp[results,results32,go_sem,u,A,Qbv]) Z ⟨Z,⟨f.os,f.tape,f.output,f.size,f.block⟩⟩
theorem Qfs {ml:Nat}{fu pg c a c0 a0:Int}(r:∀ wx,Below w.heap.size w wx->Calls prog 66 #[.agg #[.slice pm ml cm]] wx fun e w'=>e=.returned (Qbv c0 a0)/\Below wx.heap.size wx w') (u:n<1152921504606846976) (j:Qd1 c0 a0 n fu pg c a) :
 Calls prog 30 #[.agg #[.slice pm ml cm],.slice pi n ci,Iv fu,Iv pg] w fun e w'=>e=.returned (QhY c a)/\Below w.heap.size w w':=by
 have d:=((((Bxs.start w).new #[.slice pm ml cm] 24)).new #[Iv 0,Nv,Nv,Iv 0] 44).new #[Iv 0,Iv 0] 32;rw[World.size_alloc,World.size_alloc] at d
 have d:=Qc d;have k:Hid (∀ wx,Below w.heap.size w wx->Calls prog 32 #[.agg #[.slice pm ml cm],.slice pi n ci,Iv fu,Iv pg] wx fun e w'=>e=.returned (.tuple #[.pointer none,Qbv c a])/\Below wx.heap.size wx w'):=fun wx x=>Qh0 (fun E m=>r E (x.trans (m.mono x.size))) u j;have N:(c != 0)=true:=bne_iff_ne.2 j.ne;have T:decide (c=0)=false:=Xu j.ne;clear r u j;go_enter func30,ntmps30
 go_upto_region 1 with fail
 generalize ((w.alloc (.cells #[.slice pm ml cm] 24)).alloc (.cells #[Iv 0,Nv,Nv,Iv 0] 44)).alloc (.cells #[Iv 0,Iv 0] 32)=p at d |-;generalize w.heap.size+1+1=g at d |-;generalize w.heap.size+1=f at d |-;generalize w.heap.size=X at d |-;have k:=Qc (k.out p d.out.bel);have z:p.cell? ⟨X,0,none⟩=some (.slice pm ml cm):=d.out.cell (a:=[_,_]) 0 _ Z;go_upto_region 2 with (go_at_call 32;refine k.out.mono ?_;rintro W q ⟨rfl,t⟩)
 have b:=Qc ((d.out.below t).new #[Iv c,Iv a] 32);clear d k z t;generalize q.alloc (.cells #[Iv c,Iv a] 32)=o at b |-;generalize q.heap.size=F at b |-;have c0:o.cell? ⟨F,0,none⟩=some (Iv c):=b.out.cell (a:=[]) 0 _ Z;have M:o.cell? ⟨F,1,none⟩=some (Iv a):=b.out.cell (a:=[]) 1 _ Z;have U:=b.out.cell (a:=[_,_]) 0 _ Z;have r1:=b.out.cell (a:=[_,_]) 1 _ Z;have R:=b.out.cell (a:=[_,_]) 2 _ Z;have O:=b.out.cell (a:=[_,_]) 3 _ Z;have S:=b.out.free (a:=[_,_]) 0;have K:=b.out.free (a:=[_,_]) 1;have L:=b.out.free (a:=[_,_]) 2;have P:=b.out.free (a:=[_,_]) 3;have Q:=b.out.cell (a:=[_]) 0 _ Z;have V:=b.out.cell (a:=[_]) 1 _ Z;have y0:=b.out.free (a:=[_]) 0;have y1:=b.out.free (a:=[_]) 1;have l:¬ f=g:=fun e=>by have:=b.out.nd;simp[e] at this
 have s:¬ g=f:=fun e=>l e.symm;have J:¬ F=f:=fun e=>by have:=b.out.nd;simp[e] at this
 have C:¬ F=g:=fun e=>by have:=b.out.nd;simp[e] at this
 go_upto_region 3 with fail
 go_region
 all_goals
  go_wp2_with fail
  have y:=(((((b.out.set (a:=[_,_]) 0 (Iv 0)).set (a:=[_,_]) 1 (Nv)).set (a:=[_,_]) 2 (Nv)).set (a:=[_,_]) 3 (Iv 0)).set (a:=[_]) 0 (Iv c)).set (a:=[_]) 1 (Iv a);generalize ((((((o.setCell ⟨f,0,none⟩ (Iv 0)).setCell ⟨f,1,none⟩ (Nv)).setCell ⟨f,2,none⟩ (Nv)).setCell ⟨f,3,none⟩ (Iv 0)).setCell ⟨g,0,none⟩ (Iv c)).setCell ⟨g,1,none⟩ (Iv a))=i at y |-;have h:=y.drew;have D:i.drew.cell? ⟨f,0,none⟩=some (Iv 0):=h.cell (a:=[_,_]) 0 _ Z;have I:i.drew.cell? ⟨f,1,none⟩=some (Nv):=h.cell (a:=[_,_]) 1 _ Z;have A:i.drew.cell? ⟨f,2,none⟩=some (Nv):=h.cell (a:=[_,_]) 2 _ Z;have G:i.drew.cell? ⟨f,3,none⟩=some (Iv 0):=h.cell (a:=[_,_]) 3 _ Z;have H:i.drew.cell? ⟨g,0,none⟩=some (Iv c):=h.cell (a:=[_]) 0 _ Z;have B:i.drew.cell? ⟨g,1,none⟩=some (Iv a):=h.cell (a:=[_]) 1 _ Z;exact Xy (v:=QhY c a) (by simp[results,results30,go_sem,D,I,A,G,H,B,Qbv]) Z ⟨Z,h.bel⟩
theorem Lay.flat {α:Type}{A:Lay α}{o:Nat}{l:List α}(h:A.list.In w O l [.slice (some ⟨g,o,none⟩) n c]) (f:∀ (x:α) (ds:List Value),A.In w O x ds->∀ u∈ds,u.oneCell'=true) :
 ∃ ds:List Value,ds.length=l.length*A.size/\(∀ (j:Nat) (u:Value),ds[j]?=some u->w.cell? ((⟨g,o,none⟩:Addr).add j)=some u)/\(∀ u∈ds,u.oneCell'=true)/\∀ (i:Nat) (x:α),l[i]?=some x->A.In w O x ((ds.drop (i*A.size)).take A.size):=by
 have q:∀ k,k<=l.length->∃ ds:List Value,ds.length=k*A.size/\(∀ (j:Nat) (u:Value),ds[j]?=some u->w.cell? ⟨g,o+j,none⟩=some u)/\(∀ u∈ds,u.oneCell'=true)/\∀ (i:Nat) (x:α),i<k->l[i]?=some x->A.In w O x ((ds.drop (i*A.size)).take A.size):=by
  intro k
  induction k with
  | zero=>exact fun _=>⟨[],by simp,fun j u a=>by simp at a,fun u b=>by simp at b,fun i x G=>by omega⟩
  | succ k ih =>
    intro L;obtain⟨ds,p,t,v,r⟩:=ih (by omega)
    obtain⟨x,d⟩:∃ x,l[k]?=some x:=⟨_,Zg (by omega)⟩
    obtain⟨J,K,C,m,_,_,I,s⟩:=Yf h d
    injection m with m
    injection m with m e2
    subst m;subst e2;have B:=A.len s;refine⟨ds++C,by rw[List.length_append,p,B,Nat.add_mul];omega,fun j u a=>?_,fun u b=>?_,fun i y G e=>?_⟩
    ·rw[List.getElem?_append] at a
     split at a
     ·exact t j u a
     ·rename_i H
      have F:j - ds.length<C.length:=(Zi a).1;have D:=I (j - ds.length) (by omega);rw[a] at D
      rw[<-D]
      congr 2
      omega
    ·rcases List.mem_append.1 b with b | b
     ·exact v u b
     ·exact f x C s u b
    ·by_cases z:i=k
     ·subst z;rw[d] at e
      injection e with e
      subst e;rw[List.drop_append,List.drop_of_length_le (by omega),p,Nat.sub_self,List.drop_zero,List.nil_append,XO (by omega)]
      exact s
     ·have E:(i+1)*A.size<=k*A.size:=Xp _ (by omega);rw[Nat.add_mul] at E
      rw[List.drop_append_of_le_length (by omega),List.take_append_of_le_length (by simp;omega)]
      exact r i y (by omega) e
 obtain⟨ds,p,t,v,r⟩:=q l.length Ze
 exact⟨ds,p,fun j u a=>by rw[Go.WideShapes.add_plain];exact t j u a,v,fun i x d=>r i x (Zi d).1 d⟩
theorem Qdh {α:Type}{P:α->List Value->Prop}{l l2:List α}{xs:List Value}(b:xs.length=l.length*s)
 (e:∀ (i:Nat) (x:α),l[i]?=some x->P x ((xs.drop (i*s)).take s)) (f:∀ (i:Nat) (x:α),l2[i]?=some x->P x ((ds.drop (i*s)).take s)) :
 ∀ (i:Nat) (x:α),(l++l2)[i]?=some x->P x (((xs++ds).drop (i*s)).take s):=by
 intro i y a;rw[List.getElem?_append] at a
 split at a
 ·rename_i c
  have d:(i+1)*s<=l.length*s:=Xp _ c;rw[Nat.add_mul] at d
  rw[List.drop_append_of_le_length (by omega),List.take_append_of_le_length (by simp;omega)]
  exact e i y a
 ·rename_i c
  have d:l.length*s<=i*s:=Xp _ (by omega)
  have:=f (i - l.length) y a
  rw[Nat.sub_mul] at this
  rw[List.drop_append,List.drop_of_length_le (by omega),List.nil_append,b]
  exact this
theorem QeY {xs:List Value}(h:w.ownsRow 0 e s (.slice (some ⟨g,0,none⟩) N cap) N xs) (j:w'.heap[g]?=w.heap[g]?):w'.ownsRow 0 e s (.slice (some ⟨g,0,none⟩) N cap) N xs:=by
 obtain⟨f,k⟩:=h
 refine⟨f,?_⟩
 rcases k with i | ⟨m,c,a,l,b,d,r⟩
 ·exact .inl i
 ·injection l with e1 _ e2
  injection e1 with e1
  injection e1 with e1 _
  subst e1;subst e2;exact .inr ⟨g,cap,a,Z,b,j.trans d,r⟩
def TRq (w:World) (O Q:Nat->Prop) (v:Value) (L:List (TT 6)):Prop :=
 ∃ xs,w.ownsRow 0 105 3 v L.length xs/\(∀ g,v.ownBlock=some g->O g)/\∀ i x,L[i]?=some x->(Lay.tt 6).In w Q x ((xs.drop (i*3)).take 3)
section
variable {w w':World}{O O' Q Q':Nat->Prop}{v:Value}{L:List (TT 6)}
theorem TRq.keep (h:TRq w O Q v L) (d:∀ k,k<w.heap.size->v.ownBlock=some k\/Q k->w'.heap[k]?=w.heap[k]?) (l:∀ k,v.ownBlock=some k->O' k) (e:∀ k,Q k->k<w.heap.size->Q' k):TRq w' O' Q' v L:=by
 obtain⟨f,⟨n,t⟩,u,q⟩:=h
 refine⟨f,⟨n,?_⟩,l,fun i x m=>(Lay.tt 6).keep (fun k j p=>d k p (.inr j)) e (q i x m)⟩
 rcases t with o | ⟨g,b,a,rfl,s,c,r⟩
 ·exact Or.inl o
 ·exact Or.inr ⟨g,b,a,Z,s,(d g (XC c) (.inl Z)).trans c,r⟩
theorem TRq.own (h:TRq w O Q v L)(a:v.ownBlock=some g):O g:=by
 obtain⟨c,e,b,d⟩:=h
 exact b g a
theorem TRq.block (h:TRq w O Q v L)(b:v.ownBlock=some g):∃ c,w.heap[g]?=some (.cells c 105 (0,0)):=by
 obtain⟨i,⟨l,f⟩,j,m⟩:=h
 rcases f with ⟨rfl,_⟩|⟨k,e,a,rfl,_,d,r⟩
 ·simp[Value.ownBlock] at b
 ·simp[Value.ownBlock] at b;subst b;exact⟨a,d⟩
theorem TRq.lt (h:TRq w O Q v L)(a:v.ownBlock=some g):g<w.heap.size:=by
 obtain⟨c,b⟩:=h.block a
 exact XC b
theorem TRq.form (h:TRq w O Q v L):∃ a cap,v=.slice a L.length cap/\L.length<=cap/\TRd w Q a L/\∃ xs,w.ownsRow 0 105 3 (.slice a L.length cap) L.length xs:=by
 obtain⟨xs,d,D,m⟩:=h
 obtain⟨E,s⟩:=id d
 rcases s with ⟨rfl,p⟩|⟨g,cap,q,rfl,_,k,z,B,C,A⟩
 ·have:L=[]:=Xf.1 p
  subst this;exact⟨none,0,Z,Ze,fun i t c=>by simp at c,xs,d⟩
 ·refine⟨some ⟨g,0,none⟩,cap,Z,z,fun i t c=>?_,xs,d⟩
  obtain⟨x,l,e,o,r⟩:=m i t c
  have y:i<L.length:=(Zi c).1
  have b:∀ j u,j<3->((xs.drop (i*3)).take 3)[j]?=some u->w.cell? ⟨g,i*3+j,none⟩=some u:=fun j u n f=>by
   rw[XR,Xs n,List.getElem?_drop,<-A,XR,Xs (by omega),Array.getElem?_toList] at f
   exact Qb k _ u f
  rw[e] at b
  exact⟨g,x,l,Z,b 0 _ (by omega) Z,b 1 _ (by omega) Z,b 2 _ (by omega) Z,o,r⟩
end
abbrev Qfo (c:Int):List PanicEntry:=[{ v:=.iface 304 (Iv c),recovered:=false }]
def SAt (w:World) (b:Nat) (O A:Nat->Prop) (s:JSt):Prop :=
 ∃ pm cm h a1 c1 a2 c2 a3 c3 vL,w.heap[b]?=some (.cells #[.slice pm s.m.length cm,Pv h 0,Iv s.f.regs,.slice a1 s.f.params.length c1,.slice a2 s.f.results.length c2,.slice a3 s.f.blocks.length c3,vL] 279 (0,0)) /\
  (QaM 6).In w (fun g=>¬ A g) s.m [.slice pm s.m.length cm]/\(ZV 6).In w (fun g=>¬ A g) s.f [Iv s.f.regs,.slice a1 s.f.params.length c1,.slice a2 s.f.results.length c2,.slice a3 s.f.blocks.length c3] /\
  (Qp w h s.H/\O h)/\TRq w O (fun g=>¬ A g) vL s.L/\O b/\∀ k,O k->A k
structure SRd (w:World) (b:Nat) (A:Nat->Prop) (s:JSt) (pm:Option Addr) (cm h:Nat) (a1:Option Addr) (c1:Nat) (a2:Option Addr) (c2:Nat) (a3:Option Addr) (c3:Nat) (aL:Option Addr) (cL:Nat):Prop where
 blk:w.heap[b]?=some (.cells #[.slice pm s.m.length cm,Pv h 0,Iv s.f.regs,.slice a1 s.f.params.length c1,.slice a2 s.f.results.length c2,.slice a3 s.f.blocks.length c3,.slice aL s.L.length cL] 279 (0,0))
 mod:(QaM 6).In w (fun g=>¬ A g) s.m [.slice pm s.m.length cm]
 fn:(ZV 6).In w (fun g=>¬ A g) s.f [Iv s.f.regs,.slice a1 s.f.params.length c1,.slice a2 s.f.results.length c2,.slice a3 s.f.blocks.length c3]
 held:Qp w h s.H
 row:TRd w (fun g=>¬ A g) aL s.L
 le:s.L.length<=cL
section
variable {w w':World}{b:Nat}{O O' A A':Nat->Prop}{s:JSt}
theorem SAt.keep (h:SAt w b O A s) (c:∀ k,k<w.heap.size->O k\/¬ A k->w'.heap[k]?=w.heap[k]?) (j:∀ k,O k->k<w.heap.size->O' k) (m:∀ k,¬ A k->k<w.heap.size->¬ A' k) (q:∀ k,O' k->A' k):SAt w' b O' A' s:=by
 obtain⟨u,t,g,C,r,v,B,p,z,D,i,y,x,⟨l,o⟩,f,n,E⟩:=h
 refine⟨u,t,g,C,r,v,B,p,z,D,(c b (XC i) (.inl n)).trans i,(QaM 6).keep (fun k a d=>c k d (.inr a)) m y,(ZV 6).keep (fun k a d=>c k d (.inr a)) m x,
  ⟨l.keep (c g l.lt (.inl o)),j g o l.lt⟩,f.keep (fun k d a=>c k d (a.imp (fun e=>f.own e) id)) (fun k a=>j k (f.own a) (f.lt a)) m,j b n (XC i),q⟩
theorem SAt.below (h:SAt w b O A s) (k:Below w.heap.size w w'):SAt w' b O A s:=by
 have a:∀ k,O k->A k:=by obtain⟨p,n,e,y,m,q,x,f,v,z,l,t,r,⟨o,u⟩,j,i,c⟩:=h;exact c
 exact h.keep (fun g d _=>k.block g d) (fun _ h _=>h) (fun _ h _=>h) a
theorem SAt.sub (h:SAt w b O A s):∀ k,O k->A k:=by obtain⟨v,g,e,p,t,u,d,i,c,n,m,f,o,⟨q,r⟩,l,j,a⟩:=h;exact a
theorem SAt.read (h:SAt w b O A s):∃ pm cm h a1 c1 a2 c2 a3 c3 aL cL,SRd w b A s pm cm h a1 c1 a2 c2 a3 c3 aL cL:=by
 obtain⟨pm,cm,c,a1,c1,a2,c2,a3,c3,n,f,d,j,⟨g,m⟩,e,k,l⟩:=h
 obtain⟨aL,cL,rfl,a,i,_⟩:=e.form
 exact⟨pm,cm,c,a1,c1,a2,c2,a3,c3,aL,cL,f,d,j,g,i,a⟩
variable {pm:Option Addr}{cm h:Nat}{a1:Option Addr}{c1:Nat}{a2:Option Addr}{c2:Nat}{a3:Option Addr}{c3:Nat}{aL:Option Addr}{cL:Nat}
theorem SRd.below (k:SRd w b A s pm cm h a1 c1 a2 c2 a3 c3 aL cL) (e:Below w.heap.size w w'):SRd w' b A s pm cm h a1 c1 a2 c2 a3 c3 aL cL :=
 ⟨(e.block b (XC k.blk)).trans k.blk,Ya k.mod e,Ya k.fn e,k.held.below e,k.row.below e,k.le⟩
theorem SRd.cells (k:SRd w b A s pm cm h a1 c1 a2 c2 a3 c3 aL cL) :
 w.cell? ⟨b,0,none⟩=some (.slice pm s.m.length cm)/\w.cell? ⟨b,1,none⟩=some (Pv h 0)/\w.cell? ⟨b,2,none⟩=some (Iv s.f.regs)/\w.cell? ⟨b,3,none⟩=some (.slice a1 s.f.params.length c1)/\w.cell? ⟨b,4,none⟩=some (.slice a2 s.f.results.length c2)/\w.cell? ⟨b,5,none⟩=some (.slice a3 s.f.blocks.length c3)/\w.cell? ⟨b,6,none⟩=some (.slice aL s.L.length cL) :=
 ⟨Qb k.blk 0 _ Z,Qb k.blk 1 _ Z,Qb k.blk 2 _ Z,Qb k.blk 3 _ Z,Qb k.blk 4 _ Z,Qb k.blk 5 _ Z,Qb k.blk 6 _ Z⟩
end
def STo (wA w:World) (b:Nat) (O A:Nat->Prop) (s:JSt):Prop :=
 ∃ N:Nat->Prop,(∀ k,N k->wA.heap.size<=k/\k<w.heap.size)/\SAt w b (fun k=>O k\/N k) (fun k=>A k\/N k) s/\Qz O (fun k=>O k\/N k) wA w
section
variable {w wA wB:World}{b:Nat}{O A:Nat->Prop}{s s':JSt}
theorem STo.same (h:SAt w b O A s):STo w w b O A s :=
 ⟨fun _=>False,fun _ h=>h.elim,h.keep (fun _ _ _=>rfl) (fun _ h _=>.inl h) (fun _ h _=>by simpa using h) (fun k a=>a.imp (h.sub k) id),⟨Z,Z,Z,Ze,fun _ _ _=>rfl,fun k a=>.inl (by simpa using a)⟩⟩
theorem STo.after (h:STo wA w b O A s) (a:Below wB.heap.size wB wA):STo wB w b O A s:=by
 obtain⟨N,f,i,d⟩:=h
 have:=a.size
 exact⟨N,fun k c=>⟨Zt a.size (f k c).1,(f k c).2⟩,i,⟨d.os.trans a.os,d.tape.trans a.tape,d.output.trans a.output,Zt a.size d.size,fun k c g=>(d.block k (by omega) g).trans (a.block k c),fun k c=>(d.own k c).imp id fun e=>Zt a.size e⟩⟩
theorem STo.join {N:Nat->Prop}(f:∀ k,N k->wA.heap.size<=k/\k<w.heap.size) (c:Qz O (fun k=>O k\/N k) wA w) (g:STo w wB b (fun k=>O k\/N k) (fun k=>A k\/N k) s'):STo wA wB b O A s':=by
 obtain⟨M,l,h,d⟩:=g
 have j:=c.size;have m:=d.size;refine⟨fun k=>N k\/M k,fun k a=>?_,?_,?_⟩
 ·rcases a with a | a
  ·have:=f k a;omega
  ·have:=l k a;omega
 ·exact h.keep (fun _ _ _=>rfl) (fun k a _=>by simpa[or_assoc] using a) (fun k a _=>by simpa[or_assoc,not_or,and_assoc] using a) (fun k a=>by have:=h.sub k (by simpa[or_assoc] using a);simpa[or_assoc] using this)
 ·refine⟨d.os.trans c.os,d.tape.trans c.tape,d.output.trans c.output,Zt j m,fun k a i=>(d.block k (by omega) (fun e=>?_)).trans (c.block k a i),fun k a=>?_⟩
  ·rcases e with e | e
   ·exact i e
   ·have:=f k e;omega
  ·rcases a with a | a | a
   ·exact .inl a
   ·exact .inr (f k a).1
   ·exact .inr (Zt j (l k a).1)
theorem SAt.setH (L:∀ k,A k->k<w.heap.size) (h:SAt w b O A s):∃ hh,w.cell? ⟨b,1,none⟩=some (Pv hh 0)/\Qp w hh s.H/\∀ w' H',Qp w' hh H'->Qz (fun k=>k=hh) (fun k=>k=hh) w w'->STo w w' b O A { s with H:=H' }:=by
 obtain⟨x,v,hh,G,u,y,D,r,C,I,i,B,z,⟨p,n⟩,j,t,o⟩:=h
 refine⟨hh,Qb i 1 _ Z,p,fun w' H' F d=>?_⟩
 obtain⟨K,f⟩:∃ c,w.heap[hh]?=some (.cells c 303 (0,0)):=by
  obtain⟨-,q⟩:=p
  obtain⟨c,q,-⟩:=q
  exact⟨c,q⟩
 have l:b≠hh:=Zc i f (by decide);have m:∀ k,¬ A k->k≠hh:=fun k a e=>a (by subst e;exact o _ n)
 refine⟨fun _=>False,fun _ h=>h.elim,⟨x,v,hh,G,u,y,D,r,C,I,(d.block b (XC i) l).trans i,(QaM 6).keep (fun k a g=>d.block k g (m k a)) (fun _ h _=>by simpa using h) B,(ZV 6).keep (fun k a g=>d.block k g (m k a)) (fun _ h _=>by simpa using h) z,
  ⟨F,.inl n⟩,j.keep (fun k g a=>d.block k g ?_) (fun k a=>.inl (j.own a)) (fun _ h _=>by simpa using h),.inl t,fun k a=>a.imp (o k) id⟩,⟨d.os,d.tape,d.output,d.size,fun k a E=>d.block k a (fun e=>E (by subst e;exact n)),fun k a=>.inl (by simpa using a)⟩⟩
 rcases a with a | a
 ·obtain⟨c,J⟩:=j.block a
  exact Zc J f (by decide)
 ·exact m k a
theorem SAt.pushL (hA:∀ k,A k->k<wA.heap.size) (h:SAt wA b O A s):∃ aL cL xs,wA.cell? ⟨b,6,none⟩=some (.slice aL s.L.length cL)/\wA.frozen? ⟨b,6,none⟩=false/\s.L.length<=cL/\wA.ownsRow 0 105 3 (.slice aL s.L.length cL) s.L.length xs /\
 ∀ w9 g cap2 (l:List (TT 6)) ds,ds.length=l.length*3->w9.ownsRow 0 105 3 (.slice (some ⟨g,0,none⟩) (s.L.length+l.length) cap2) (s.L.length+l.length) (xs++ds)->wA.grownBy w9 (Value.slice aL s.L.length cL).ownBlock->((Value.slice aL s.L.length cL).ownBlock=some g\/g=wA.heap.size)->g<w9.heap.size ->
  (∀ i x,l[i]?=some x->(Lay.tt 6).In wA (fun g=>¬ A g) x ((ds.drop (i*3)).take 3)) ->
  w9.cell? ⟨b,6,none⟩=some (.slice aL s.L.length cL)/\w9.frozen? ⟨b,6,none⟩=false/\STo wA (w9.setCell ⟨b,6,none⟩ (.slice (some ⟨g,0,none⟩) (s.L.length+l.length) cap2)) b O A { s with L:=s.L++l }:=by
 obtain⟨pm,X,r,a1,T,a2,c2,Q,c3,vL,o,k2,k3,⟨H,k5⟩,t,F,G⟩:=h
 obtain⟨aL,cL,rfl,B,-,-⟩:=t.form
 have v:∀ {j},(Value.slice aL s.L.length cL).ownBlock=some j->O j/\∃ c,wA.heap[j]?=some (.cells c 105 (0,0)):=fun {j} d=>⟨t.own d,t.block d⟩;obtain⟨xs,K,q2,S⟩:=t
 obtain⟨ch,m⟩:∃ c,wA.heap[r]?=some (.cells c 303 (0,0)):=by
  obtain⟨-,q⟩:=H
  obtain⟨c,q,-⟩:=q
  exact⟨c,q⟩
 have E:=XC o;have D:=XC m
 have p:∀ j,(Value.slice aL s.L.length cL).ownBlock=some j->b≠j:=fun j d=>by
  obtain⟨c,hc⟩:=(v d).2
  exact Zc o hc (by decide)
 refine⟨aL,cL,xs,Qb o 6 _ Z,Qj o 6,B,K,fun w9 g cap2 l ds U h1 n J R W=>?_⟩
 have aa:=n.size;have z:=(n.block b E (fun e=>p b e.symm Z)).trans o
 have y:b≠g:=by
  rcases J with h | h
  ·exact p g h
  ·omega
 have f:∀ k,¬ A k->k<wA.heap.size->¬ (A k\/(wA.heap.size<=k/\k<w9.heap.size)):=fun k a M e=>by rcases e with e | e;exact a e;omega
 have I:Qz O (fun x=>O x\/(wA.heap.size<=x/\x<w9.heap.size)) wA (w9.setCell ⟨b,6,none⟩ (.slice (some ⟨g,0,none⟩) (s.L.length+l.length) cap2)):=by
  refine⟨n.os,n.tape,n.output,by simp;omega,fun k a N=>?_,fun k a=>a.imp id fun h=>h.1⟩
  rw[Xd _ _ _ _ (fun e=>N (by subst e;exact F)),n.block k a (fun e=>N (v e.symm).1)]
 have u:∀ k,¬ A k->k<wA.heap.size->(w9.setCell ⟨b,6,none⟩ (.slice (some ⟨g,0,none⟩) (s.L.length+l.length) cap2)).heap[k]?=wA.heap[k]?:=fun k a M=>I.block k M (fun e=>a (G k e));refine⟨Qb z 6 _ Z,Qj z 6,fun x=>wA.heap.size<=x/\x<w9.heap.size,fun k a=>by rw[World.size_setCell];exact a,⟨pm,X,r,a1,T,a2,c2,Q,c3,.slice (some ⟨g,0,none⟩) (s.L.length+l.length) cap2,?_,(QaM 6).keep u f k2,(ZV 6).keep u f k3,⟨H.keep ?_,.inl k5⟩,?_,.inl F,fun k a=>a.imp (G k) id⟩,I⟩
 ·rw[Qh z];rfl
 ·rw[Xd _ _ _ _ (show r≠b from Zc m o (by decide)),n.block r D (fun e=>by obtain⟨c',C⟩:=(v e.symm).2;exact Zc m C (by decide) Z)]
 ·refine⟨xs++ds,?_,fun k a=>?_,?_⟩
  ·rw[List.length_append]
   exact QeY h1 (Xd _ _ _ _ (show g≠b from fun e=>y e.symm))
  ·simp[Value.ownBlock] at a
   subst a;rcases J with h | h
   ·exact .inl (v h).1
   ·exact .inr ⟨by omega,R⟩
  ·refine Qdh (s:=3) (P:=fun x V=>(Lay.tt 6).In _ _ x V) K.1 (fun i x w=>?_) (fun i x w=>?_)
   ·exact(Lay.tt 6).keep u f (S i x w)
   ·exact(Lay.tt 6).keep u f (W i x w)
theorem SAt.same6 {v:Value}(h:SAt w b O A s) (d:w.cell? ⟨b,6,none⟩=some v) (k:Nat):(w.setCell ⟨b,6,none⟩ v).heap[k]?=w.heap[k]?:=by
 obtain⟨n,j,i,m,p,q,g,l,f,o,a,-⟩:=h
 have e:=(Qb a 6 _ Z).symm.trans d;simp only[Option.some.injEq] at e
 by_cases c:k=b
 ·subst c;rw[Qh a,a,<-e];rfl
 ·exact Xd _ _ _ _ c
end
end Go.Proofs.YtjhdpajpibdnaafGreat
