import Derived.Test.YtofjjohefamljafGreatP2
import Derived.Deep.RegionWith
set_option maxHeartbeats 16000000
set_option maxRecDepth 100000
namespace Go.Proofs.YtofjjohefamljafGreat
open Go.ChangeShapes Go.WideShapes Go.ChangeAt Go.RowKit _root_.Go.Proofs.Tryz
set_option linter.unusedSimpArgs false
set_option linter.unusedVariables false
variable {w w' w6 wr wc w1:World}{n c b B g m k i j X cm rc ac rl al fi N bh q R bi cap most lo id d f x ci na ca o lm G pages:Nat}{O O' Q2 OO:Nat→Prop}{a p ra aa pm pi pa:Option Addr}{v u v0:Value}{t bt e:TypeId}{xa xb xc xk xn words fu pg:Int}{Q:Exit→Act→World→Prop}{P:Program}{l:List Oper}{bs:List Bool}{cs xs:List Value}{inp:List Int}{x0:Operand}
def Qho (B:Nat) (w w':World):Prop:=∀ k,k≠B->w'.heap[k]?=w.heap[k]?
theorem Lay.keep1 {α:Type}{A:Lay α}{w:World}{x:α}(h:A.In w (fun g=>lo<=g) x cs) (a:Qho B w w') (c:B<lo):A.In w' (fun g=>lo<=g) x cs :=
 A.keep (fun k b _=>a k (by omega)) (fun _ h _=>h) h
theorem Yd:type_of% @Lay.keep1:=@Lay.keep1
theorem ZT (w:World) (B j:Nat) (a:List Value):Qho B w (w.setCells B j a):=fun k b=>Zy b a j w
section
variable {n:Nat}{a:Act}{L:List (Tmp × Value)}{w0 w:World}{Bs:List (Nat × Array Value × TypeId)}{Q:Exit->Act->World->Prop}{ops:Array Oper}{rest:List Oper}{t:Tmp}{u v:Value}{ty ty2 ty3:TypeId}{pos:String}{aft:Array Edge}{gd:Option (Nat × Bool)}{x y:Operand}
theorem sTk (i:Nat){c:Array Value}{b:List Value}(f:Wd w0 w Bs)
 (m:Qs L x=some (.pointer (some ⟨B,j,none⟩))) (q:Qs L y=some (.agg b.toArray)) (r:(prog.info? ty2).map (·.size)=some b.length) (p:b.all (·.oneCell')=true)
 (hb:Bs[i]?=some (B,c,bt)) (g:Nat.ble (j+b.length) c.size=true)
 (k:∀ w',Qho B w w'->Wd w0 w' (Bs.set i (B,Zj c j b,bt))->St n L ops Q rest w'):St n L ops Q (⟨none,.store ty2 x y,ty,pos,aft,none⟩::rest) w:=fun a d=>by
 have o:j+b.length<=c.size:=by simpa[Nat.ble_eq] using g
 refine QdG d Z Z (fun K h=>?_) (k (w.setCells B j b) (ZT w B j b) (f.setAt i hb j b g Z Z) a d);have e:=d.ev m;have l:=d.ev q
 have:=run_storeAt_mid (P:=prog) w B j ty2 b.toArray (by simpa using Qch (f.get i hb) j b.length o) (by simpa using r) (by simpa using p)
 unfold Oper.wp execOp;simp only[e,l,Sem.run_bind,this,Result.andThen_ok,Sem.run_pure]
 rw[Oper.upon_skip];simpa[Act.put] using h
theorem s1k (i:Nat){c:Array Value}(p:(prog.info? ty2).map (·.size)=some 1) (g:Wd w0 w Bs)
 (t:Qs L x=some (.pointer (some ⟨B,j,none⟩))) (E:Qs L y=some v) (z:v.cells=#[v]) (D:v.oneCell'=true)
 (hb:Bs[i]?=some (B,c,bt)) (o:Nat.ble (j+1) c.size=true)
 (k:∀ w',Qho B w w'->Wd w0 w' (Bs.set i (B,Zj c j [v],bt))->St n L ops Q rest w'):St n L ops Q (⟨none,.store ty2 x y,ty,pos,aft,none⟩::rest) w:=fun a b=>by
 have A:j+1<=c.size:=by simpa[Nat.ble_eq] using o
 refine QdG b Z Z (fun K r=>?_) (k (w.setCells B j [v]) (ZT w B j [v]) (g.setAt i hb j [v] o Z Z) a b);have e:=b.ev t;have s:=b.ev E;have l:=Qch (g.get i hb) j 1 A;have m:=run_storeCells_cells (P:=prog) B j [v] 0 w (fun k f=>by simpa using (l k (by simpa using f)).1) (fun k f=>by simpa using (l k (by simpa using f)).2) (fun u h=>by simp at h;subst h;exact D)
 have C:(Instr.storeAt ty2 (.pointer (some ⟨B,j,none⟩)) v).run prog w=.ok () (w.setCells B j [v]):=by
  cases hq:prog.info? ty2 with
  | none=>simp[hq] at p
  | some q =>
    have d:q.size=1:=by simpa[hq] using p
    simp only[Nat.add_zero] at m
    simp[Instr.storeAt,Instr.sureAddr,storeVar,sizeOf,typeInfo,hq,z,d,m]
 unfold Oper.wp execOp;simp only[e,s,Sem.run_bind,C,Result.andThen_ok,Sem.run_pure]
 rw[Oper.upon_skip];simpa[Act.put] using r
theorem QhA {o:Oper}{f:FuncId}{args:Array Value}{R:Value->World->Prop}(l:Wd w0 w Bs) (d:Gok ops n L o.guard)
 (g:Calls prog f args w fun e w'=>∃ v,e=.returned v/\R v w'/\Below w.heap.size w w') (m:o.dst=some t) (p:Nat.blt t n=true)
 (h:∀ ev:Operand->Value,(∀ x v,Qs L x=some v->ev x=v)->(execOp ev o).run prog w=.ok (.enter f args) w)
 (k:∀ v w',R v w'->Below w.heap.size w w'->Wd w0 w' Bs->St n ((t,v)::L) ops Q rest w'):St n L ops Q (o::rest) w:=fun a b =>
 wpList_step fun K i=>by
  rw[Xs (d.on b)]
  unfold Oper.wp;rw[h a.eval (fun x v e=>b.ev e),Oper.upon_enter]
  refine g.mono ?_;rintro e q ⟨v,rfl,j,c⟩;rw[m]
  exact i _ _ (k _ _ j c (l.below c) _ (b.put p))
theorem Qmz {f:FuncId}{o:Array TypeId}{R:Value->World->Prop}(b:CF f) (i:Wd w0 w Bs) (g:Calls prog f #[v0] w fun e w'=>∃ v,e=.returned v/\R v w'/\Below w.heap.size w w') (d:Gok ops n L gd) (l:Qs L x0=some v0) (j:Nat.blt t n=true)
 (k:∀ v w',R v w'->Below w.heap.size w w'->Wd w0 w' Bs->St n ((t,v)::L) ops Q rest w'):St n L ops Q (⟨some t,.call { callee:=.value (.func f),args:=#[x0],argTypes:=o },ty,pos,aft,gd⟩::rest) w :=
 QhA i d g Z j (fun p a=>by have h:=a _ _ l;have m:=a (.func f) _ Z;have c:=b;unfold CF at c;simp[go_sem,m,c,h]) k
theorem QjT {f:FuncId}{s:Array TypeId}{g:Operand}{c:Value}{R:Value->World->Prop}(b:CF f) (m:Wd w0 w Bs) (i:Calls prog f #[v0,c] w fun e w'=>∃ v,e=.returned v/\R v w'/\Below w.heap.size w w') (h:Gok ops n L gd) (p:Qs L x0=some v0) (r:Qs L g=some c) (o:Nat.blt t n=true)
 (k:∀ v w',R v w'->Below w.heap.size w w'->Wd w0 w' Bs->St n ((t,v)::L) ops Q rest w'):St n L ops Q (⟨some t,.call { callee:=.value (.func f),args:=#[x0,g],argTypes:=s },ty,pos,aft,gd⟩::rest) w :=
 QhA m h i Z o (fun u a=>by have l:=a _ _ p;have j:=a _ _ r;have q:=a (.func f) _ Z;have d:=b;unfold CF at d;simp[go_sem,q,d,l,j]) k
theorem Qiu {f:FuncId}{q:Array TypeId}{d:Operand}{R:Value->World->Prop}(b:CF f) (j:Wd w0 w Bs) (h:Calls prog f #[v0] w fun e w'=>∃ v,e=.returned v/\R v w'/\Below w.heap.size w w') (g:Gok ops n L gd) (o:Qs L d=some (.func (.func f) #[] #[])) (m:Qs L x0=some v0) (l:Nat.blt t n=true)
 (k:∀ v w',R v w'->Below w.heap.size w w'->Wd w0 w' Bs->St n ((t,v)::L) ops Q rest w'):St n L ops Q (⟨some t,.call { callee:=.value d,args:=#[x0],argTypes:=q },ty,pos,aft,gd⟩::rest) w :=
 QhA j g h Z l (fun r a=>by have i:=a _ _ m;have p:=a _ _ o;have c:=b;unfold CF at c;simp[go_sem,p,c,i]) k
end
theorem XM:type_of% @Nat.one_mul:=@Nat.one_mul
theorem QaX {B:Nat}{t:TypeId}:∀ (vs:List Value) (w:World) (c:Array Value) (j:Nat),Blk w B c t->j+vs.length<=c.size->Blk (w.setCells B j vs) B (Zj c j vs) t
 | [],w,c,j,h,hs=>by
   have:Zj c j []=c:=by unfold Zj;simp
   rw[this];exact h
 | v::vs,w,c,j,h,hs=>by
   have:=QaX vs (w.setCell ⟨B,j,none⟩ v) (c.setIfInBounds j v) (j+1) (Qo h j v) (by simp at hs |-;omega)
   rw[Qb2 _ _ _ _ hs] at this
   exact this
theorem ZU {B b:Nat}(hb:B<=b):∀ (vs:List Value) (w w0:World) (j:Nat),Below B w0 w->Below B w0 (w.setCells b j vs)
 | [],w,w0,j,h=>h
 | v::vs,w,w0,j,h=>ZU hb vs _ _ _ (h.setCell hb v)
theorem QcU (w:World) (b j:Nat) (c:List Value):w.grownBy (w.setCells b j c) (some b):=by
 have h:=ZU (Xb b) c w w j (Below.refl 0 w);exact⟨h.os,h.tape,h.output,h.size,fun k d a=>Zy (fun e=>a (by rw[e])) c j w⟩
section
variable {α:Type}{A:Lay α}{e:TypeId}{w:World}{lo g n:Nat}{l:List α}{xs:List Value}
theorem QaS.fill (h:QaS A e w lo (.slice (some ⟨g,0,none⟩) l.length n) l xs){x:α}{a:List Value}(o:A.In w (fun k=>lo<=k/\k≠g) x a) (q:l.length<n) :
 QaS A e (w.setCells g (l.length*A.size) a) lo (.slice (some ⟨g,0,none⟩) (l.length+1) n) (l++[x]) (xs++a):=by
 have c:=A.len o;refine QaS.push h (Yc o (fun k p _=>⟨p.1,fun e=>p.2 (by simpa[Value.ownBlock] using e.symm)⟩)) (QcU w g _ a) (.inl Z) ?_;obtain⟨r,y⟩:=h.own
 rcases y with ⟨f,_⟩|⟨z,m,d,f,u,s,t,j,i,b⟩
 ·simp at f
 ·simp only[Value.slice.injEq,Option.some.injEq,Addr.mk.injEq,and_true,true_and] at f
  obtain⟨rfl,rfl⟩:=f
  have v:(l.length+1)*A.size<=n*A.size:=Xp _ q;rw[Nat.add_mul,XM] at v
  refine⟨by rw[List.length_append,r,c,Nat.add_mul,XM],.inr ⟨g,n,Zj d (l.length*A.size) a,Z,u,QaX a w d _ s (by omega),q,j,?_,?_⟩⟩
  ·rw[<-i];unfold Zj;simp;omega
  ·unfold Zj;rw[b,Nat.add_mul,XM]
   rw[show l.length*A.size+A.size=(xs++a).length by rw[List.length_append,r,c],List.toList_toArray,<-List.append_assoc]
   exact List.take_left' Z
end
section
variable {P:Program}{Q:Exit->Act->World->Prop}
def ZZ (l:List Oper) (S:Nat->Bool):Prop:=∀ (j:Nat) (o:Oper),l[j]?=some o->S j=true->∀ e∈o.after,Region.binds .any e=true->S e.on=true
def Qgw (o:Oper) (S:Nat->Bool):Prop:=∀ e∈o.after,Region.binds .any e=true->S e.on=true
theorem Qgw.at {o:Oper}{S:Nat->Bool}(h:Qgw o S) (j:Nat) (c:QfW o j=true):S j=true:=by
 obtain⟨e,b,a,rfl⟩:=QhS c
 exact h e b a
def Zp (i:Nat) (S:Nat->Bool):Nat->Bool:=fun j=>j==i||S j
end
structure DI (n:Nat) (a0:Act) (w00:World) (ds:List Tmp) (Ti:List (Nat × Tmp)) (Ai:List (Nat × Tmp × Nat × TypeId)) (Oi:List (Nat × Tmp × Nat × TypeId)) (M:List (Tmp × Value)) (C:List (Tmp × List Value)) (S:Nat->Bool) (a:Act) (w:World):Prop where
 size:a.tmps.size=n
 defers:a.defers=[]
 outer:∀ t,ds.contains t=false->a.tmps.getD t undef=a0.tmps.getD t undef
 bel:Below w00.heap.size w00 w
 vals:∀ x∈Ti,S x.1=true->∀ v,M.lookup x.2=some v->a.tmps.getD x.2 undef=v
 new:∀ x∈Ai,S x.1=true->∃ B,a.tmps.getD x.2.1 undef=.pointer (some ⟨B,0,none⟩)/\w00.heap.size<=B/\∃ c,Blk w B c x.2.2.2/\c.size=x.2.2.1
 ne:∀ x∈Ai,∀ y∈Ai,x.2.1≠y.2.1->S x.1=true->S y.1=true->a.tmps.getD x.2.1 undef≠a.tmps.getD y.2.1 undef
 did:∀ x∈Oi,S x.1=true->∀ c,C.lookup x.2.1=some c->∃ B,a.tmps.getD x.2.1 undef=.pointer (some ⟨B,0,none⟩)/\Blk w B c.toArray x.2.2.2
def diB (l:List Oper) (n:Nat) (Ti:List (Nat × Tmp)) (Ai Oi:List (Nat × Tmp × Nat × TypeId)):Bool :=
 (nodupB (Ti.map (·.1))&&nodupB (Ai.map (·.1))&&nodupB (Oi.map (·.1)))&&(nodupB (Ti.map (·.2)++Ai.map (·.2.1))&&nodupB (Oi.map (·.2.1))&&((Ti.map (·.2)++Ai.map (·.2.1)).all fun t=>decide (t<n)&&(Ql l).contains t) &&
 (Oi.all fun x=>Ai.any fun y=>y.2.1==x.2.1&&y.2.2.1==x.2.2.1&&y.2.2.2==x.2.2.2&&(match l[x.1]? with | some o=>QfW o y.1 | none=>false)))
theorem QbN {b l2:List Tmp}:∀ {t:Tmp},nodupB (b++l2)=true->t∈b->t∈l2->False:=by
 induction b with
 | nil=>intro t _ h;cases h
 | cons x r ih =>
   intro t h a c;simp only[List.cons_append,nodupB,Bool.and_eq_true,Bool.not_eq_true'] at h
   rcases List.mem_cons.1 a with rfl | a
   ·have:=h.1
    simp at this
    exact this.2 c
   ·exact ih h.2 a c
theorem ZP {α:Type}{f:α->Tmp}:∀ {l:List α},nodupB (l.map f)=true->∀ x∈l,∀ y∈l,f x=f y->x=y
 | [],_,_,h,_,_,_=>by cases h
 | z::r,h,x,hx,y,hy,e=>by
   simp only[List.map_cons,nodupB,Bool.and_eq_true,Bool.not_eq_true'] at h
   have c:∀ u∈r,f u≠f z:=fun u d e=>by
    have:=h.1
    simp at this
    exact this u d e
   rcases List.mem_cons.1 hx with b | b
   ·rcases List.mem_cons.1 hy with a | a
    ·rw[b,a]
    ·exact absurd e.symm (b ▸ c y a)
   ·rcases List.mem_cons.1 hy with a | a
    ·exact absurd e (a ▸ c x b)
    ·exact ZP h.2 x b y a e
theorem Qeg {a l2:List Tmp}(h:nodupB (a++l2)=true):nodupB l2=true:=by
 induction a with
 | nil=>exact h
 | cons x r ih =>
   simp only[List.cons_append,nodupB,Bool.and_eq_true,Bool.not_eq_true'] at h
   exact ih h.2
section
variable {n i:Nat}{a0 a:Act}{w00 w w':World}{l:List Oper}{Ti:List (Nat × Tmp)}{Ai Oi:List (Nat × Tmp × Nat × TypeId)}{M:List (Tmp × Value)}{C:List (Tmp × List Value)}{S:Nat->Bool}{t:Tmp}{v:Value}{s:Nat}{ty:TypeId}
theorem Zc {u:Tmp}(h:t<a.tmps.size):(a.put (some t) v).tmps.getD u undef=if u=t then v else a.tmps.getD u undef:=by
 by_cases e:u=t
 ·subst e;simp[Act.put,Array.getD,h]
 ·rw[Xr e]
  have b:t≠u:=fun x=>e x.symm;rw[Za,Za]
  simp only[Act.put]
  rw[Array.getElem?_setIfInBounds_ne b]
theorem Q5 (a:j≠i) (h:Zp i S j=true):S j=true:=by
 have:(j==i)=false:=by simpa using a
 unfold Zp at h;rwa [this,Bool.false_or] at h
theorem DI.pure (O:diB l n Ti Ai Oi=true) (j:DI n a0 w00 (Ql l) Ti Ai Oi M C S a w) (Q:(i,t)∈Ti) (T:M.lookup t=some v) (hS:S i=false) (hb:Below w.heap.size w w')
 (J:(Ai.all fun x=>x.1 != i)=true) (I:(Oi.all fun x=>x.1 != i)=true):DI n a0 w00 (Ql l) Ti Ai Oi M C (Zp i S) (a.put (some t) v) w':=by
 simp only[diB,Bool.and_eq_true] at O
 obtain⟨D,⟨⟨K,N⟩,q⟩,U⟩:=O
 have o:t∈Ti.map (·.2):=List.mem_map.2 ⟨(i,t),Q,Z⟩;have z:=Xe.1 q t (List.mem_append_left _ o);simp only[Bool.and_eq_true,decide_eq_true_eq] at z
 have g:t<a.tmps.size:=by rw[j.size];exact z.1
 have d:∀ x∈Ai,x.2.1≠t:=fun x b e=>QbN K o (e ▸ List.mem_map.2 ⟨x,b,Z⟩)
 have p:∀ x∈Oi,x.2.1≠t:=fun x b e=>by
  obtain⟨y,r,P⟩:=List.any_eq_true.1 (Xe.1 U x b)
  simp only[Bool.and_eq_true,beq_iff_eq] at P
  exact d y r (P.1.1.1.trans e)
 have L:∀ x∈Ai,Zp i S x.1=true->S x.1=true:=fun x b h=>Q5 (by have:=Xe.1 J x b;simpa using this) h;have A:∀ x∈Oi,Zp i S x.1=true->S x.1=true:=fun x b h=>Q5 (by have:=Xe.1 I x b;simpa using this) h;refine⟨by rw[<-j.size];simp[Act.put],j.defers,fun u k=>?_,Xl j.bel hb,fun x b m u k=>?_,fun x b m=>?_,fun x b y r s H F=>?_,fun x b m c X=>?_⟩
 ·have:u≠t:=fun e=>by subst e;rw[z.2] at k;cases k
  rw[Zc g,Xr this];exact j.outer u k
 ·rw[Zc g]
  by_cases e:x.2=t
  ·rw[Xs e];rw[e,T] at k;exact Xn k
  ·rw[Xr e]
   refine j.vals x b (Q5 (fun R=>e ?_) m) u k;exact congrArg (·.2) (ZP (f:=fun x:Nat × Tmp=>x.1) D.1.1 x b (i,t) Q R)
 ·obtain⟨B,E,G,c,W,V⟩:=j.new x b (L x b m)
  exact⟨B,by rw[Zc g,Xr (d x b)];exact E,G,c,W.below hb,V⟩
 ·rw[Zc g,Xr (d x b),Zc g,Xr (d y r)]
  exact j.ne x b y r s (L x b H) (L y r F)
 ·obtain⟨B,E,G⟩:=j.did x b (A x b m) c X
  exact⟨B,by rw[Zc g,Xr (p x b)];exact E,G.below hb⟩
theorem DI.alloc (hB:diB l n Ti Ai Oi=true) (g:DI n a0 w00 (Ql l) Ti Ai Oi M C S a w) (hi:(i,t,s,ty)∈Ai){c:Array Value}(hc:c.size=s) (hS:S i=false) (T:ZZ l S)
 (R:(Ti.all fun x=>x.1 != i)=true) (X:(Oi.all fun x=>x.1 != i)=true):DI n a0 w00 (Ql l) Ti Ai Oi M C (Zp i S) (a.put (some t) (.pointer (some ⟨w.heap.size,0,none⟩))) (w.alloc (.cells c ty)):=by
 simp only[diB,Bool.and_eq_true] at hB
 obtain⟨Q,⟨⟨K,ab⟩,H⟩,hO⟩:=hB
 have U:Below w.heap.size w (w.alloc (.cells c ty)):=QbH w _;have G:t∈Ai.map (·.2.1):=List.mem_map.2 ⟨(i,t,s,ty),hi,Z⟩;have P:=Xe.1 H t (List.mem_append_right _ G);simp only[Bool.and_eq_true,decide_eq_true_eq] at P
 have d:t<a.tmps.size:=by rw[g.size];exact P.1
 have A:∀ x∈Ti,x.2≠t:=fun x b e=>QbN K (e ▸ List.mem_map.2 ⟨x,b,Z⟩) G;have J:∀ x∈Ai,x.2.1=t->x=(i,t,s,ty):=fun x b e=>ZP (f:=fun x:Nat × Tmp × Nat × TypeId=>x.2.1) (Qeg K) x b _ hi e;have j:∀ x∈Ai,x.2.1≠t->Zp i S x.1=true->S x.1=true:=fun x b p h=>Q5 (fun e=>p (congrArg (·.2.1) (ZP (f:=fun x:Nat × Tmp × Nat × TypeId=>x.1) Q.1.2 x b _ hi e))) h;refine⟨by rw[<-g.size];simp[Act.put],g.defers,fun u v=>?_,Xl g.bel U,fun x b m u v=>?_,fun x b m=>?_,fun x b y L z I F=>?_,fun x b m N V=>?_⟩
 ·have:u≠t:=fun e=>by subst e;rw[P.2] at v;cases v
  rw[Zc d,Xr this];exact g.outer u v
 ·rw[Zc d,Xr (A x b)]
  exact g.vals x b (Q5 (by have:=Xe.1 R x b;simpa using this) m) u v
 ·by_cases e:x.2.1=t
  ·rw[J x b e]
   exact⟨w.heap.size,by rw[Zc d,Xs Z],g.bel.size,c,Blk.new w c ty,hc⟩
  ·obtain⟨B,E,O,N,W,h4⟩:=g.new x b (j x b e m)
   exact⟨B,by rw[Zc d,Xr e];exact E,O,N,W.below U,h4⟩
 ·have lt:∀ x∈Ai,x.2.1≠t->Zp i S x.1=true->a.tmps.getD x.2.1 undef≠.pointer (some ⟨w.heap.size,0,none⟩):=fun x b e m h=>by
   obtain⟨B,E,O,N,W,h4⟩:=g.new x b (j x b e m)
   rw[E] at h
   simp at h
   have:=W.lt
   omega
  by_cases q:x.2.1=t
  ·by_cases k:y.2.1=t
   ·exact absurd (q.trans k.symm) z
   ·rw[Zc d,Xs q,Zc d,Xr k]
    exact fun h=>lt y L k F h.symm
  ·by_cases k:y.2.1=t
   ·rw[Zc d,Xr q,Zc d,Xs k]
    exact lt x b q I
   ·rw[Zc d,Xr q,Zc d,Xr k]
    exact g.ne x b y L z (j x b q I) (j y L k F)
 ·have D:S x.1=true:=Q5 (by have:=Xe.1 X x b;simpa using this) m
  have p:x.2.1≠t:=fun e=>by
   obtain⟨y,L,r⟩:=List.any_eq_true.1 (Xe.1 hO x b)
   simp only[Bool.and_eq_true,beq_iff_eq] at r
   have aa:=J y L (r.1.1.1.trans e)
   cases ho:l[x.1]? with
   | none=>rw[ho] at r;simp at r
   | some o =>
     rw[ho] at r
     have:=Qgw.at (T x.1 o ho D) y.1 r.2
     rw[aa] at this
     simp only at this
     rw[hS] at this
     cases this
  obtain⟨B,E,O⟩:=g.did x b D N V
  exact⟨B,by rw[Zc d,Xr p];exact E,O.below U⟩
theorem DI.box (d:DI n a0 w00 (Ql l) Ti Ai Oi M C S a w) (e:(i,t,s,ty)∈Ai) (b:S i=true):∃ B,a.tmps.getD t undef=.pointer (some ⟨B,0,none⟩)/\w00.heap.size<=B/\∃ c,Blk w B c ty/\c.size=s:=d.new _ e b
theorem Qj6 {w:World}{c:Array Value}{a:TypeId}(h:Blk w B c a) (d:c.size=cs.length):Blk (w.setCells B 0 cs) B cs.toArray a:=by
 have:=QaX cs w c 0 h (by omega)
 have e:Zj c 0 cs=cs.toArray:=by
  unfold Zj;have b:c.toList.drop (0+cs.length)=[]:=List.drop_of_length_le (by simp[d]);rw[b];simp
 rwa [e] at this
theorem DI.store (hB:diB l n Ti Ai Oi=true) (d:DI n a0 w00 (Ql l) Ti Ai Oi M C S a w) (hi:(i,t,s,ty)∈Oi){c:Array Value}(hj:(j,t,s,ty)∈Ai) (G:S j=true) (W:a.tmps.getD t undef=.pointer (some ⟨B,0,none⟩)) (q:Blk w B c ty) (ac:c.size=s) (V:w00.heap.size<=B) (hC:C.lookup t=some cs) (ab:cs.length=s) (hS:S i=false) (N:ZZ l S)
 (J:(Ti.all fun x=>x.1 != i)=true) (T:(Ai.all fun x=>x.1 != i)=true):DI n a0 w00 (Ql l) Ti Ai Oi M C (Zp i S) a (w.setCells B 0 cs):=by
 simp only[diB,Bool.and_eq_true] at hB
 obtain⟨I,⟨⟨ad,v⟩,aa⟩,hO⟩:=hB
 have X:=ZT w B 0 cs;have k:=Qj6 (cs:=cs) q (by omega);have U:∀ x∈Ai,Zp i S x.1=true->S x.1=true:=fun x b h=>Q5 (by have:=Xe.1 T x b;simpa using this) h;refine⟨d.size,d.defers,d.outer,ZU V cs w w00 0 d.bel,fun x b r u hu=>?_,fun x b r=>?_,fun x b y F H R O=>d.ne x b y F H (U x b R) (U y F O),fun x b r D g=>?_⟩
 ·exact d.vals x b (Q5 (by have:=Xe.1 J x b;simpa using this) r) u hu
 ·obtain⟨m,A,E,D,h3,h4⟩:=d.new x b (U x b r)
  by_cases e:m=B
  ·subst e
   have:some (Obj.cells D x.2.2.2 (0,0))=some (Obj.cells c ty (0,0)):=by rw[<-h3,<-q]
   simp at this
   obtain⟨rfl,L⟩:=this
   exact⟨m,A,E,_,by rw[L];exact k,by simp;omega⟩
  ·exact⟨m,A,E,D,(X m e).trans h3,h4⟩
 ·by_cases e:x.2.1=t
  ·have Q:=ZP (f:=fun x:Nat × Tmp × Nat × TypeId=>x.2.1) v x b _ hi e;subst Q;simp only at g |-
   rw[hC] at g
   cases g
   exact⟨B,W,k⟩
  ·have z:S x.1=true:=Q5 (fun P=>e (congrArg (·.2.1) (ZP (f:=fun x:Nat × Tmp × Nat × TypeId=>x.1) I.2 x b _ hi P))) r;obtain⟨m,A,E⟩:=d.did x b z D g
   have K:m≠B:=fun P=>by
    obtain⟨y,F,p⟩:=List.any_eq_true.1 (Xe.1 hO x b)
    simp only[Bool.and_eq_true,beq_iff_eq] at p
    cases ho:l[x.1]? with
    | none=>rw[ho] at p;simp at p
    | some o =>
      rw[ho] at p
      exact d.ne y F _ hj (by rw[p.1.1.1];exact e) (Qgw.at (N x.1 o ho z) y.1 p.2) G (by rw[p.1.1.1,A,P];exact W.symm)
   exact⟨m,A,(X m K).trans E⟩
theorem DI.full (f:DI n a0 w00 (Ql l) Ti Ai Oi M C S a w){i:Nat}(h:(j,t,s,ty)∈Ai) (c:S j=true) (o:(i,t,s,ty)∈Oi) (d:S i=true) (g:C.lookup t=some cs) :
 ∃ B,a.tmps.getD t undef=.pointer (some ⟨B,0,none⟩)/\w00.heap.size<=B/\Blk w B cs.toArray ty:=by
 obtain⟨B,e,m⟩:=f.did _ o d cs g
 obtain⟨p,b,k,_⟩:=f.new _ h c
 simp only at e b
 rw[e] at b
 simp at b
 subst b;exact⟨B,e,k,m⟩
end
section
variable (E:Tmp->Value->World->Prop) (W:(Nat->Bool)->World->Prop) (R:World->World->Prop) (P:Program) (l:List Oper)
def QfS (i:Nat) (o:Oper):Prop:=∀ (S:Nat->Bool) w,S i=false->Qgw o S->ZZ l S->W S w->W (Zp i S) w/\EO E o.dst undef w
def Z2 (ops:Array Oper):List (Nat × Option Bool)->Prop
 | []=>True
 | (g,c)::r=>(∀ t,(ops[g]?).bind (·.dst)=some t->∀ v w,E t v w->match c with | some b=>v=.bool b | none=>v=undef)/\Z2 ops r
structure QjJ (outs:List Tmp) (a0:Act) (listed:Array Bool) (a:Act) (w:World):Prop where
 world:W (fun j=>listed.getD j false) w
 closed:ZZ l (fun j=>listed.getD j false)
 defers:a.defers=a0.defers
 size:a.tmps.size=a0.tmps.size
 outer:∀ t,t ∉ Ql l->a.tmps[t]?=a0.tmps[t]?
 outs:∀ t∈outs,t ∉ Ql l->E t (a.tmps.getD t undef) w
 known:∀ j o t,l[j]?=some o->o.dst=some t->listed.getD j false=true->E t (a.tmps.getD t undef) w
end
section
variable {P:Program}{E:Tmp->Value->World->Prop}{W:(Nat->Bool)->World->Prop}{R:World->World->Prop}
theorem QbY {a:Array Oper}:∀ (gs:List (Nat × Option Bool)),Z2 E a gs->∀ g c,gs.lookup g=some c->∀ t,(a[g]?).bind (·.dst)=some t->∀ v w,E t v w->match c with | some b=>v=.bool b | none=>v=undef
 | [],_,_,_,h=>by simp at h
 | (g',c')::r,h,g,c,hl=>by
   by_cases e:g=g'
   ·subst e;simp at hl;subst hl;exact h.1
   ·have d:(g==g')=false:=by simpa using e
    simp[List.lookup_cons,d] at hl;exact QbY r h.2 g c hl
end
def Qk9 (l:List Oper) (S:Nat->Bool) (t:Tmp):Prop:=t∈Ql l->∃ j o,l[j]?=some o/\o.dst=some t/\S j=true
def PEx (PX:List PanicEntry->World->Prop):Exit->Act->World->Prop:=fun e _ w=>∃ ch,e=.panic ch/\PX ch w
theorem QlZ {P:Program}{o:Oper}{a:Act}{K f:Act->World->Prop}{PX:List PanicEntry->World->Prop}(h:∀ a w,K a w->f a w) (d:∀ e w,PEx PX e a w->Q e a w)
 (b:o.wp P a w K (PEx PX)):o.wp P a w f Q:=by
 unfold Oper.wp at *;generalize (execOp a.eval o).run P w=r at *
 cases r with
 | ok n w' =>
   cases n<;>simp only[Oper.upon] at b |- <;>
    first
     | exact h _ _ b
     | exact d _ _ b
     | exact Xm b (fun e g c=>by cases e<;>first | exact h _ _ c | exact d _ _ c | (obtain⟨x,y,i,c,_⟩:=c;cases c))
     | exact Rows.mono b (fun _ _ c=>h _ _ c)
 | halt x w'=>cases x<;>simp only[Oper.upon] at b |-<;>first | exact d _ _ b | exact b
section
variable (E:Tmp->Value->World->Prop) (W:(Nat->Bool)->World->Prop) (PX:List PanicEntry->World->Prop) (P:Program) (l:List Oper)
def Qh5 (i:Nat) (o:Oper):Prop :=
 ∀ (S:Nat->Bool) a w,S i=false->Qgw o S->ZZ l S->W S w->QdP E a w (Qbu o)->∀ K:Act->World->Prop,(∀ v w',(∀ t u,Qk9 l S t->E t u w->E t u w')->W (Zp i S) w'->EO E o.dst v w'->K (a.put o.dst v) w')->o.wp P a w K (PEx PX)
def AllOkX:Nat->List Oper->List Bool->Prop
 | i,o::r,true::bs=>Qh5 E W PX P l i o/\AllOkX (i+1) r bs
 | i,o::r,false::bs=>QfS E W l i o/\AllOkX (i+1) r bs
 | _,_,_=>True
end
section
variable {P:Program}{E:Tmp->Value->World->Prop}{W:(Nat->Bool)->World->Prop}{PX:List PanicEntry->World->Prop}
theorem Qe6 {a:List Oper}(gs:List (Nat × Option Bool)):∀ (l:List Oper) (k:Nat) (bs:List Bool),Qfu gs l bs=true->AllOkX E W PX P a k l bs->∀ (i:Nat) (o:Oper),l[i]?=some o->(onB gs o true=true/\Qh5 E W PX P a (k+i) o)\/(onB gs o false=true/\QfS E W a (k+i) o)
 | [],_,_,_,_,_,_,h=>by simp at h
 | _::_,_,[],h,_,_,_,_=>by simp[Qfu] at h
 | x::l,k,b::bs,h,ha,i,o,ho=>by
   simp only[Qfu,Bool.and_eq_true] at h
   cases i with
   | zero =>
     simp at ho;subst ho
     cases b with
     | true=>exact .inl ⟨h.1,ha.1⟩
     | false=>exact .inr ⟨h.1,ha.1⟩
   | succ i =>
     simp at ho
     have e:k+(i+1)=k+1+i:=by omega
     rw[e]
     cases b with
     | true=>exact Qe6 gs l (k+1) bs h.2 ha.2 i o ho
     | false=>exact Qe6 gs l (k+1) bs h.2 ha.2 i o ho
theorem Qcv {l:List Oper}{outs:List Tmp}{gs:List (Nat × Option Bool)}{a0:Act}
 (hX:∀ ch a w,a.defers=a0.defers->PX ch w->Q (.panic ch) a w) (hB:Qab l a0.tmps.size outs gs bs=true) (hG:Z2 E l.toArray gs) (hA:AllOkX E W PX P l 0 l bs)
 (ai:∀ (vs:Tmp->Value) (S:Nat->Bool) w',(∀ j,j<l.length->S j=true)->W S w'->(∀ t,(Ql l).contains t=true->E t (vs t) w')->Q .normal (QT a0 vs (Ql l)) w') :
 ∀ (fuel:Nat) (listed:Array Bool) (a:Act) (w:World),listed.size=l.length->(listed.toList.filter (·==false)).length<=fuel->QjJ E W l outs a0 listed a w ->
  wpAny P .any l.toArray Q fuel listed a w:=by
 simp only[Qab,Bool.and_eq_true] at hB
 obtain⟨⟨⟨⟨⟨av,aw⟩,ad⟩,am⟩,ax⟩,aq⟩:=hB
 have aj:∀ (listed:Array Bool) (a:Act) (w:World),listed.size=l.length->Region.ready .any l.toArray listed=[]->QjJ E W l outs a0 listed a w->Q .normal a w:=by
  intro listed a w hs U f
  have M:∀ j,j<l.length->listed.getD j false=true:=by
   intro j
   induction j using Nat.strongRecOn with
   | _ j ih =>
     intro s
     cases q:listed.getD j false with
     | true=>rfl
     | false =>
       exfalso
       have:j∈Region.ready .any l.toArray listed:=by
        unfold Region.ready;refine List.mem_filter.2 ⟨by simpa using s,?_⟩
        have e1:listed.getD j true=false:=by
         have ap:j<listed.size:=by omega
         simp[Array.getD,ap] at q |-;exact q
        have e2:l.toArray[j]?=some l[j]:=by simp[s]
        rw[e1,e2]
        simp only[Bool.not_false,Bool.true_and,Option.map_some,Option.getD_some]
        rw[Array.all_eq_true_iff_forall_mem]
        intro e H
        cases K:Region.binds .any e with
        | false=>rfl
        | true =>
          have:=back_at l 0 j l[j] aq (by simp[s]) e H K
          simp only[Bool.not_true,Bool.false_or]
          exact ih e.on (by omega) (by omega)
       rw[U] at this
       cases this
  have ah:∀ t∈Ql l,E t (a.tmps.getD t undef) w/\t<a0.tmps.size:=by
   intro t r;obtain⟨o,ho,y⟩:=List.mem_filterMap.1 r
   obtain⟨j,s⟩:=List.getElem?_of_mem ho
   have F:j<l.length:=by
    rcases Nat.lt_or_ge j l.length with h | h
    ·exact h
    ·rw[Xk h] at s;cases s
   exact⟨f.known j o t s y (M j F),by simpa using Xe.1 ad t r⟩
  have H:a=QT a0 (fun t=>a.tmps.getD t undef) (Ql l):=by
   have e1:a.tmps=(QT a0 (fun t=>a.tmps.getD t undef) (Ql l)).tmps:=by
    refine Array.ext (by rw[Qaa,f.size]) fun t h1 X=>?_;have h3:t<a0.tmps.size:=by rw[<-f.size];exact h1
    have:=Qbf (fun t=>a.tmps.getD t undef) (Ql l) a0 t h3
    rw[Xj X] at this
    by_cases hm:t∈Ql l
    ·rw[Xs hm] at this
     simp only[Option.some.injEq] at this
     rw[this];simp[Array.getD,h1]
    ·rw[Xr hm,<-f.outer t hm,Xj h1] at this
     exact(Xn this).symm
   have e2:a.defers=(QT a0 (fun t=>a.tmps.getD t undef) (Ql l)).defers:=by rw[ZN,f.defers]
   cases a with
   | mk t d =>
     simp only at e1 e2
     generalize hp:QT a0 (fun x=>t.getD x undef) (Ql l)=p at e1 e2 |-
     cases p;simp only at e1 e2;rw[e1,e2]
  rw[H]
  exact ai _ _ _ M f.world fun t r=>(ah t (by simpa using r)).1
 intro fuel
 induction fuel with
 | zero =>
   intro listed a w hs hf f
   have U:Region.ready .any l.toArray listed=[]:=by
    rw[List.eq_nil_iff_forall_not_mem]
    intro i hi;obtain⟨h1,X⟩:=List.mem_filter.1 hi
    have F:i<l.length:=by simpa using h1
    simp only[Bool.and_eq_true,Bool.not_eq_true'] at X
    have:listed[i]'(by omega)=false:=by
     have:=X.1;simp[Array.getD,show i<listed.size by omega] at this;exact this
    have hm:false∈listed.toList.filter (·==false):=List.mem_filter.2 ⟨by rw[<-this];simp,by simp⟩
    have:=List.length_pos_of_mem hm
    omega
   exact⟨U,aj listed a w hs U f⟩
 | succ fuel ih =>
   intro listed a w hs hf f;refine⟨fun U=>aj listed a w hs U f,fun i hi=>?_⟩
   obtain⟨h1,X⟩:=List.mem_filter.1 hi
   have F:i<l.length:=by simpa using h1
   simp only[Bool.and_eq_true,Bool.not_eq_true'] at X
   obtain⟨af,m⟩:=X
   have J:i<listed.size:=by omega
   have R:listed[i]=false:=by simp[Array.getD,J] at af;exact af
   have ho:l.toArray[i]?=some l[i]:=by simp[F]
   have n:l[i]?=some l[i]:=by simp[F]
   generalize a2:l[i]=o at ho n;rw[ho] at m
   simp only[Option.map_some,Option.getD_some] at m
   rw[Array.all_eq_true_iff_forall_mem] at m
   have A:∀ t∈o.looksAt l.toArray,E t (a.tmps.getD t undef) w:=by
    intro t r
    have:=Xe.1 (Xe.1 am o (Zm n)) t r
    rw[Bool.or_eq_true] at this
    rcases this with h | h
    ·simp only[Bool.and_eq_true,Bool.not_eq_true'] at h
     exact f.outs t (by simpa using h.1) (by simpa using h.2)
    ·obtain⟨k,hk,h⟩:=Array.any_eq_true.1 h
     simp only[Bool.and_eq_true,beq_iff_eq] at h
     obtain⟨q,y⟩:=h
     have T:=m _ (Array.getElem_mem hk);rw[q] at T
     simp only[Bool.not_true,Bool.false_or] at T
     generalize o.after[k]=e at *;obtain⟨oj,au,az⟩:=Option.bind_eq_some_iff.1 y
     exact f.known e.on oj t (by simpa using au) az T
   have ar:QdP E a w (Qbu o):=Qcd _ fun t r=>A t (by
    unfold Oper.looksAt;exact List.mem_append_left _ r)
   have hw:∀ b,onB gs o b=true->Region.wanted o (yielded l.toArray a.tmps)=b:=by
    intro b q;unfold onB at q;unfold Region.wanted
    cases hg:o.guard with
    | none=>rw[hg] at q;simp only at q |-;exact q.symm
    | some gw =>
      obtain⟨g,a1⟩:=gw
      rw[hg] at q
      simp only at q |-
      cases T:gs.lookup g with
      | none=>rw[T] at q;cases q
      | some c =>
        rw[T] at q
        simp only[beq_iff_eq] at q
        have hy:yielded l.toArray a.tmps g=c:=by
         unfold yielded;have ao:(g,c)∈gs:=mem_of_lookup gs g c T;have G:=Xe.1 av _ ao
         cases y:(l.toArray[g]?).bind (·.dst) with
         | none=>rw[y] at G;cases G
         | some t =>
           have hE:=A t (by unfold Oper.looksAt;rw[hg];simp only[y];simp);have I:=QbY gs hG g c T t y _ _ hE;obtain⟨og,ay,an⟩:=Option.bind_eq_some_iff.1 y
           have ab:t<a.tmps.size:=by
            rw[f.size]
            have:=Xe.1 ad t (List.mem_filterMap.2 ⟨og,Zm (by simpa using ay),an⟩)
            simpa using this
           have r:a.tmps[t]?=some (a.tmps.getD t undef):=by simp[Array.getD,ab]
           simp only[Option.bind_some,r]
           cases c with
           | none=>simp only at I;rw[I];rfl
           | some b=>simp only at I;rw[I]
        rw[hy,q]
   have N:((listed.setIfInBounds i true).toList.filter (·==false)).length<=fuel:=by
    have h3:=filter_set listed.toList i (by simpa using J) (by simpa using R);rw[Array.toList_setIfInBounds]
    omega
   have O:(fun j=>(listed.setIfInBounds i true).getD j false)=Zp i (fun j=>listed.getD j false):=by
    funext j
    unfold Zp;by_cases e:j=i
    ·subst e;simp[Array.getD,J]
    ·have ae:i≠j:=fun x=>e x.symm;rw[Za,Array.getElem?_setIfInBounds_ne ae,<-Za]
     simp[e]
   have B:Qgw o (fun j=>listed.getD j false):=fun e H q=>by
    have:=m e H
    rw[q] at this
    simpa using this
   have ac:(fun j=>listed.getD j false) i=false:=by simp[Array.getD,J,R]
   have L:∀ v w',W (Zp i (fun j=>listed.getD j false)) w'->(∀ t u,Qk9 l (fun j=>listed.getD j false) t->E t u w->E t u w')->EO E o.dst v w'->QjJ E W l outs a0 (listed.setIfInBounds i true) (a.put o.dst v) w':=by
    intro v w' aa z I
    have C:∀ t,o.dst≠some t->(a.put o.dst v).tmps[t]?=a.tmps[t]?:=by
     intro t r
     cases y:o.dst with
     | none=>rfl
     | some d =>
       have:d≠t:=fun e=>r (by rw[y,e])
       simp[Act.put,this]
    have D:∀ (b c:Array Value) (t:Nat),b[t]?=c[t]?->b.getD t undef=c.getD t undef:=by
     intro b c t h;rw[Za,Za,h]
    refine⟨by rw[O];exact aa,?_,?_,?_,?_,?_,?_⟩
    ·rw[O]
     intro j oj s hS e H K;unfold Zp at hS |-;by_cases e':j=i
     ·subst e';rw[n] at s
      obtain rfl:=Xn s
      have:=B e H K
      simp only at this
      simp[this]
     ·have:(j==i)=false:=by simpa using e'
      rw[this,Bool.false_or] at hS
      have:=f.closed j oj s hS e H K
      simp only at this
      simp[this]
    ·rw[<-f.defers];cases o.dst<;>rfl
    ·rw[<-f.size];cases o.dst<;>simp[Act.put]
    ·intro t r;rw[C t (fun e=>r (List.mem_filterMap.2 ⟨o,Zm n,e⟩)),f.outer t r]
    ·intro t r hn;rw[D _ _ t (C t (fun e=>hn (List.mem_filterMap.2 ⟨o,Zm n,e⟩)))]
     exact z _ _ (fun h=>absurd h hn) (f.outs t r hn)
    ·intro j oj t s y al;by_cases V:j=i
     ·subst V;rw[n] at s
      obtain rfl:=Xn s
      have ab:t<a.tmps.size:=by
       rw[f.size]
       have:=Xe.1 ad t (List.mem_filterMap.2 ⟨o,Zm n,y⟩)
       simpa using this
      rw[y] at I |-
      have:(a.put (some t) v).tmps.getD t undef=v:=by simp[Act.put,Array.getD,ab]
      rw[this];exact I
     ·have ae:o.dst≠some t:=fun e=>V (nodup_apart l j i oj o t aw s n y e);rw[D _ _ t (C t ae)]
      have ak:i≠j:=fun e=>V e.symm
      have ag:listed.getD j false=true:=by
       rw[Za,Array.getElem?_setIfInBounds_ne ak] at al
       rw[Za];exact al
      exact z _ _ (fun _=>⟨j,oj,s,y,ag⟩) (f.known j oj t s y ag)
   unfold wpOp;rw[ho]
   simp only
   rcases Qe6 gs l 0 bs ax hA i o n with ⟨h,z⟩|⟨h,z⟩
   ·rw[hw true h,Xs Z]
    refine .inl (QlZ (fun a' w' hh=>hh) (fun e w' H=>by obtain⟨ch,rfl,hp⟩:=H;exact hX ch _ _ f.defers hp) ((XK i ▸ z) (fun j=>listed.getD j false) a w ac B f.closed f.world ar _ fun v w' U aa I=>?_));exact ih _ _ _ (by simpa using hs) N (L v w' aa U I)
   ·rw[hw false h]
    simp only[Bool.false_eq_true,if_false]
    exact ih _ _ _ (by simpa using hs) N (L undef w ((XK i ▸ z) (fun j=>listed.getD j false) w ac B f.closed f.world).1 (fun _ _ _ h=>h) ((XK i ▸ z) (fun j=>listed.getD j false) w ac B f.closed f.world).2)
theorem Qcz {l:List Oper}{outs:List Tmp}{gs:List (Nat × Option Bool)}{a:Act}
 (E:Tmp->Value->World->Prop) (W:(Nat->Bool)->World->Prop) (PX:List PanicEntry->World->Prop) (p:∀ ch a' w,a'.defers=a.defers->PX ch w->Q (.panic ch) a' w)
 (k:P.follows .mixedOrders=true)  (hn:a.tmps.size=m) (c:n<=m) (s:Qab l n outs gs bs=true)
 (f:Z2 E l.toArray gs) (g:W (fun _=>false) w.drew) (e:QaR E a w.drew outs)
 (q:AllOkX E W PX P l 0 l bs)
 (b:∀ (vs:Tmp->Value) (S:Nat->Bool) w',(∀ j,j<l.length->S j=true)->W S w'->(∀ t,(Ql l).contains t=true->E t (vs t) w')->Q .normal (QT a vs (Ql l)) w') :
 (Code.region id l.toArray true).wp P Q a w:=by
 refine wp_region_any k ?_
 have d:(fun j=>(Array.replicate l.length false).getD j false)=fun _=>false:=by
  funext j
  rw[Za,Array.getElem?_replicate]
  split<;>rfl
 have u:l.toArray.size=l.length:=by simp
 rw[u]
 refine Qcv p (Z7 (hn ▸ c) s) f q b _ _ _ _ (by simp) ?_ ⟨by rw[d];exact g,(by rw[d];intro j o _ h;cases h),Z,Z,fun _ _=>rfl,fun t i _=>QaI outs e t i,?_⟩
 ·simp only[Array.toList_replicate]
  exact Zt (List.length_filter_le _ _) (by simp)
 ·intro j o t x v r;simp[Array.getD] at r
end
section
variable (E:Tmp->Value->World->Prop) (W:World->Prop) (R:World->World->Prop) (PX:List PanicEntry->World->Prop) (P:Program)
def Qkm (o:Oper):Prop :=
 ∀ a w,W w->QdP E a w (Qbu o)->∀ K:Act->World->Prop,(∀ v w',R w w'->W w'->EO E o.dst v w'->K (a.put o.dst v) w')->o.wp P a w K (PEx PX)
def AllOkC:List Oper->List Bool->Prop
 | o::r,true::bs=>Qkm E W R PX P o/\AllOkC r bs
 | o::r,false::bs=>(∀ w,W w->EO E o.dst undef w)/\AllOkC r bs
 | _,_=>True
end
section
variable {P:Program}{E:Tmp->Value->World->Prop}{W:World->Prop}{R:World->World->Prop}{PX:List PanicEntry->World->Prop}
theorem QfB {m:List Oper}(c:∀ t v w w',R w w'->E t v w->E t v w'):∀ (l:List Oper) (bs:List Bool) (k:Nat),AllOkC E W R PX P l bs->AllOkX E (fun _=>W) PX P m k l bs
 | [],bs,k,h=>by cases bs<;>trivial
 | o::r,[],k,h=>trivial
 | o::r,true::bs,k,h=>⟨fun S a w _ _ _ b j K d=>h.1 a w b j K (fun v w' f g i=>d v w' (fun t u _ e=>c t u w w' f e) g i),QfB c r bs (k+1) h.2⟩
 | o::r,false::bs,k,h=>⟨fun S w _ _ _ b=>⟨b,h.1 w b⟩,QfB c r bs (k+1) h.2⟩
theorem ZH {l:List Oper}{outs:List Tmp}{gs:List (Nat × Option Bool)}{a:Act}
 (E:Tmp->Value->World->Prop) (W:World->Prop) (R:World->World->Prop) (PX:List PanicEntry->World->Prop) (j:∀ ch a' w,a'.defers=a.defers->PX ch w->Q (.panic ch) a' w)
 (i:P.follows .mixedOrders=true)  (hn:a.tmps.size=m) (d:n<=m) (o:Qab l n outs gs bs=true)
 (f:∀ t v w w',R w w'->E t v w->E t v w') (g:Z2 E l.toArray gs) (c:W w.drew) (e:QaR E a w.drew outs)
 (k:AllOkC E W R PX P l bs)
 (b:∀ (vs:Tmp->Value) w',W w'->(∀ t,(Ql l).contains t=true->E t (vs t) w')->Q .normal (QT a vs (Ql l)) w') :
 (Code.region id l.toArray true).wp P Q a w :=
 Qcz E (fun _=>W) PX j i hn d o g c e (QfB f l bs 0 k) (fun vs _ w' _ c h=>b vs w' c h)
end
theorem QcA {r:List Int}:∀ {l:List Int},(∀ k∈l,0<=k/\k<(r.length:Int))->∃ rs,Zb r l=some rs/\rs.length=l.length
 | [],_=>⟨[],Z,Z⟩
 | k::l,h=>by
   obtain⟨rs,e,b⟩:=QcA (l:=l) (fun x c=>h x (by simp[c]))
   have d:=h k (by simp);have a:k.toNat<r.length:=by omega
   refine⟨r[k.toNat]::rs,?_,by simp[b]⟩
   unfold Zb QhJ;rw[Xr (by omega),Zg a,e]
theorem Qcp {r:List Int}:∀ {l:List Int}{k:Int},k∈l->¬ (0<=k/\k<(r.length:Int))->Zb r l=none
 | [],k,h,_=>by simp at h
 | x::l,k,h,hk=>by
   unfold Zb
   cases hx:QhJ r x with
   | none=>rfl
   | some y =>
     simp only
     rcases List.mem_cons.1 h with rfl | h
     ·exfalso
      unfold QhJ at hx;split at hx
      ·cases hx
      ·have:=(Zi hx).1
       omega
     ·rw[Qcp h hk]
def begunO (fr:IFr) (f:Nat) (t:MTo) (bl:Qk 6):Option IFr :=
 if (t.regs.length:Int)=bl.regs/\t.args.length=bl.params.length then (match Zb fr.r t.regs with
  | none=>none
  | some rs=>match Qp fr.v t.args with
    | none=>none
    | some xs=>some ⟨f,t.block.toNat,0,xs,rs⟩) else none
def Qbb (w:World) (o:Option IFr) (e:Ending) (w':World):Prop:=Below w.heap.size w w'/\match o with
 | none=>e=.panicked stuckP
 | some fr=>∃ c gx n,e=.returned (.pointer (some ⟨c,0,none⟩))/\w.heap.size<=c/\w.heap.size<=gx/\QcQ w' c fr (.slice (some ⟨gx,0,none⟩) n n)
def Ql3 (w6:World) (X1 X2 g1 o1 nm cm fi g2 o2 nb cb bi:Nat) (bl:Qk 6) (p:BP) (t:Tmp) (v:Value) (w:World):Prop :=
 match ([(9,fun v w=>∃ Z,v=.pointer (some ⟨Z,0,none⟩)/\w6.heap.size<=Z/\Blk w Z zeroB 73)]:List (Tmp × (Value->World->Prop))).lookup t with
 | some p=>p v w
 | none=>v=(([(2,.int .i64 (fi:Int)),(5,.pointer (some ⟨X1,0,none⟩)),(7,.pointer (some ⟨X2,0,none⟩)),(12,.pointer (some ⟨X1,0,none⟩)),(13,.slice (some ⟨g1,o1,none⟩) nm cm),(14,.int .i64 (fi:Int)),(15,.pointer (some ⟨g1,o1+fi*4,none⟩)),(16,.pointer (some ⟨g1,o1+fi*4+3,none⟩)),(17,.slice (some ⟨g2,o2,none⟩) nb cb),(18,.pointer (some ⟨X2,0,none⟩)),(19,.int .i64 (bi:Int)),(20,.pointer (some ⟨g2,o2+bi*12,none⟩)),(21,.agg (Qbo bl p))]:List (Tmp × Value)).lookup t).getD undef
theorem ig1 {o q g l u i k s z:Nat}{bl:Qk 6}{p:BP}(G:w6.cell? ⟨o,0,none⟩=some (.slice (some ⟨g,l,none⟩) u cm)) (D:w6.cell? ⟨q,0,none⟩=some (.int .i64 (bi:Int))) (H:w6.cell? ⟨g,l+fi*4+3,none⟩=some (.slice (some ⟨i,k,none⟩) s z)) (J:Hid (w6.rangeAt i (k+bi*12) (Qbo bl p).toList)) (F:(fi:Int)<u) (E:(bi:Int)<s)
 (a:Act) (m:Nat) (hn:a.tmps.size=m) (A:68<=m) (x:a.tmps.getD 2 undef=.int .i64 (fi:Int)) (M:a.tmps.getD 5 undef=.pointer (some ⟨o,0,none⟩)) (O:a.tmps.getD 7 undef=.pointer (some ⟨q,0,none⟩))
 (hend:∀ ops vs w',vs 21=.agg (Qbo bl p)->(fun v w=>∃ Z,v=.pointer (some ⟨Z,0,none⟩)/\w6.heap.size<=Z/\Blk w Z zeroB 73) (vs 9) w'->Below w6.heap.size w6 w'->wpList prog ops Q (Qb8 11 ((Tryz.f149.body.bind (Qn 1)).getD .skip)) (QT a vs [12,13,14,15,16,17,18,19,20,21,9]) w') :
 Code.wp prog ((Tryz.f149.body.bind (Qn 1)).getD .skip) Q a w6:=by
 conv=>arg 2;whnf
 refine Qu 11 (Ql3 w6 o q g l u cm fi i k s z bi bl p) (fun w=>Below w6.heap.size w6 w) (fun w w'=>Below w.heap.size w w') (outs:=[2,5,7]) (gs:=[]) (bs:=[true,true,true,true,true,true,true,true,true,true,true]) (by kernel_rfl) (n:=68) hn A (by kernel_rfl) (by kernel_rfl) ?hR ?hG (QH Zr 1) ⟨x,M,O,Y⟩ ?hA ?hend
 case hR =>
  intro t v w w' I h;unfold Ql3 at h |-;split at h
  ·rename_i p y
   simp only[List.lookup_cons,List.lookup_nil] at y
   split at y
   ·cases y;exact(by obtain⟨B,e,N,x⟩:=h;exact⟨B,e,N,(I.block B (XC x)).trans x⟩)
   ·cases y
  ·exact h
 case hG=>exact Y
 case hend=>exact fun ops vs w' c d=>hend ops vs w' (d 21 (by kernel_rfl)) (d 9 (by kernel_rfl)) c
 case hA =>
  refine⟨fun a w c d K f=>?_,?_⟩
  ·obtain⟨b,-⟩:=d
   have b:a.tmps.getD 5 undef=.pointer (some ⟨o,0,none⟩):=b;go_simp;exact f _ _ Zr c Yz
  refine⟨fun a w c d K f=>?_,?_⟩
  ·obtain⟨b,-⟩:=d
   have b:a.tmps.getD 12 undef=.pointer (some ⟨o,0,none⟩):=b;have C:=QI G c;go_simp;exact f _ _ Zr c Yz
  refine⟨fun a w c d K f=>?_,?_⟩
  ·obtain⟨b,-⟩:=d
   have b:a.tmps.getD 2 undef=.int .i64 (fi:Int):=b;go_simp;exact f _ _ Zr c Yz
  refine⟨fun a w c d K f=>?_,?_⟩
  ·obtain⟨b,r,-⟩:=d
   have b:a.tmps.getD 13 undef=.slice (some ⟨g,l,none⟩) u cm:=b;have r:a.tmps.getD 14 undef=.int .i64 (fi:Int):=r;go_simp;exact f _ _ Zr c Yz
  refine⟨fun a w c d K f=>?_,?_⟩
  ·obtain⟨b,-⟩:=d
   have b:a.tmps.getD 15 undef=.pointer (some ⟨g,l+fi*4,none⟩):=b;go_simp;exact f _ _ Zr c Yz
  refine⟨fun a w c d K f=>?_,?_⟩
  ·obtain⟨b,-⟩:=d
   have b:a.tmps.getD 16 undef=.pointer (some ⟨g,l+fi*4+3,none⟩):=b;have C:=QI H c;go_simp;exact f _ _ Zr c Yz
  refine⟨fun a w c d K f=>?_,?_⟩
  ·obtain⟨b,-⟩:=d
   have b:a.tmps.getD 7 undef=.pointer (some ⟨q,0,none⟩):=b;go_simp;exact f _ _ Zr c Yz
  refine⟨fun a w c d K f=>?_,?_⟩
  ·obtain⟨b,-⟩:=d
   have b:a.tmps.getD 18 undef=.pointer (some ⟨q,0,none⟩):=b;have C:=QI D c;go_simp;exact f _ _ Zr c Yz
  refine⟨fun a w c d K f=>?_,?_⟩
  ·obtain⟨b,r,-⟩:=d
   have b:a.tmps.getD 17 undef=.slice (some ⟨i,k,none⟩) s z:=b;have r:a.tmps.getD 19 undef=.int .i64 (bi:Int):=r;go_simp;exact f _ _ Zr c Yz
  refine⟨fun a w c d K f=>?_,?_⟩
  ·obtain⟨b,-⟩:=d
   have b:a.tmps.getD 20 undef=.pointer (some ⟨i,k+bi*12,none⟩):=b;refine wp_load_mid 73 (.tmp 20) Yz i (k+bi*12) b (Qbo bl p).toList _ (fun j v L=>QI (J.out j v L) c) underlying73 Yz pSizeB ?_;exact f _ _ Zr c Yz
  refine⟨fun a w c d K f=>?_,?_⟩
  ·clear d;go_simp;exact f _ _ (QbH _ _) (c.alloc c.size _) ⟨_,Yz,c.size,Qh _ _ _⟩
  trivial
def QjD (w6:World) (o:Option (List Qj)) (na:Nat) (v:Value) (w:World):Prop:=∃ g xs,v=.slice (some ⟨g,0,none⟩) na na/\w6.heap.size<=g/\o=some xs/\w.rowIs g 183 (na*4) (Q7 xs)
def QkF (w6:World) (o:Option (List Qj)) (na fi bi:Nat) (br:Int) (v:Value) (w:World):Prop:=∃ g xs,v=.agg #[.int .i64 (fi:Int),.int .i64 (bi:Int),.int .i64 0,.int .i64 br,.slice (some ⟨g,0,none⟩) na na]/\w6.heap.size<=g/\o=some xs/\w.rowIs g 183 (na*4) (Q7 xs)
def QjH (w6:World) (o:Option (List Qj)) (na fi bi:Nat) (br:Int) (v:Value) (w:World):Prop:=∃ B g xs,v=.pointer (some ⟨B,0,none⟩)/\w6.heap.size<=B/\Blk w B #[.int .i64 (fi:Int),.int .i64 (bi:Int),.int .i64 0,.int .i64 br,.slice (some ⟨g,0,none⟩) na na] 87/\w6.heap.size<=g/\o=some xs/\w.rowIs g 183 (na*4) (Q7 xs)
theorem QjD.below {w:World}{o:Option (List Qj)}{v:Value}(h:QjD w6 o na v w) (b:Below w.heap.size w w'):QjD w6 o na v w':=by
 obtain⟨g,c,f,d,e,a⟩:=h
 exact⟨g,c,f,d,e,a.of_block (b.block g a.lt)⟩
theorem QkF.below {w:World}{o:Option (List Qj)}{a:Int}{v:Value}(h:QkF w6 o na fi bi a v w) (b:Below w.heap.size w w'):QkF w6 o na fi bi a v w':=by
 obtain⟨g,d,i,e,f,c⟩:=h
 exact⟨g,d,i,e,f,c.of_block (b.block g c.lt)⟩
theorem QjH.below {w:World}{o:Option (List Qj)}{a:Int}{v:Value}(h:QjH w6 o na fi bi a v w) (b:Below w.heap.size w w'):QjH w6 o na fi bi a v w':=by
 obtain⟨B,g,d,k,f,i,e,j,c⟩:=h
 exact⟨B,g,d,k,f,i.below b,e,j,c.of_block (b.block g c.lt)⟩
def Ql1 (w6:World) (o:Option (List Qj)) (c X2 Z fi bi na ca:Nat) (br:Int) (pa:Option Addr) (t:Tmp) (v:Value) (w:World):Prop :=
 match ([(65,QjD w6 o na),(66,QkF w6 o na fi bi br),(67,QjH w6 o na fi bi br),(8,QjH w6 o na fi bi br)]:List (Tmp × (Value->World->Prop))).lookup t with
 | some p=>p v w
 | none=>v=(([(0,.pointer (some ⟨c,0,none⟩)),(2,.int .i64 (fi:Int)),(7,.pointer (some ⟨X2,0,none⟩)),(9,.pointer (some ⟨Z,0,none⟩)),(57,.int .i64 (fi:Int)),(58,.pointer (some ⟨X2,0,none⟩)),(59,.int .i64 (bi:Int)),(60,.pointer (some ⟨Z,0,none⟩)),(61,.int .i64 br),(62,.pointer (some ⟨c,0,none⟩)),(63,.pointer (some ⟨X2,2,none⟩)),(64,.slice pa na ca)]:List (Tmp × Value)).lookup t).getD undef
theorem ig8 {o:Option (List Qj)}{c k Z:Nat}{l:Int}(M:w6.cell? ⟨k,0,none⟩=some (.int .i64 (bi:Int))) (U:w6.cell? ⟨Z,0,none⟩=some (.int .i64 l)) (N:w6.cell? ⟨k,2,none⟩=some (.slice pa na ca)) (S:Hid (∀ wx,Below w6.heap.size w6 wx->Calls prog 117 #[.pointer (some ⟨c,0,none⟩),.slice pa na ca] wx fun e w'=>Qb1 wx o na e w'))
 (a:Act) (m:Nat) (hn:a.tmps.size=m) (F:68<=m) (T:a.tmps.getD 0 undef=.pointer (some ⟨c,0,none⟩)) (u:a.tmps.getD 2 undef=.int .i64 (fi:Int)) (y:a.tmps.getD 7 undef=.pointer (some ⟨k,0,none⟩)) (P:a.tmps.getD 9 undef=.pointer (some ⟨Z,0,none⟩))
 (O:∀ ch a' w',a'.defers=a.defers->(fun ch w=>ch=stuckP/\o=none/\Below w6.heap.size w6 w) ch w'->Q (.panic ch) a' w')
 (hend:∀ vs w',(QjH w6 o na fi bi l) (vs 8) w'->Below w6.heap.size w6 w'->Q .normal (QT a vs [57,58,59,60,61,62,63,64,65,66,67,8]) w') :
 Code.wp prog ((Tryz.f149.body.bind (Qn 8)).getD .skip) Q a w6:=by
 conv=>arg 2;whnf
 refine ZH (Ql1 w6 o c k Z fi bi na ca l pa) (fun w=>Below w6.heap.size w6 w) (fun w w'=>Below w.heap.size w w') (fun ch w=>ch=stuckP/\o=none/\Below w6.heap.size w6 w) O (outs:=[0,2,7,9]) (gs:=[]) (bs:=[true,true,true,true,true,true,true,true,true,true,true,true]) (by kernel_rfl) (n:=68) hn F (by kernel_rfl) ?hR ?hG (QH Zr 1) ⟨T,u,y,P,Y⟩ ?hA ?hend
 case hR =>
  intro t v w w' B h;unfold Ql1 at h |-;split at h
  ·rename_i p j
   simp only[List.lookup_cons,List.lookup_nil] at j
   split at j
   ·cases j;exact h.below B
   ·split at j
    ·cases j;exact h.below B
    ·split at j
     ·cases j;exact h.below B
     ·split at j
      ·cases j;exact h.below B
      ·cases j
  ·exact h
 case hG=>exact Y
 case hend=>exact fun vs w' d f=>hend vs w' (f 8 (by kernel_rfl)) d
 case hA =>
  refine⟨fun a w d f K i=>?_,?_⟩
  ·obtain⟨b,-⟩:=f
   have b:a.tmps.getD 2 undef=.int .i64 (fi:Int):=b;go_simp;exact i _ _ Zr d Yz
  refine⟨fun a w d f K i=>?_,?_⟩
  ·obtain⟨b,-⟩:=f
   have b:a.tmps.getD 7 undef=.pointer (some ⟨k,0,none⟩):=b;go_simp;exact i _ _ Zr d Yz
  refine⟨fun a w d f K i=>?_,?_⟩
  ·obtain⟨b,-⟩:=f
   have b:a.tmps.getD 58 undef=.pointer (some ⟨k,0,none⟩):=b;have L:=QI M d;go_simp;exact i _ _ Zr d Yz
  refine⟨fun a w d f K i=>?_,?_⟩
  ·obtain⟨b,-⟩:=f
   have b:a.tmps.getD 9 undef=.pointer (some ⟨Z,0,none⟩):=b;go_simp;exact i _ _ Zr d Yz
  refine⟨fun a w d f K i=>?_,?_⟩
  ·obtain⟨b,-⟩:=f
   have b:a.tmps.getD 60 undef=.pointer (some ⟨Z,0,none⟩):=b;have L:=QI U d;go_simp;exact i _ _ Zr d Yz
  refine⟨fun a w d f K i=>?_,?_⟩
  ·obtain⟨b,-⟩:=f
   have b:a.tmps.getD 0 undef=.pointer (some ⟨c,0,none⟩):=b;go_simp;exact i _ _ Zr d Yz
  refine⟨fun a w d f K i=>?_,?_⟩
  ·obtain⟨b,-⟩:=f
   have b:a.tmps.getD 7 undef=.pointer (some ⟨k,0,none⟩):=b;go_simp;exact i _ _ Zr d Yz
  refine⟨fun a w d f K i=>?_,?_⟩
  ·obtain⟨b,-⟩:=f
   have b:a.tmps.getD 63 undef=.pointer (some ⟨k,2,none⟩):=b;have L:=QI N d;go_simp;exact i _ _ Zr d Yz
  refine⟨fun a w d f K i=>?_,?_⟩
  ·obtain⟨b,q,-⟩:=f
   have b:a.tmps.getD 62 undef=.pointer (some ⟨c,0,none⟩):=b;have q:a.tmps.getD 64 undef=.slice pa na ca:=q;go_simp;refine Xm (S.out w d) ?_;rintro X W y;obtain⟨E,y⟩:=y.split
   rcases y with ⟨s,R,C,rfl,G,x⟩|⟨C,rfl⟩
   rotate_left
   ·exact⟨_,Yz,Yz,C,d.trans (E.mono d.size)⟩
   go_simp;exact i _ _ E (d.trans (E.mono d.size)) ⟨R,s,Yz,Zt d.size G,C,x⟩
  refine⟨fun a w d f K i=>?_,?_⟩
  ·obtain⟨b,q,H,z,-⟩:=f
   have b:a.tmps.getD 57 undef=.int .i64 (fi:Int):=b;rw[Za] at b
   have q:a.tmps.getD 59 undef=.int .i64 (bi:Int):=q;rw[Za] at q
   have H:a.tmps.getD 61 undef=.int .i64 l:=H;rw[Za] at H
   have z:(QjD w6 o na) (a.tmps.getD 65 undef) w:=z;generalize J:a.tmps.getD 65 undef=V at z;rw[Za] at J
   obtain⟨g,s,rfl,u,I,A⟩:=z
   go_simp;exact i _ _ Zr d ⟨g,s,Yz,u,I,A⟩
  refine⟨fun a w d f K i=>?_,?_⟩
  ·obtain⟨b,-⟩:=f
   have b:(QkF w6 o na fi bi l) (a.tmps.getD 66 undef) w:=b;generalize r:a.tmps.getD 66 undef=D at b;obtain⟨g,s,rfl,u,I,A⟩:=b
   go_simp;exact i _ _ (QY _ _) (d.alloc d.size _) ⟨_,g,s,Yz,d.size,Qh _ _ _,u,I,A.of_block ((QY _ _).block g A.lt)⟩
  refine⟨fun a w d f K i=>?_,?_⟩
  ·obtain⟨b,-⟩:=f
   have b:(QjH w6 o na fi bi l) (a.tmps.getD 67 undef) w:=b;generalize r:a.tmps.getD 67 undef=D at b;subst r;rw[Za] at b
   go_simp;exact i _ _ Zr d b
  trivial
section
variable {w:World}{c:Nat}{fr:IFr}{v:Value}
theorem Qc5 (FR:QcQ w c fr v) (hl:fr.v.length<=1000000) (av:fr.r.length<=1000000){Q:Nat->Prop}{m:List (Qe 6)}(hm:(Qam 6).In w Q m [.slice pm m.length cm]){fn:Qe 6}{bl:Qk 6}(hf:m[fi]?=some fn) (hb:fn.blocks[bi]?=some bl) (hs:m.length<=1000/\fn.blocks.length<=1000/\bl.params.length<=1000)
 {t:MTo} (N:t.block=(bi:Int)) {H:Option Addr} {I:Nat} (hR:intsL.In w Q2 t.regs [.slice H t.regs.length I]) (hA:intsL.In w Q2 t.args [.slice pa t.args.length ca]) (hn:t.regs.length<=1000/\t.args.length<=1000) :
 Calls prog 149 #[.pointer (some ⟨c,0,none⟩),.agg #[.slice pm m.length cm],.int .i64 (fi:Int),.agg #[.int .i64 (bi:Int),.slice H t.regs.length I,.slice pa t.args.length ca]] w fun e w'=>Qbb w (begunO fr fi t bl) e w':=by
 have G:=Qb (Qai w (.cells #[.slice pm m.length cm] 24) (.cells #[.int .i64 (bi:Int),.slice H t.regs.length I,.slice pa t.args.length ca] 69));have BX:=Qb (Qf3 w #[.slice pm m.length cm] 24 (.cells #[.int .i64 (bi:Int),.slice H t.regs.length I,.slice pa t.args.length ca] 69));have X:=Qb (QbI w (.cells #[.slice pm m.length cm] 24) #[.int .i64 (bi:Int),.slice H t.regs.length I,.slice pa t.args.length ca] 69);have ap:=(Zi hf).1;have ak:=(Zi hb).1;obtain⟨g1,o1,f,e1,o,L⟩:=QbK hm hf
 obtain⟨g2,o2,p,e2,d,aa⟩:=Qby L.blocks hb
 have r3:w.cell? ⟨g1,o1+fi*4+3,none⟩=some (.slice f.pB fn.blocks.length f.cB):=o 3 _ Yz;rw[e2] at r3
 have W:=Qb d;have aw:=Qb aa;have V:=Qb r3;have F:Hid (begunO fr fi t bl=if (t.regs.length:Int)=bl.regs/\t.args.length=bl.params.length then (match Zb fr.r t.regs with | none=>none | some rs=>match Qp fr.v t.args with | none=>none | some J=>some ⟨fi,bi,0,J,rs⟩) else none):=by show _=_;unfold begunO;rw[N];rfl
 have HF:=Qb FR;have P:=Qb hR;have an:=Qb hA;subst e1;have am:(fi:Int)<m.length:=by omega
 have ad:(bi:Int)<fn.blocks.length:=by omega
 generalize begunO fr fi t bl=oo at F |-;clear hm hf hb o d L aa r3 e2 FR hR hA N ap ak;go_enter func149,ntmps149
 go_upto_region 1 with fail
 generalize (w.alloc (.cells #[.slice (some ⟨g1,o1,none⟩) m.length cm] 24)).alloc (.cells #[.int .i64 (bi:Int),.slice H t.regs.length I,.slice pa t.args.length ca] 69)=w1 at G BX X |-;generalize w.heap.size+1=X2 at X |-;generalize R:w.heap.size=X1 at BX |-;have au:=Qb R;clear R;refine ig1 (Qa BX.out 0 _ Yz) (Qa X.out 0 _ Yz) (QI V.out G.out) (fun j v K=>QI (W.out j v K) G.out) am ad _ _ Yz (Xg (by kernel_rfl)) Yz Yz Yz ?_;rintro ao vs w5 u ⟨Z,ab,hZ,x⟩ b5;show wpList _ ao _ [_] (QT _ vs [12,13,14,15,16,17,18,19,20,21,9]) w5;simp only[QT,Act.put,List.setIfInBounds_toArray,List.set_cons_zero,List.set_cons_succ,u,ab]
 have BZ:=Qb (QgU x bl p);have B6:=Qb (QbB hZ (Qbo bl p).toList 0 b5);have TH:=Qb (QdM x Yz bl p);have SZ:=Qb (show (prog.info? 73).map (·.size)=some (Qbo bl p).size from pSizeB);have ON:=Qb (QhV bl p);obtain⟨cs,z⟩:∃ cs,Qbo bl p=cs:=⟨_,Yz⟩
 rw[z] at BZ B6 TH SZ ON |-
 have EC:=Qb z;clear z u ab hZ x b5 V W;go_upto_region 2 with (refine wpList_store_mid Yz 73 (.tmp 9) (.tmp 21) Yz Z 0 cs Yz Yz TH.out SZ.out ON.out ?_)
 generalize w5.setCells Z 0 cs.toList=w6 at BZ B6 |-;obtain rfl:=EC.out;clear TH SZ ON EC;have E:=Qb (Blk.below X.out B6.out);have a:=Qb (G.out.trans (B6.out.mono G.out.size));clear BX X B6 G;have t0:=Qa E.out 0 _ Yz;have t1:=Qa E.out 1 _ Yz;have t2:=Qa E.out 2 _ Yz;have z0:=Qa BZ.out 0 _ Yz;have z1:=Qa BZ.out 1 _ Yz;by_cases n:(t.regs.length:Int)=bl.regs/\t.args.length=bl.params.length
 rotate_left
 ·have d:Hid (oo=none):=by show _=_;rw[F.out,Xr n]
  by_cases h1:(t.regs.length:Int)=bl.regs
  ·have D:((t.regs.length:Int)==bl.regs)=true:=by simpa using h1
   have ag:((t.args.length:Int)==(bl.params.length:Int))=false:=by
    have:¬ t.args.length=bl.params.length:=fun e=>n ⟨h1,e⟩
    simp;omega
   clear n h1 F;go_wp2_with fail
   refine(Zf _).mono ?_
   rintro e' w' ⟨rfl,b⟩;subst b;exact⟨Yz,a.out,by rw[d.out]⟩
  ·have D:((t.regs.length:Int)==bl.regs)=false:=by simpa using h1
   clear n h1 F;go_wp2_with fail
   refine(Zf _).mono ?_
   rintro e' w' ⟨rfl,b⟩;subst b;exact⟨Yz,a.out,by rw[d.out]⟩
 have D:((t.regs.length:Int)==bl.regs)=true:=by simpa using n.1
 have ag:((t.args.length:Int)==(bl.params.length:Int))=true:=by simp[n.2]
 have o:Hid (oo=match Zb fr.r t.regs with | none=>none | some rs=>match Qp fr.v t.args with | none=>none | some J=>some ⟨fi,bi,0,J,rs⟩):=by show _=_;rw[F.out,Xs n]
 have ai:Hid (bl.regs=t.regs.length):=n.1.symm;clear n F;go_upto_region 3 with (go_at_call 113;refine(ZB _).mono ?_;rintro e' w' ⟨rfl,b⟩;have b:=b.symm;subst b)
 clear D ag z1;have F6:=Qb (HF.out.below a.out);have f3:=Qa F6.out.1 3 _ Yz;have ar:=Qb t1;go_wp2_with fail
 go_loopw [41] (fun i wr=>∃ k:Nat,k<=t.regs.length/\i=.int .i64 k/\wr=w6/\∀ (j:Nat) (y:Int),j<k->t.regs[j]?=some y->0<=y/\y<(fr.r.length:Int)) (fun i _=>t.regs.length - (intOf i).toNat)
 case atStart=>exact⟨0,Xb _,Yz,Yz,fun j y K=>by omega⟩
 case round =>
  obtain⟨k,hk,rfl,b,hz⟩:=hrel
  have b:=b.symm;subst b;have HZ:=Qb hz;clear hz t1;by_cases g:k<t.regs.length
  ·have U:(k:Int)<t.regs.length:=by omega
   obtain⟨y,hy⟩:∃ y,t.regs[k]?=some y:=⟨_,Zg g⟩
   obtain⟨g9,o9,rfl,-,hg,A⟩:=QaT P.out g
   rw[show t.regs.getD k 0=y by rw[List.getD_eq_getElem?_getD,hy];rfl] at A
   have y0:=QI A a.out;have HY:=Qb hy;clear A hg hy;by_cases s:0<=y/\y<(fr.r.length:Int)
   ·have d1:decide (y>=0)=true:=by simpa using s.1
    have d2:decide (y<(fr.r.length:Int))=true:=by simpa using s.2
    have aj:=Qb s;clear s;go_wp2_with (go_at_call 113;refine(ZB _).mono ?_;rintro e' w' ⟨rfl,b⟩;have b:=b.symm;subst b)
    go_roundw
    case rel =>
     refine⟨k+1,g,by go_num,by first | rfl | trivial,fun j y' K C=>?_⟩
     rcases Nat.lt_or_ge j k with h | h
     ·exact HZ.out j y' h C
     ·have:j=k:=by omega
      subst this;rw[HY.out] at C
      cases C
      exact aj.out
    case measure=>simp[intOf];omega
   ·have d:Hid (oo=none):=by show _=_;rw[o.out,Qcp (Zm HY.out) s]
    by_cases S:0<=y
    ·have d1:decide (y>=0)=true:=by simpa using S
     have d2:decide (y<(fr.r.length:Int))=false:=Xu (fun h=>s ⟨S,h⟩);clear s S o;go_wp2_with fail
     refine(Zf _).mono ?_
     rintro e' w' ⟨rfl,b⟩;subst b;exact⟨Yz,a.out,by rw[d.out]⟩
    ·have d1:decide (y>=0)=false:=by simpa using S
     clear s S o;go_wp2_with fail
     refine(Zf _).mono ?_
     rintro e' w' ⟨rfl,b⟩;subst b;exact⟨Yz,a.out,by rw[d.out]⟩
  ·have U:¬ (k:Int)<t.regs.length:=by omega
   obtain⟨rs,ac,M⟩:=QcA (r:=fr.r) (l:=t.regs) (fun y hy=>by
    obtain⟨j,K⟩:=List.getElem?_of_mem hy
    exact HZ.out j y (by have:=(Zi K).1;omega) K)
   have d:Hid (oo=match Qp fr.v t.args with | none=>none | some J=>some ⟨fi,bi,0,J,rs⟩):=by show _=_;rw[o.out,ac]
   have ae:=Qb M;have CA:Hid (∀ wx,Below w6.heap.size w6 wx->Calls prog 117 #[.pointer (some ⟨c,0,none⟩),.slice pa t.args.length ca] wx fun e w'=>Qb1 wx (Qp fr.v t.args) t.args.length e w'):=fun wx bx=>QdQ (F6.out.below bx) hl Yz (by omega) (Ya an.out (a.out.trans (bx.mono a.out.size)));clear HZ g o M ac P;go_upto_region 8 with fail
   refine ig8 t0 z0 t2 CA _ _ Yz (Xg (by kernel_rfl)) Yz Yz Yz Yz ?_ ?_
   ·rintro ch a' w9 ah ⟨rfl,hv,b9⟩;exact⟨ah,a.out.trans (b9.mono a.out.size),by rw[d.out,hv]⟩
   ·rintro aq w9 ⟨B,g9,J,T,hB,O,af,ex,q⟩ b9;have bb:=a.out.trans (b9.mono a.out.size)
    have QQ:Hid (Qbb w oo (.returned (.pointer (some ⟨B,0,none⟩))) w9):=by
     refine⟨bb,?_⟩
     rw[d.out,ex]
     have al:=Q1 _ _ ex;refine⟨B,g9,t.args.length,Yz,Zt a.out.size hB,Zt a.out.size af,?_,Qgu.of al (by omega) q⟩
     rw[O,ai.out,<-ae.out]
     rfl
    simp only[QT,Act.put,List.setIfInBounds_toArray,List.set_cons_zero,List.set_cons_succ,T]
    clear T hB O af ex q b9 bb d ae CA;go_wp2
    go_ret;exact QQ.out
end
theorem Qe7 {l2:List Oper}{outs:List Tmp}{gs:List (Nat × Option Bool)}{a:Act}
 (E:Tmp->Value->World->Prop) (W:World->Prop) (R:World->World->Prop) (PX:List PanicEntry->World->Prop) (x:∀ ch a' w,a'.defers=a.defers->PX ch w->Q (.panic ch) a' w)
 (H:P.follows .mixedOrders=true)  (hn:a.tmps.size=m) (f:n<=m) (D:Qab l n outs gs bs=true)
 (p:(Qb5 0 (l++l2)&&(Qbg l.length l&&QaQ (l++l2) l.length l2))=true)
 (A:∀ t v w w',R w w'->E t v w->E t v w') (B:Z2 E l.toArray gs) (i:W w.drew) (y:QaR E a w.drew outs)
 (J:AllOkC E W R PX P l bs)
 (b:∀ (vs:Tmp->Value) w',W w'->(∀ t,(Ql l).contains t=true->E t (vs t) w')->wpList P (l++l2).toArray Q l2 (QT a vs (Ql l)) w') :
 (Code.region id (l++l2).toArray true).wp P Q a w:=by
 simp only[Bool.and_eq_true] at p
 obtain⟨k,c,g⟩:=p
 refine wp_region_any H ?_
 have d:wpAny P .any l.toArray (Exit.then (fun a w=>wpList P (l++l2).toArray Q l2 a w) Q) l.length (Array.replicate l.length false) a w.drew:=by
  have z:(fun j=>(Array.replicate l.length false).getD j false)=fun _=>false:=by
   funext j
   rw[Za,Array.getElem?_replicate]
   split<;>rfl
  refine Qcv (E:=E) (W:=fun _=>W) (PX:=PX) (Q:=Exit.then (fun a w=>wpList P (l++l2).toArray Q l2 a w) Q) (a0:=a) (outs:=outs) (gs:=gs) (bs:=bs) (fun ch a' w' F G=>x ch a' w' F G) (Z7 (hn ▸ f) D) B (QfB A l bs 0 J) (fun vs S w' _ i u=>b vs w' i u) _ _ _ _ (by simp) ?_ ⟨i,(by rw[z];intro j o _ h;cases h),Z,Z,fun _ _=>rfl,fun t s _=>QaI outs y t s,?_⟩
  ·simp only[Array.toList_replicate]
   exact Zt (List.length_filter_le _ _) (by simp)
  ·intro j o t L M C;simp[Array.getD] at C
 have:=Qbk (Q:=Q) k c g l.length (Array.replicate l.length false) a w.drew (by simp) (fun q o K I=>by simp[Array.getD] at I) d
 have e:(Array.replicate l.length false++Array.replicate l2.length false:Array Bool)=Array.replicate (l++l2).toArray.size false:=by
  simp
 have r:l.length+l2.length=(l++l2).toArray.size:=by simp
 rw[e,r] at this
 exact this
theorem Q0 {b:List Oper}{outs:List Tmp}{gs:List (Nat × Option Bool)}{a:Act}
 (k:Nat) (E:Tmp->Value->World->Prop) (W:World->Prop) (R:World->World->Prop) (PX:List PanicEntry->World->Prop) (p:∀ ch a' w,a'.defers=a.defers->PX ch w->Q (.panic ch) a' w)
 (o:P.follows .mixedOrders=true)  (hn:a.tmps.size=m) (d:n<=m) (r:Qab (b.take k) n outs gs bs=true)
 (j:(Qb5 0 b&&(Qbg (b.take k).length (b.take k)&&QaQ b (b.take k).length (b.drop k)))=true)
 (f:∀ t v w w',R w w'->E t v w->E t v w') (g:Z2 E (b.take k).toArray gs) (i:W w.drew) (e:QaR E a w.drew outs)
 (q:AllOkC E W R PX P (b.take k) bs)
 (c:∀ ops (vs:Tmp->Value) w',W w'->(∀ t,(Ql (b.take k)).contains t=true->E t (vs t) w')->wpList P ops Q (b.drop k) (QT a vs (Ql (b.take k))) w') :
 (Code.region id b.toArray true).wp P Q a w:=by
 have h:=Qe7 (id:=id) (l:=b.take k) (l2:=b.drop k) (Q:=Q) E W R PX p o hn d r (by rw[List.take_append_drop];exact j) f g i e q (c _);rwa [List.take_append_drop] at h
def Qm (g:MG) (w:World) (b most:Nat) (m:List (Qe 6)) (M:IM) (sc sa:Int) (r:Option IM) (e:Ending) (w':World):Prop:=match r with
 | none=>e=.panicked stuckP/\XTo g w w' b most m M sc sa
 | some M'=>(e=.returned (.tuple #[])/\XTo g w w' b most m M' sc sa)\/(∃ N k,M'=N.over k/\e=.panicked (Qje k)/\XTo g w w' b most m N sc sa)
section
variable {w w' w2:World}{b most:Nat}{m:List (Qe 6)}{M M' N:IM}{sc sa:Int}{g g1:MG}{e:Ending}
theorem Qm.go (h:XTo g w w' b most m M' sc sa):Qm g w b most m M sc sa (some M') (.returned (.tuple #[])) w':=.inl ⟨Z,h⟩
theorem Qm.end_ {k:Int}(h:XTo g w w' b most m N sc sa):Qm g w b most m M sc sa (some (N.over k)) (.panicked (Qje k)) w':=.inr ⟨N,k,Z,Z,h⟩
theorem Qm.stuck (h:XTo g w w' b most m M sc sa):Qm g w b most m M sc sa none (.panicked stuckP) w':=⟨Z,h⟩
theorem MAt.regs (S:MAt w b most m M sc sa g) (k:Int):XTo g w (w.setCell ⟨g.t.c,3,none⟩ (.int .i64 ((M.top.r.length:Int)+1))) b most m { M with top:={ M.top with r:=M.top.r++[k] } } sc sa:=by
 have F:=S.top;refine S.setTop Z Z Z (by simp) (fun x a d f=>Xd _ _ _ _ d) (v:=g.t.v) ⟨?_,?_⟩ (fun x a=>.inl a)
 ·have:=Qo F.1 3 (.int .i64 ((M.top.r.length:Int)+1))
  rw[this]
  simp
 ·exact F.2.keep (fun x a=>Xd _ _ _ _ (fun (e:x=g.t.c)=>F.ne (e ▸ a)))
theorem MAt.next (S:MAt w b most m M sc sa g):XTo g w (w.setCell ⟨g.t.c,2,none⟩ (.int .i64 ((M.top.i:Int)+1))) b most m { M with top:={ M.top with i:=M.top.i+1 } } sc sa:=by
 have F:=S.top;refine S.setTop Z Z Z (by simp) (fun x a d f=>Xd _ _ _ _ d) (v:=g.t.v) ⟨?_,?_⟩ (fun x a=>.inl a)
 ·have:=Qo F.1 2 (.int .i64 ((M.top.i:Int)+1))
  rw[this]
  simp
 ·exact F.2.keep (fun x a=>Xd _ _ _ _ (fun (e:x=g.t.c)=>F.ne (e ▸ a)))
theorem MAt.heapC (S:MAt w b most m M sc sa g):w.cell? ⟨b,0,none⟩=some (.pointer (some ⟨g.bh,0,none⟩)):=Qa S.box 0 _ Z
theorem XTo.below {c:World}(h:XTo g w w2 b most m M sc sa) (k:Below w2.heap.size w2 c):XTo g w c b most m M sc sa:=by
 obtain⟨d,a,s,e,f⟩:=h
 exact⟨d,a.below k,s.trans (a.stepB k),e,f⟩
theorem QhG (S:MAt w b most m M sc sa g) (B:HB n M.h) (hn:n<=1000000) (hv:M.top.v.length+1<=1000000) (hr:M.top.r.length<=1000000) :
 Calls prog 112 #[.pointer (some ⟨b,0,none⟩),.pointer (some ⟨g.t.c,0,none⟩)] w fun e w'=>Qm g w b most m M sc sa (if M.h.open_.2.1 then some (IM.push { M with h:=M.h.open_.2.2,top:={ M.top with r:=M.top.r++[M.h.open_.1.region] } } [M.h.open_.1]) else some (M.over 6)) e w':=by
 have q0:=S.heapC;have C:=Qb (Qh1 S.heap (by have:=B.ok.len;omega) B.live);have V:=Qb S
 have y:Hid (M.h.open_.2.1=false->M.h.open_.2.2=M.h):=by
  show _->_;unfold Qc.open_;split
  ·exact fun _=>rfl
  ·exact fun h=>by cases h
 clear S B;generalize M.h.open_=op at C y |-;obtain⟨⟨o,a,q,s⟩,ob,oh⟩:=op
 simp only at C y |-
 go_enter func112,ntmps112
 go_upto_region 1 with (go_at_call 155;refine C.out.mono ?_;rintro D x ⟨rfl,U⟩)
 obtain⟨g2,H,P,N,f2⟩:=V.out.toHeap U
 have A:=QY x (.cells #[.int .i64 o,.int .i64 a,.int .i64 q,.int .i64 s] 183);have Y:=Qb (Qh x #[.int .i64 o,.int .i64 a,.int .i64 q,.int .i64 s] 183);have j:=Qb (H.below A);have z:=Qb (P.trans (H.stepB A));have f:=Qb (Xh N f2);clear C U P A H q0 N f2;generalize x.alloc (.cells #[.int .i64 o,.int .i64 a,.int .i64 q,.int .i64 s] 183)=Q at Y j z |-;generalize x.heap.size=X at Y |-
 cases ob with
 | false =>
   have E:=Qb (y.out Z);go_wp2_with fail
   refine(QaG _ _).mono ?_
   rintro D w' ⟨rfl,u⟩;subst u;refine⟨Z,Qm.end_ ⟨g2,?_,z.out,f.out.1,f.out.2⟩⟩
   have:=j.out
   rw[E.out] at this
   exact this
 | true =>
   have O:=Qa j.out.top.1 3 _ Z;have I:=Qf j.out.top.1 3;rw[f.out.1] at O I
   go_upto_region 2 with (go_at_call 67;refine(QaY _ _).mono ?_;rintro D w' ⟨rfl,u⟩;have u:=u.symm;subst u)
   obtain⟨g4,d,i,K,T⟩:=j.out.regs a
   rw[f.out.1] at d i
   have p:Hid ((Q.setCell ⟨g.t.c,3,none⟩ (.int .i64 ((M.top.r.length:Int)+1))).heap[X]?=_):=(Xd _ _ _ _ (fun e=>by
    have h1:=Y.out;rw[e,<-f.out.1,j.out.top.1] at h1
    simp at h1)).trans Y.out
   have d:=Qb d;have i:=Qb (z.out.trans i);have k:Hid (g4.t.c=g.t.c/\g4.fs=g.fs):=⟨K.trans f.out.1,T.trans f.out.2⟩;simp only at d i
   have ab:M.top.r.length+1<=1000001:=by omega
   clear j z Y K T y V;generalize aa:M.top.r.length=nr at *;go_upto_region 3 with fail
   generalize Q.setCell ⟨g.t.c,3,none⟩ (.int .i64 ((nr:Int)+1))=L at d i p |-;have y0:=Qa p.out 0 _ Z;have y1:=Qa p.out 1 _ Z;have y2:=Qa p.out 2 _ Z;have y3:=Qa p.out 3 _ Z;have G:=QY L (.cells #[.int .i64 o,.int .i64 a,.int .i64 q,.int .i64 s] 183);have F:=Qb (fun cp=>ZM (d.out.below G) (l:=[⟨o,a,q,s⟩]) (cp:=cp) Z (Qf7 L o a q s) hv);have J:=Qb (i.out.trans (d.out.stepB G));rw[k.out.1] at F
   clear G p d i O I;go_wp2_with fail
   refine(F.out _).mono ?_
   rintro D w6 ⟨rfl,W⟩;have R:=Qb (XTo.then J.out k.out.1 k.out.2 W);clear W F J y0 y1 y2 y3;go_wp2
   exact Xz (v:=.tuple #[]) (by simp[results,results112,go_sem]) Z (Qm.go R.out)
theorem iInfo64:∃ i,prog.info? 2=some i/\i.zero=some (.int .i64 0)/\i.size=1/\i.bytes=8:=by
 have h:(prog.info? 2).map (fun i=>(i.zero,i.size,i.bytes))=some (some (.int .i64 0),1,8):=by kernel_rfl
 cases e:prog.info? 2 with
 | none=>rw[e] at h;cases h
 | some i =>
   rw[e] at h
   simp only[Option.map_some,Option.some.injEq,Prod.mk.injEq] at h
   exact⟨i,Z,h.1,h.2.1,h.2.2⟩
theorem iUnder64:prog.underlying 25=some (.slice 2):=by kernel_rfl
theorem MAt.setOut (S:MAt w b most m M sc sa g){v9:Value}{w9:World}{n:Int}(z:w9.ownsRow 0 2 1 v9 (M.out.length+1) (M.out.map (Value.int .i64)++[.int .i64 n])) (j:w.grownBy w9 g.vo.ownBlock) (v:∀ k,v9.ownBlock=some k->g.vo.ownBlock=some k\/k=w.heap.size) :
 XTo g w (w9.setCell ⟨b,7,none⟩ v9) b most m { M with out:=M.out++[n] } sc sa:=by
 have r:=XC S.box;have s:w9.heap[b]?=_:=(j.block b r (fun e=>S.outNe e.symm Z)).trans S.box
 have o:∀ k,k<w.heap.size->k≠b->g.vo.ownBlock≠some k->(w9.setCell ⟨b,7,none⟩ v9).heap[k]?=w.heap[k]?:=fun k c d i=>by
  rw[Xd _ _ _ _ d]
  exact j.block k c (fun e=>i e.symm)
 have p:w.heap.size<=(w9.setCell ⟨b,7,none⟩ v9).heap.size:=by simpa using j.size
 have l:∀ k,v9.ownBlock=some k->k<w.heap.size->g.A k/\¬ g.O k:=fun k c B=>by
  rcases v k c with e | e
  ·exact S.oo k e
  ·omega
 have t:∀ k,¬ g.A k->k<w.heap.size->¬ (g.A k\/v9.ownBlock=some k):=fun k d i F=>by rcases F with e | e;exact d e;exact d (l k e i).1
 have q:∀ k,¬ g.A k->k<w.heap.size->(w9.setCell ⟨b,7,none⟩ v9).heap[k]?=w.heap[k]?:=fun k d i=>o k i (fun e=>d (e ▸ S.ob.1)) (fun e=>d (S.oo k e).1)
 have u:∀ k,v9.ownBlock=some k->k≠b:=fun k c e=>by
  rcases v k c with h | h
  ·exact S.outNe h e
  ·omega
 refine⟨{ g with vo:=v9,A:=fun x=>g.A x\/v9.ownBlock=some x },⟨?_,?_,?_,?_,S.inpC,?_,?_,?_,?_,⟨.inl S.ob.1,S.ob.2⟩,fun x a=>⟨.inl (S.oc x a).1,(S.oc x a).2⟩,fun x a=>⟨.inr a,fun e=>?_⟩,fun x a=>.inl (S.oa x a),?_,Zt S.low p⟩,?_,Z,Z⟩
 ·have:=Qo s 7 v9
  simpa using this
 ·exact S.heap.keep p (fun x a B=>o x B (fun e=>S.ob.2 (e ▸ a)) (fun e=>(S.oo x e).2 a))
 ·exact Zd (Qam 6) q t S.mod
 ·exact Zd intsL q t S.inp
 ·exact QE S.calls (fun x a=>o x (S.lt x (S.oc x a).1) (S.callsNe a).1 (S.callsNe a).2)
 ·exact Zk q t S.back
 ·show World.ownsRow _ 0 _ 1 v9 (M.out++[n]).length ((M.out++[n]).map _);rw[List.length_append,List.map_append]
  exact QE z (fun x a=>Xd _ _ _ _ (u x a))
 ·refine S.frs.keep (fun k c d i=>⟨.inl d,i⟩) (fun y D=>?_);obtain⟨E,C,H,G⟩:=S.frs.mem y D
  have f:=S.frNe D;exact⟨o _ (XC C.1) f.1 (fun e=>(f.2.2.2 _ e).1 Z),fun x a=>o x (C.2.lt a) (fun e=>f.2.1 (e ▸ a)) (fun e=>(f.2.2.2 _ e).2 a)⟩
 ·exact(l x a (S.heap.lt x e)).2 e
 ·rintro x (a | a)
  ·exact Zl (S.lt x a) p
  ·have:=XC (QG z a).choose_spec
   simpa using this
 ·refine⟨j.os,j.tape,j.output,p,fun k c d=>q k d c,?_⟩
  rintro k (c | c)
  ·exact .inl c
  ·rcases v k c with e | e
   ·exact .inl (S.oo k e).1
   ·exact .inr (by omega)
theorem QeM (S:MAt w b most m M sc sa g) (n:Int) (Q:M.out.length<=2000) :
 Calls prog 122 #[.pointer (some ⟨b,0,none⟩),.int .i64 n] w fun e w'=>Qm g w b most m M sc sa (if M.out.length=2000 then some (M.over 8) else some { M with out:=M.out++[n] }) e w':=by
 obtain⟨H,L,o,s,r⟩:=iInfo64
 obtain⟨T,V,j⟩:=QaW S.out
 have F:w.cell? ⟨b,7,none⟩=some g.vo:=Qa S.box 7 _ Z;rw[j] at F
 have E:=Qb S;have y:=Qb j;by_cases l:M.out.length=2000
 ·rw[Xs l]
  have K:decide ((M.out.length:Int)<2000)=false:=Xu (by omega);clear S j l;go_enter func122,ntmps122
  generalize M.out.length=O at *;go_wp2_with fail
  refine(QaG _ _).mono ?_
  rintro J w' ⟨rfl,i⟩;subst i;exact⟨Z,Qm.end_ (XTo.same E.out Zr)⟩
 ·rw[Xr l]
  have K:decide ((M.out.length:Int)<2000)=true:=Xt (by omega);have z:=QY w (.cells #[.int .i64 n] 2);have h:=Qb (S.below z);have B:=Qb (S.stepB z);have t:=Qb h.out.out;have C:=Qb (Qi2 w [.int .i64 n] 2);have I:Hid ((w.alloc (.cells #[.int .i64 n] 2)).heap.size=w.heap.size+1):=by show _=_;simp
  have f:=Qb (fun v9 w9=>h.out.setOut (v9:=v9) (w9:=w9) (n:=n));have d:=Qb h.out.box;have c:=Qb (fun x=>h.out.outNe (x:=x));clear S j l z E;rw[y.out] at t f c
  go_enter func122,ntmps122
  go_upto_region 1 with (go_at_call 67;refine(QaY _ _).mono ?_;rintro J w' ⟨rfl,i⟩;have i:=i.symm;subst i)
  go_wp2_with (at_builtin;refine ZA _ Z _ _ 25 Z 2 H (.int .i64 0) 1 8 iUnder64 L o s r Z (by decide) _ _ _ Z t.out ⟨w.heap.size,0,none⟩ 1 1 [.int .i64 n] Z Z C.out (by intro u A;simp at A;subst A;rfl) (by unfold maxLen;omega) (by omega) ?_)
  intro v9 w9 q p D;have R:=Qb (XTo.then B.out Z Z (f.out v9 w9 q p (fun k G=>(D k G).imp id (fun e=>by rw[I.out];exact e))));have a:=(p.block b (XC d.out) (fun e=>c.out b e.symm Z)).trans d.out;have N:w9.cell? ⟨b,7,none⟩=some g.vo:=Qa a 7 _ Z;have P:=Qf a 7;obtain⟨U,W,rfl⟩:=QaW q
  clear q p D f a d t F C B h c;go_wp2
  exact Xz (v:=.tuple #[]) (by simp[results,results122,go_sem]) Z (Qm.go R.out)
theorem Qfj (S:MAt w b most m M sc sa g) (E:M.inp.length<=1000000) (hv:M.top.v.length+1<=1000000) :
 Calls prog 121 #[.pointer (some ⟨b,0,none⟩),.pointer (some ⟨g.t.c,0,none⟩)] w fun e w'=>Qm g w b most m M sc sa (match M.inp with | []=>some (M.over 4) | n::l=>some (IM.push { M with inp:=l } [Qa8 n])) e w':=by
 have o:w.cell? ⟨b,2,none⟩=some (.slice g.pi M.inp.length g.ci):=Qa S.box 2 _ Z;have U:=Qb S
 cases hi:M.inp with
 | nil =>
   rw[hi] at o
   clear S;go_enter func121,ntmps121
   go_wp2_with fail
   refine(QaG _ _).mono ?_
   rintro Q w' ⟨rfl,s⟩;subst s;exact⟨Z,Qm.end_ (XTo.same U.out Zr)⟩
 | cons n l =>
   have a:=S.inp;rw[hi] at o a
   obtain⟨gi,oi,H,-,F,T⟩:=QaT a (i:=0) (by simp)
   simp only[List.getD_cons_zero,Nat.add_zero] at T
   rw[H] at o
   have C:=Qb (Z3 S n hv);have O:=Qb hi;have J:=Qb H;have I:=Qb S.inpC;have ab:l.length+1<=g.ci:=by have:=S.inpC;rw[hi] at this;simpa using this
   have aa:l.length+1<=1000000:=by rw[hi] at E;simpa using E
   simp only[List.length_cons] at o
   clear S H a hi E;go_enter func121,ntmps121
   have d1:decide (((l.length+1:Nat):Int)>0)=true:=Xt (by omega);go_upto_region 2 with (first | (go_at_call 67;refine(QaY _ _).mono ?_;rintro Q w' ⟨rfl,s⟩;have s:=s.symm;subst s) | (go_at_call 110;refine C.out.mono ?_;rintro Q q ⟨rfl,y⟩))
   obtain⟨d,f,P,N,V⟩:=y
   have K:(M.push [Qa8 n]).inp=n::l:=O.out;have o:q.cell? ⟨b,2,none⟩=some (.slice d.pi (M.push [Qa8 n]).inp.length d.ci):=Qa f.box 2 _ Z;have a:=f.inp;have z:=f.inpC;rw[K] at o a z
   obtain⟨G,p,r,-,B,-⟩:=QaT a (i:=0) (by simp)
   rw[r] at o a
   simp only[List.length_cons] at o z
   have z2:=Qf f.box 2
   have W:Hid (intsL.In q (Imm d.A b) l [.slice (some ⟨G,p+1,none⟩) l.length (d.ci - 1)]):=by
    refine⟨_,_,Z,fun i x hx=>?_⟩
    obtain⟨g9,o9,ds,u,D,y,h3,h4⟩:=Yf a (i:=i+1) (x:=x) (by simpa using hx)
    injection u with u
    injection u with u e10
    subst u;subst e10;refine⟨_,_,ds,Z,D,y,fun j hj=>?_,h4⟩
    have:=h3 j hj
    rw[show p+1+i*Lay.int.size+j=p+(i+1)*Lay.int.size+j by simp[Lay.int];omega]
    exact this
   have R:Hid (∀ (pi:Option Addr) (ci:Nat),intsL.In q (Imm d.A b) l [.slice pi l.length ci]->l.length<=ci->XTo g w (q.setCell ⟨b,2,none⟩ (.slice pi l.length ci)) b most m (IM.push { M with inp:=l } [Qa8 n]) sc sa):=fun pi ci D y=>XTo.then P N V (f.reBox (M':=IM.push { M with inp:=l } [Qa8 n]) (w':=q.setCell ⟨b,2,none⟩ (.slice pi l.length ci)) (sc':=sc) (sa':=sa) Z Z Z (by simp) (fun k L D=>Xd _ _ _ _ D) ⟨Z,Z,Z,Z⟩ (pi:=pi) (ci:=ci) (vb:=d.vb) ⟨D,y⟩ (Zk (fun k L E=>Xd _ _ _ _ (fun (e:k=b)=>L (e ▸ f.ob.1))) (fun _ h _=>h) f.back) (by
    rw[Qo f.box 2 _]
    rfl))
   have R1:=Qb (R.out _ _ W.out (by omega))
   have R0:Hid (l.length=0->∀ pi ci,XTo g w (q.setCell ⟨b,2,none⟩ (.slice pi l.length ci)) b most m (IM.push { M with inp:=l } [Qa8 n]) sc sa):=fun e pi ci=>R.out pi ci (by
    have:l=[]:=Xf.1 e
    subst this;exact Yg _ _ _ _ _) (by omega)
   have X:((d.ci:Int) - 1)=((d.ci - 1:Nat):Int):=by omega
   clear f P a W C U O J I T r K d1 F B N V R;generalize d.ci=ci at *;go_wp2
   ·exact Xz (v:=.tuple #[]) (by simp[results,results121,go_sem]) Z (Qm.go (R0.out (by omega) _ _))
   ·exact Xz (v:=.tuple #[]) (by simp[results,results121,go_sem]) Z (Qm.go R1.out)
end
section
variable {w w' w5 w9:World}{b most:Nat}{m:List (Qe 6)}{M M' N:IM}{sc sa:Int}{g g1:MG}{e:Ending}
theorem Qfs {A:Nat->Prop}{xs:List FB}{frs:List IFr}(h:QaO w A O xs frs){y z:FB}(g:y∈xs) (b:z∈xs):y.v.ownBlock≠some z.c:=by
 obtain⟨i,f,-⟩:=h.mem y g
 obtain⟨j,d,-⟩:=h.mem z b
 intro e;obtain⟨c,a⟩:=QG f.2 e
 exact Q8 a d.1 (by decide) Z
theorem MAt.pushFr (S:MAt w b most m M sc sa g) (q:Below w.heap.size w w5){f:Nat}{l:Value}{fr:IFr}(F:QcQ w5 f fr l) (K:w.heap.size<=f) (r:∀ k,l.ownBlock=some k->w.heap.size<=k)
 {v9:Value} (L:w9.ownsRow 0 84 1 v9 (M.rest.length+1+1) (Qaz (g.t::g.fs)++[.pointer (some ⟨f,0,none⟩)])) (p:w5.grownBy w9 g.vc.ownBlock) (I:∀ k,v9.ownBlock=some k->g.vc.ownBlock=some k\/k=w5.heap.size) :
 ∃ g',MAt (w9.setCell ⟨b,4,none⟩ v9) b most m { M with top:=fr,rest:=M.top::M.rest } sc sa g'/\QN g.A g'.A w (w9.setCell ⟨b,4,none⟩ v9)/\g'.fs=g.t::g.fs:=by
 have s:=XC S.box
 have z:∀ k,k<w.heap.size->k≠b->g.vc.ownBlock≠some k->(w9.setCell ⟨b,4,none⟩ v9).heap[k]?=w.heap[k]?:=fun k d i o=>by
  rw[Xd _ _ _ _ i]
  exact(p.block k (Zl d q.size) (fun e=>o e.symm)).trans (q.block k d)
 have E:w9.heap[b]?=_:=(p.block b (Zl s q.size) (fun e=>(S.callsNe e.symm).1 Z)).trans ((q.block b s).trans S.box);have R:=q.size;have B:w.heap.size<=(w9.setCell ⟨b,4,none⟩ v9).heap.size:=by have:=p.size;simp;omega
 have u:∀ k,v9.ownBlock=some k->k<w.heap.size->g.A k/\¬ g.O k:=fun k d P=>by
  rcases I k d with e | e
  ·exact S.oc k e
  ·omega
 have Q:∀ k,(k=f\/l.ownBlock=some k)->w.heap.size<=k/\k<w5.heap.size:=fun k d=>by
  rcases d with e | e
  ·subst e;exact⟨K,XC F.1⟩
  ·exact⟨r k e,F.2.lt e⟩
 have N:∀ k,w.heap.size<=k->¬ g.O k:=fun k d h=>by have:=S.heap.lt k h;omega
 have j:∀ k,w.heap.size<=k->k<w5.heap.size->(w9.setCell ⟨b,4,none⟩ v9).heap[k]?=w5.heap[k]?:=fun k i o=>by
  rw[Xd _ _ _ _ (fun (e:k=b)=>by omega)]
  exact p.block k o (fun e=>by have:=S.lt k (S.oc k e.symm).1;omega)
 have G:∀ k,¬ g.A k->k<w.heap.size->¬ (g.A k\/k=f\/l.ownBlock=some k\/v9.ownBlock=some k):=fun k i o V=>by
  rcases V with e | e | e | e
  ·exact i e
  ·omega
  ·have:=r k e;omega
  ·exact i (u k e o).1
 have D:∀ k,¬ g.A k->k<w.heap.size->(w9.setCell ⟨b,4,none⟩ v9).heap[k]?=w.heap[k]?:=fun k i o=>z k o (fun e=>i (e ▸ S.ob.1)) (fun e=>i (S.oc k e).1)
 have H:∀ k,v9.ownBlock=some k->k≠b:=fun k d e=>by
  rcases I k d with h | h
  ·exact(S.callsNe h).1 e
  ·omega
 have U:QcQ (w9.setCell ⟨b,4,none⟩ v9) f fr l:=F.keep (j f K (XC F.1)) (fun x a=>j x (r x a) (F.2.lt a));refine⟨{ g with vc:=v9,t:=⟨f,l⟩,fs:=g.t::g.fs,A:=fun k=>g.A k\/k=f\/l.ownBlock=some k\/v9.ownBlock=some k },⟨?_,?_,?_,?_,S.inpC,?_,?_,?_,?_,⟨.inl S.ob.1,S.ob.2⟩,fun x a=>⟨.inr (.inr (.inr a)),fun e=>?_⟩,fun x a=>⟨.inl (S.oo x a).1,(S.oo x a).2⟩,fun x a=>.inl (S.oa x a),?_,Zt S.low B⟩,?_,Z⟩
 ·have:=Qo E 4 v9
  simpa using this
 ·exact S.heap.keep B (fun x a P=>z x P (fun e=>S.ob.2 (e ▸ a)) (fun e=>(S.oc x e).2 a))
 ·exact Zd (Qam 6) D G S.mod
 ·exact Zd intsL D G S.inp
 ·have e:Qaz (⟨f,l⟩::g.t::g.fs)=Qaz (g.t::g.fs)++[.pointer (some ⟨f,0,none⟩)]:=by simp[Qaz]
  show World.ownsRow _ 0 _ 1 v9 ((M.top::M.rest).length+1) (Qaz (⟨f,l⟩::g.t::g.fs));rw[e]
  exact QE L (fun x a=>Xd _ _ _ _ (H x a))
 ·exact Zk D G S.back
 ·exact QE S.out (fun x a=>z x (S.lt x (S.oo x a).1) (S.outNe a) (fun e=>(S.callsNe e).2 a))
 ·refine⟨⟨U,⟨.inr (.inl Z),N f K⟩,fun k d=>⟨.inr (.inr (.inl d)),N k (r k d)⟩⟩,fun y C=>?_,?_⟩
  ·obtain⟨J,v,W,T⟩:=S.frs.mem y C
   refine⟨fun e=>?_,fun k d e=>?_⟩
   ·have i:=XC v.1;have e:y.c=f:=e;omega
   ·have:=v.2.lt e
    have:=r k d
    omega
  ·refine S.frs.keep (fun k d i o=>⟨.inl i,o⟩) (fun y C=>?_);obtain⟨J,v,W,T⟩:=S.frs.mem y C
   have n:=S.frNe C;exact⟨z _ (XC v.1) n.1 (fun e=>(n.2.2.1 _ e).1 Z),fun x a=>z x (v.2.lt a) (fun e=>n.2.1 (e ▸ a)) (fun e=>(n.2.2.1 _ e).2 a)⟩
 ·exact(u x a (S.heap.lt x e)).2 e
 ·have X:=p.size;rintro x (a | rfl | a | a)
  ·exact Zl (S.lt x a) B
  ·have:=XC F.1;simp;omega
  ·have:=F.2.lt a;simp;omega
  ·have:=XC (QG L a).choose_spec
   simpa using this
 ·refine⟨p.os.trans q.os,p.tape.trans q.tape,p.output.trans q.output,B,fun k d i=>D k i d,?_⟩
  rintro k (d | d | d | d)
  ·exact .inl d
  ·exact .inr (by omega)
  ·exact .inr (r k d)
  ·rcases I k d with e | e
   ·exact .inl (S.oc k e).1
   ·exact .inr (by omega)
theorem MAt.next2 (S:MAt w b most m M sc sa g){y:FB}{B:List FB}{fr:IFr}{rest:List IFr}(l:g.fs=y::B) (D:M.rest=fr::rest) :
 ∃ g',MAt (w.setCell ⟨y.c,2,none⟩ (.int .i64 ((fr.i:Int)+1))) b most m { M with rest:={ fr with i:=fr.i+1 }::rest } sc sa g'/\QN g.A g'.A w (w.setCell ⟨y.c,2,none⟩ (.int .i64 ((fr.i:Int)+1))):=by
 have E:=S.frs;rw[l,D] at E
 obtain⟨⟨K,I,J⟩,C,⟨⟨r,p,G⟩,u,F⟩⟩:=E
 have s:y∈g.t::g.fs:=by rw[l];simp
 have j:=S.frNe s;have d:∀ k,k≠y.c->(w.setCell ⟨y.c,2,none⟩ (.int .i64 ((fr.i:Int)+1))).heap[k]?=w.heap[k]?:=fun k f=>Xd _ _ _ _ f;have n:∀ k,¬ g.A k->k<w.heap.size->(w.setCell ⟨y.c,2,none⟩ (.int .i64 ((fr.i:Int)+1))).heap[k]?=w.heap[k]?:=fun k f _=>d k (fun e=>f (e ▸ p.1));have v:w.heap.size<=(w.setCell ⟨y.c,2,none⟩ (.int .i64 ((fr.i:Int)+1))).heap.size:=by simp
 refine⟨g,⟨?_,?_,?_,?_,S.inpC,?_,?_,?_,?_,S.ob,S.oc,S.oo,S.oa,fun x a=>by simpa using S.lt x a,by simpa using S.low⟩,⟨Z,Z,Z,v,fun k f h=>n k h f,fun k f=>.inl f⟩⟩
 ·exact(d b (Ne.symm j.1)).trans S.box
 ·exact S.heap.keep v (fun x a O=>d x (fun e=>p.2 (e ▸ a)))
 ·exact Zd (Qam 6) n (fun _ h _=>h) S.mod
 ·exact Zd intsL n (fun _ h _=>h) S.inp
 ·have:=QE S.calls (w':=w.setCell ⟨y.c,2,none⟩ (.int .i64 ((fr.i:Int)+1))) (fun x a=>d x (fun e=>(j.2.2.1 x a).1 e.symm))
  rw[D] at this
  exact this
 ·exact Zk n (fun _ h _=>h) S.back
 ·exact QE S.out (fun x a=>d x (fun e=>(j.2.2.2 x a).1 e.symm))
 ·rw[l]
  have o:y∈y::B:=by simp
  refine⟨⟨K.keep (d _ (fun e=>(C y o).1 e.symm)) (fun x a=>d x (fun e=>?_)),I,J⟩,C,⟨⟨⟨?_,?_⟩,p,G⟩,u,?_⟩⟩
  ·subst e;exact Qfs S.frs (y:=g.t) (z:=y) (by simp) s a
  ·have:=Qo r.1 2 (.int .i64 ((fr.i:Int)+1))
   rw[this]
   simp
  ·exact r.2.keep (fun x a=>d x (fun e=>r.ne (e ▸ a)))
  ·refine QaO.keep (fun k _ h H=>⟨h,H⟩) F (fun z q=>?_);obtain⟨L,P,Q,N⟩:=QaO.mem F z q
   refine⟨d _ (u z q).1,fun x a=>d x (fun e=>?_)⟩
   subst e;exact Qfs S.frs (y:=z) (z:=y) (by rw[l];simp[q]) s a
theorem MAt.pop (S:MAt w b most m M sc sa g){y:FB}{n:List FB}{d:IFr}{rest:List IFr}(q:g.fs=y::n) (E:M.rest=d::rest)(C:g.vc=.slice a (M.rest.length+1) cap) :
 ∃ g',MAt (w.setCell ⟨b,4,none⟩ (.slice a M.rest.length cap)) b most m { M with top:=d,rest:=rest } sc sa g'/\QN g.A g'.A w (w.setCell ⟨b,4,none⟩ (.slice a M.rest.length cap))/\g'.t=y:=by
 have p:=S.frs;rw[q,E] at p
 obtain⟨⟨h1,X,h3⟩,V,p⟩:=p
 have l:∀ k,k≠b->(w.setCell ⟨b,4,none⟩ (.slice a M.rest.length cap)).heap[k]?=w.heap[k]?:=fun k i=>Xd _ _ _ _ i;have r:∀ k,¬ g.A k->k<w.heap.size->(w.setCell ⟨b,4,none⟩ (.slice a M.rest.length cap)).heap[k]?=w.heap[k]?:=fun k i _=>l k (fun e=>i (e ▸ S.ob.1));have D:w.heap.size<=(w.setCell ⟨b,4,none⟩ (.slice a M.rest.length cap)).heap.size:=by simp
 have L:(Value.slice a M.rest.length cap).ownBlock=g.vc.ownBlock:=by rw[C];cases a<;>rfl
 refine⟨{ g with vc:=.slice a M.rest.length cap,t:=y,fs:=n },⟨?_,?_,?_,?_,S.inpC,?_,?_,?_,?_,S.ob,fun x f=>S.oc x (by rw[<-L];exact f),S.oo,S.oa,fun x f=>by simpa using S.lt x f,by simpa using S.low⟩,⟨Z,Z,Z,D,fun k i h=>r k h i,fun k i=>.inl i⟩,Z⟩
 ·have:=Qo S.box 4 (.slice a M.rest.length cap)
  simpa using this
 ·exact S.heap.keep D (fun x f W=>l x (fun e=>S.ob.2 (e ▸ f)))
 ·exact Zd (Qam 6) r (fun _ h _=>h) S.mod
 ·exact Zd intsL r (fun _ h _=>h) S.inp
 ·have i:=QE S.calls (w':=w.setCell ⟨b,4,none⟩ (.slice a M.rest.length cap)) (fun x f=>l x (S.callsNe f).1);obtain⟨U,I⟩:=i
  have N:Qaz (g.t::g.fs)=Qaz (y::n)++[.pointer (some ⟨g.t.c,0,none⟩)]:=by rw[q];simp[Qaz]
  have B:(Qaz (y::n)).length=M.rest.length:=by have:=S.rows;rw[q] at this;simpa[Qaz] using this
  show World.ownsRow _ 0 _ 1 (.slice a M.rest.length cap) (rest.length+1) (Qaz (y::n));have s:rest.length+1=M.rest.length:=by rw[E];simp
  rw[s]
  refine⟨by rw[B];simp,?_⟩
  rcases I with ⟨u,F⟩|⟨Q,T,j,u,F,K,R,H,O,P⟩
  ·omega
  ·rw[C] at u
   cases u
   refine .inr ⟨Q,cap,j,Z,Xb _,K,by omega,H,O,?_⟩
   have:j.toList.take (M.rest.length*1)=(j.toList.take ((M.rest.length+1)*1)).take (M.rest.length*1):=by rw[List.take_take,Nat.min_eq_left (by omega)]
   rw[this,P,N,List.take_append_of_le_length (by omega),XO (by omega)]
 ·exact Zk r (fun _ h _=>h) S.back
 ·exact QE S.out (fun x f=>l x (S.outNe f))
 ·refine QaO.keep (fun k _ h G=>⟨h,G⟩) p (fun z J=>?_);have v:z∈g.t::g.fs:=by rw[q];exact List.mem_cons_of_mem _ J
  have o:=S.frNe v;exact⟨l _ o.1,fun x f=>l x (fun e=>o.2.1 (e ▸ f))⟩
end
section
variable (E:(Nat->Bool)->Tmp->Value->World->Prop) (W:(Nat->Bool)->World->Prop) (PX:List PanicEntry->World->Prop) (P:Program) (l:List Oper)
def Qhf (i:Nat) (o:Oper):Prop :=
 ∀ (S:Nat->Bool) a w,S i=false->Qgw o S->ZZ l S->W S w->QdP (E S) a w (Qbu o)->∀ K:Act->World->Prop,(∀ v w',(∀ t,Qk9 l S t->E S t (a.tmps.getD t undef) w->E (Zp i S) t (a.tmps.getD t undef) w')->W (Zp i S) w'->EO (E (Zp i S)) o.dst v w'->K (a.put o.dst v) w')->o.wp P a w K (PEx PX)
def QfY (i:Nat) (o:Oper):Prop:=∀ (S:Nat->Bool) (a:Act) w,S i=false->Qgw o S->ZZ l S->W S w->(W (Zp i S) w/\EO (E (Zp i S)) o.dst undef w/\∀ t,Qk9 l S t->E S t (a.tmps.getD t undef) w->E (Zp i S) t (a.tmps.getD t undef) w)
structure Qkk (outs:List Tmp) (a0:Act) (listed:Array Bool) (a:Act) (w:World):Prop where
 world:W (fun j=>listed.getD j false) w
 closed:ZZ l (fun j=>listed.getD j false)
 defers:a.defers=a0.defers
 size:a.tmps.size=a0.tmps.size
 outer:∀ t,t ∉ Ql l->a.tmps[t]?=a0.tmps[t]?
 outs:∀ t∈outs,t ∉ Ql l->E (fun j=>listed.getD j false) t (a.tmps.getD t undef) w
 known:∀ j o t,l[j]?=some o->o.dst=some t->listed.getD j false=true->E (fun j=>listed.getD j false) t (a.tmps.getD t undef) w
def AllOkY:Nat->List Oper->List Bool->Prop
 | i,o::r,true::bs=>Qhf E W PX P l i o/\AllOkY (i+1) r bs
 | i,o::r,false::bs=>QfY E W l i o/\AllOkY (i+1) r bs
 | _,_,_=>True
end
section
variable {P:Program}{E:(Nat->Bool)->Tmp->Value->World->Prop}{W:(Nat->Bool)->World->Prop}{PX:List PanicEntry->World->Prop}
theorem QeQ {a:List Oper}(gs:List (Nat × Option Bool)):∀ (l:List Oper) (k:Nat) (bs:List Bool),Qfu gs l bs=true->AllOkY E W PX P a k l bs->∀ (i:Nat) (o:Oper),l[i]?=some o->(onB gs o true=true/\Qhf E W PX P a (k+i) o)\/(onB gs o false=true/\QfY E W a (k+i) o)
 | [],_,_,_,_,_,_,h=>by simp at h
 | _::_,_,[],h,_,_,_,_=>by simp[Qfu] at h
 | x::l,k,b::bs,h,ha,i,o,ho=>by
   simp only[Qfu,Bool.and_eq_true] at h
   cases i with
   | zero =>
     simp at ho;subst ho
     cases b with
     | true=>exact .inl ⟨h.1,ha.1⟩
     | false=>exact .inr ⟨h.1,ha.1⟩
   | succ i =>
     simp at ho
     have e:k+(i+1)=k+1+i:=by omega
     rw[e]
     cases b with
     | true=>exact QeQ gs l (k+1) bs h.2 ha.2 i o ho
     | false=>exact QeQ gs l (k+1) bs h.2 ha.2 i o ho
theorem QeW {l:List Oper}{outs:List Tmp}{gs:List (Nat × Option Bool)}{a0:Act}
 (hX:∀ ch a w,a.defers=a0.defers->PX ch w->Q (.panic ch) a w) (hB:Qab l a0.tmps.size outs gs bs=true) (hG:∀ S,Z2 (E S) l.toArray gs) (hA:AllOkY E W PX P l 0 l bs)
 (ah:∀ (vs:Tmp->Value) (S:Nat->Bool) w',(∀ j,j<l.length->S j=true)->W S w'->(∀ t,(Ql l).contains t=true->E S t (vs t) w')->Q .normal (QT a0 vs (Ql l)) w') :
 ∀ (fuel:Nat) (listed:Array Bool) (a:Act) (w:World),listed.size=l.length->(listed.toList.filter (·==false)).length<=fuel->Qkk E W l outs a0 listed a w ->
  wpAny P .any l.toArray Q fuel listed a w:=by
 simp only[Qab,Bool.and_eq_true] at hB
 obtain⟨⟨⟨⟨⟨av,aw⟩,ac⟩,am⟩,ax⟩,aq⟩:=hB
 have ai:∀ (listed:Array Bool) (a:Act) (w:World),listed.size=l.length->Region.ready .any l.toArray listed=[]->Qkk E W l outs a0 listed a w->Q .normal a w:=by
  intro listed a w hs T f
  have M:∀ j,j<l.length->listed.getD j false=true:=by
   intro j
   induction j using Nat.strongRecOn with
   | _ j ih =>
     intro u
     cases q:listed.getD j false with
     | true=>rfl
     | false =>
       exfalso
       have:j∈Region.ready .any l.toArray listed:=by
        unfold Region.ready;refine List.mem_filter.2 ⟨by simpa using u,?_⟩
        have e1:listed.getD j true=false:=by
         have ap:j<listed.size:=by omega
         simp[Array.getD,ap] at q |-;exact q
        have e2:l.toArray[j]?=some l[j]:=by simp[u]
        rw[e1,e2]
        simp only[Bool.not_false,Bool.true_and,Option.map_some,Option.getD_some]
        rw[Array.all_eq_true_iff_forall_mem]
        intro e H
        cases K:Region.binds .any e with
        | false=>rfl
        | true =>
          have:=back_at l 0 j l[j] aq (by simp[u]) e H K
          simp only[Bool.not_true,Bool.false_or]
          exact ih e.on (by omega) (by omega)
       rw[T] at this
       cases this
  have ag:∀ t∈Ql l,E (fun j=>listed.getD j false) t (a.tmps.getD t undef) w/\t<a0.tmps.size:=by
   intro t s;obtain⟨o,ho,y⟩:=List.mem_filterMap.1 s
   obtain⟨j,u⟩:=List.getElem?_of_mem ho
   have D:j<l.length:=by
    rcases Nat.lt_or_ge j l.length with h | h
    ·exact h
    ·rw[Xk h] at u;cases u
   exact⟨f.known j o t u y (M j D),by simpa using Xe.1 ac t s⟩
  have H:a=QT a0 (fun t=>a.tmps.getD t undef) (Ql l):=by
   have e1:a.tmps=(QT a0 (fun t=>a.tmps.getD t undef) (Ql l)).tmps:=by
    refine Array.ext (by rw[Qaa,f.size]) fun t h1 V=>?_;have h3:t<a0.tmps.size:=by rw[<-f.size];exact h1
    have:=Qbf (fun t=>a.tmps.getD t undef) (Ql l) a0 t h3
    rw[Xj V] at this
    by_cases hm:t∈Ql l
    ·rw[Xs hm] at this
     simp only[Option.some.injEq] at this
     rw[this];simp[Array.getD,h1]
    ·rw[Xr hm,<-f.outer t hm,Xj h1] at this
     exact(Xn this).symm
   have e2:a.defers=(QT a0 (fun t=>a.tmps.getD t undef) (Ql l)).defers:=by rw[ZN,f.defers]
   cases a with
   | mk t d =>
     simp only at e1 e2
     generalize hp:QT a0 (fun x=>t.getD x undef) (Ql l)=p at e1 e2 |-
     cases p;simp only at e1 e2;rw[e1,e2]
  rw[H]
  exact ah _ _ _ M f.world fun t s=>(ag t (by simpa using s)).1
 intro fuel
 induction fuel with
 | zero =>
   intro listed a w hs hf f
   have T:Region.ready .any l.toArray listed=[]:=by
    rw[List.eq_nil_iff_forall_not_mem]
    intro i hi;obtain⟨h1,V⟩:=List.mem_filter.1 hi
    have D:i<l.length:=by simpa using h1
    simp only[Bool.and_eq_true,Bool.not_eq_true'] at V
    have:listed[i]'(by omega)=false:=by
     have:=V.1;simp[Array.getD,show i<listed.size by omega] at this;exact this
    have hm:false∈listed.toList.filter (·==false):=List.mem_filter.2 ⟨by rw[<-this];simp,by simp⟩
    have:=List.length_pos_of_mem hm
    omega
   exact⟨T,ai listed a w hs T f⟩
 | succ fuel ih =>
   intro listed a w hs hf f;refine⟨fun T=>ai listed a w hs T f,fun i hi=>?_⟩
   obtain⟨h1,V⟩:=List.mem_filter.1 hi
   have D:i<l.length:=by simpa using h1
   simp only[Bool.and_eq_true,Bool.not_eq_true'] at V
   obtain⟨ae,m⟩:=V
   have J:i<listed.size:=by omega
   have O:listed[i]=false:=by simp[Array.getD,J] at ae;exact ae
   have ho:l.toArray[i]?=some l[i]:=by simp[D]
   have n:l[i]?=some l[i]:=by simp[D]
   generalize a2:l[i]=o at ho n;rw[ho] at m
   simp only[Option.map_some,Option.getD_some] at m
   rw[Array.all_eq_true_iff_forall_mem] at m
   have z:∀ t∈o.looksAt l.toArray,E (fun j=>listed.getD j false) t (a.tmps.getD t undef) w:=by
    intro t s
    have:=Xe.1 (Xe.1 am o (Zm n)) t s
    rw[Bool.or_eq_true] at this
    rcases this with h | h
    ·simp only[Bool.and_eq_true,Bool.not_eq_true'] at h
     exact f.outs t (by simpa using h.1) (by simpa using h.2)
    ·obtain⟨k,hk,h⟩:=Array.any_eq_true.1 h
     simp only[Bool.and_eq_true,beq_iff_eq] at h
     obtain⟨q,y⟩:=h
     have R:=m _ (Array.getElem_mem hk);rw[q] at R
     simp only[Bool.not_true,Bool.false_or] at R
     generalize o.after[k]=e at *;obtain⟨X,au,az⟩:=Option.bind_eq_some_iff.1 y
     exact f.known e.on X t (by simpa using au) az R
   have ar:QdP (E (fun j=>listed.getD j false)) a w (Qbu o):=Qcd _ fun t s=>z t (by
    unfold Oper.looksAt;exact List.mem_append_left _ s)
   have hw:∀ b,onB gs o b=true->Region.wanted o (yielded l.toArray a.tmps)=b:=by
    intro b q;unfold onB at q;unfold Region.wanted
    cases hg:o.guard with
    | none=>rw[hg] at q;simp only at q |-;exact q.symm
    | some gw =>
      obtain⟨g,a1⟩:=gw
      rw[hg] at q
      simp only at q |-
      cases R:gs.lookup g with
      | none=>rw[R] at q;cases q
      | some c =>
        rw[R] at q
        simp only[beq_iff_eq] at q
        have hy:yielded l.toArray a.tmps g=c:=by
         unfold yielded;have ao:(g,c)∈gs:=mem_of_lookup gs g c R;have G:=Xe.1 av _ ao
         cases y:(l.toArray[g]?).bind (·.dst) with
         | none=>rw[y] at G;cases G
         | some t =>
           have hE:=z t (by unfold Oper.looksAt;rw[hg];simp only[y];simp);have I:=QbY gs (hG _) g c R t y _ _ hE;obtain⟨og,ay,an⟩:=Option.bind_eq_some_iff.1 y
           have ab:t<a.tmps.size:=by
            rw[f.size]
            have:=Xe.1 ac t (List.mem_filterMap.2 ⟨og,Zm (by simpa using ay),an⟩)
            simpa using this
           have s:a.tmps[t]?=some (a.tmps.getD t undef):=by simp[Array.getD,ab]
           simp only[Option.bind_some,s]
           cases c with
           | none=>simp only at I;rw[I];rfl
           | some b=>simp only at I;rw[I]
        rw[hy,q]
   have N:((listed.setIfInBounds i true).toList.filter (·==false)).length<=fuel:=by
    have h3:=filter_set listed.toList i (by simpa using J) (by simpa using O);rw[Array.toList_setIfInBounds]
    omega
   have r:(fun j=>(listed.setIfInBounds i true).getD j false)=Zp i (fun j=>listed.getD j false):=by
    funext j
    unfold Zp;by_cases e:j=i
    ·subst e;simp[Array.getD,J]
    ·have ad:i≠j:=fun x=>e x.symm;rw[Za,Array.getElem?_setIfInBounds_ne ad,<-Za]
     simp[e]
   have F:Qgw o (fun j=>listed.getD j false):=fun e H q=>by
    have:=m e H
    rw[q] at this
    simpa using this
   have aj:(fun j=>listed.getD j false) i=false:=by simp[Array.getD,J,O]
   have L:∀ v w',W (Zp i (fun j=>listed.getD j false)) w'->(∀ t,Qk9 l (fun j=>listed.getD j false) t->E (fun j=>listed.getD j false) t (a.tmps.getD t undef) w->E (Zp i (fun j=>listed.getD j false)) t (a.tmps.getD t undef) w')->EO (E (Zp i (fun j=>listed.getD j false))) o.dst v w'->Qkk E W l outs a0 (listed.setIfInBounds i true) (a.put o.dst v) w':=by
    intro v w' aa A I
    have B:∀ t,o.dst≠some t->(a.put o.dst v).tmps[t]?=a.tmps[t]?:=by
     intro t s
     cases y:o.dst with
     | none=>rfl
     | some d =>
       have:d≠t:=fun e=>s (by rw[y,e])
       simp[Act.put,this]
    have C:∀ (b c:Array Value) (t:Nat),b[t]?=c[t]?->b.getD t undef=c.getD t undef:=by
     intro b c t h;rw[Za,Za,h]
    refine⟨by rw[r];exact aa,?_,?_,?_,?_,?_,?_⟩
    ·rw[r]
     intro j X u hS e H K;unfold Zp at hS |-;by_cases e':j=i
     ·subst e';rw[n] at u
      obtain rfl:=Xn u
      have:=F e H K
      simp only at this
      simp[this]
     ·have:(j==i)=false:=by simpa using e'
      rw[this,Bool.false_or] at hS
      have:=f.closed j X u hS e H K
      simp only at this
      simp[this]
    ·rw[<-f.defers];cases o.dst<;>rfl
    ·rw[<-f.size];cases o.dst<;>simp[Act.put]
    ·intro t s;rw[B t (fun e=>s (List.mem_filterMap.2 ⟨o,Zm n,e⟩)),f.outer t s]
    ·intro t s hn;rw[C _ _ t (B t (fun e=>hn (List.mem_filterMap.2 ⟨o,Zm n,e⟩)))]
     rw[r]
     exact A _ (fun h=>absurd h hn) (f.outs t s hn)
    ·intro j X t u y al;by_cases U:j=i
     ·subst U;rw[n] at u
      obtain rfl:=Xn u
      have ab:t<a.tmps.size:=by
       rw[f.size]
       have:=Xe.1 ac t (List.mem_filterMap.2 ⟨o,Zm n,y⟩)
       simpa using this
      rw[y] at I |-
      have:(a.put (some t) v).tmps.getD t undef=v:=by simp[Act.put,Array.getD,ab]
      rw[this,r];exact I
     ·have ad:o.dst≠some t:=fun e=>U (nodup_apart l j i X o t aw u n y e);rw[C _ _ t (B t ad)]
      have ak:i≠j:=fun e=>U e.symm
      have af:listed.getD j false=true:=by
       rw[Za,Array.getElem?_setIfInBounds_ne ak] at al
       rw[Za];exact al
      rw[r]
      exact A _ (fun _=>⟨j,X,u,y,af⟩) (f.known j X t u y af)
   unfold wpOp;rw[ho]
   simp only
   rcases QeQ gs l 0 bs ax hA i o n with ⟨h,A⟩|⟨h,A⟩
   ·rw[hw true h,Xs Z]
    refine .inl (QlZ (fun a' w' hh=>hh) (fun e w' H=>by obtain⟨ch,rfl,hp⟩:=H;exact hX ch _ _ f.defers hp) ((XK i ▸ A) (fun j=>listed.getD j false) a w aj F f.closed f.world ar _ fun v w' T aa I=>?_));exact ih _ _ _ (by simpa using hs) N (L v w' aa T I)
   ·rw[hw false h]
    simp only[Bool.false_eq_true,if_false]
    have hO:=(XK i ▸ A) (fun j=>listed.getD j false) a w aj F f.closed f.world;exact ih _ _ _ (by simpa using hs) N (L undef w hO.1 hO.2.2 hO.2.1)
theorem ZK {l:List Oper}{outs:List Tmp}{gs:List (Nat × Option Bool)}{a:Act}
 (E:(Nat->Bool)->Tmp->Value->World->Prop) (W:(Nat->Bool)->World->Prop) (PX:List PanicEntry->World->Prop) (p:∀ ch a' w,a'.defers=a.defers->PX ch w->Q (.panic ch) a' w)
 (k:P.follows .mixedOrders=true)  (hn:a.tmps.size=m) (d:n<=m) (s:Qab l n outs gs bs=true)
 (f:∀ S,Z2 (E S) l.toArray gs) (g:W (fun _=>false) w.drew) (e:QaR (E (fun _=>false)) a w.drew outs)
 (q:AllOkY E W PX P l 0 l bs)
 (b:∀ (vs:Tmp->Value) (S:Nat->Bool) w',(∀ j,j<l.length->S j=true)->W S w'->(∀ t,(Ql l).contains t=true->E S t (vs t) w')->Q .normal (QT a vs (Ql l)) w') :
 (Code.region id l.toArray true).wp P Q a w:=by
 refine wp_region_any k ?_
 have c:(fun j=>(Array.replicate l.length false).getD j false)=fun _=>false:=by
  funext j
  rw[Za,Array.getElem?_replicate]
  split<;>rfl
 have u:l.toArray.size=l.length:=by simp
 rw[u]
 refine QeW p (Z7 (hn ▸ d) s) f q b _ _ _ _ (by simp) ?_ ⟨by rw[c];exact g,(by rw[c];intro j o _ h;cases h),Z,Z,fun _ _=>rfl,(fun t i _=>by rw[c];exact QaI outs e t i),?_⟩
 ·simp only[Array.toList_replicate]
  exact Zt (List.length_filter_le _ _) (by simp)
 ·intro j o t x v r;simp[Array.getD] at r
end
theorem Qah {S:Nat->Bool}(a:ZZ l S){i:Nat}{o:Oper}(c:l[q]?=some o) (d:Qbt l 30 o i=true) (b:S i=false):S q=false:=by
 cases h:S q with
 | false=>rfl
 | true =>
   have:S i=true:=QaU (all:=l) (S:=fun j=>S j=true) a 30 o d (a q o c h)
   rw[b] at this;cases this
theorem Qi3 {S:Nat->Bool}(a:ZZ l S){o:Oper}(b:Qgw o S){i:Nat}(c:Qbt l 30 o i=true):S i=true:=QaU (all:=l) (S:=fun j=>S j=true) a 30 o c b
theorem Qic {i:Nat}{S:Nat->Bool}(h:j≠i):Zp i S j=S j:=by
 have:(j==i)=false:=by simpa using h
 unfold Zp;rw[this,Bool.false_or]
theorem QlG {i:Nat}{S:Nat->Bool}:Zp i S i=true:=by simp[Zp]
abbrev zero4:Array Value:=#[.int .i64 0,.int .i64 0,.int .i64 0,.int .i64 0]
abbrev Qkp (r:Qj):Array Value:=#[.int .i64 r.kind,.int .i64 r.region,.int .i64 r.thing,.int .i64 r.n]
abbrev Qkb (w:World) (Z:Nat) (r:Qj):World:=(((w.setCell ⟨Z,0,none⟩ (.int .i64 r.kind)).setCell ⟨Z,1,none⟩ (.int .i64 r.region)).setCell ⟨Z,2,none⟩ (.int .i64 r.thing)).setCell ⟨Z,3,none⟩ (.int .i64 r.n)
structure HPs (w6:World) (HP:World->Prop) (HZ:Nat->World->Prop):Prop where
 down:∀ {Z w},HZ Z w->HP w
 up:∀ {w} (o:Obj),HP w->HZ w.heap.size (w.alloc o)
 below:∀ {w w'},HP w->Below w.heap.size w w'->HP w'
 belowZ:∀ {Z w w'},HZ Z w->Z<w.heap.size->Below w.heap.size w w'->HZ Z w'
 fill:∀ {Z w} (r:Qj),HZ Z w->w6.heap.size<=Z->HZ Z (Qkb w Z r)
 low:∀ {w},HP w->w6.heap.size<=w.heap.size
def WY (w6:World) (HP:World->Prop) (hk:Nat) (S:Nat->Bool) (w:World):Prop:=(S hk=false/\Below w6.heap.size w6 w)\/(S hk=true/\HP w)
def Qan (w6:World) (HZ:Nat->World->Prop) (hk st:Nat) (R:Qj->Prop) (S:Nat->Bool) (v:Value) (w:World):Prop :=
 ∃ Z,v=.pointer (some ⟨Z,0,none⟩)/\w6.heap.size<=Z/\(S st=false->Blk w Z zero4 183)/\(S st=true->∃ r:Qj,R r/\Blk w Z (Qkp r) 183)/\(S hk=true->HZ Z w)
section
variable {Z:Nat}{w6 w w':World}{HP:World->Prop}{HZ:Nat->World->Prop}{hk st i:Nat}{S:Nat->Bool}{R:Qj->Prop}{v:Value}
theorem WY.pre (h:WY w6 HP hk S w) (a:S hk=false):Below w6.heap.size w6 w:=by
 rcases h with h | h
 ·exact h.2
 ·rw[a] at h;cases h.1
theorem WY.low (h:WY w6 HP hk S w) (P:HPs w6 HP HZ):w6.heap.size<=w.heap.size:=by
 rcases h with h | h
 ·exact h.2.size
 ·exact P.low h.2
theorem WY.on (h:WY w6 HP hk S w) (P:HPs w6 HP HZ) (d:i≠hk) (b:Below w.heap.size w w'):WY w6 HP hk (Zp i S) w':=by
 have e:Zp i S hk=S hk:=Qic (fun e=>d e.symm);rcases h with ⟨c,a⟩|⟨c,a⟩
 ·exact .inl ⟨by rw[e];exact c,a.trans (b.mono a.size)⟩
 ·exact .inr ⟨by rw[e];exact c,P.below a b⟩
theorem WY.did (p:HP w'):WY w6 HP hk (Zp hk S) w':=.inr ⟨QlG,p⟩
theorem WY.fin (h:WY w6 HP hk S w) (a:S hk=true):HP w:=by
 rcases h with h | h
 ·rw[a] at h;cases h.1
 ·exact h.2
theorem Qan.lt (h:Qan w6 HZ hk st R S v w):∃ Z,v=.pointer (some ⟨Z,0,none⟩)/\w6.heap.size<=Z/\Z<w.heap.size:=by
 obtain⟨Z,e,a,d,c,f⟩:=h
 refine⟨Z,e,a,?_⟩
 cases hS:S st with
 | false=>exact XC (d hS)
 | true=>obtain⟨r,_,b⟩:=c hS;exact XC b
theorem Qan.on (h:Qan w6 HZ hk st R S v w) (P:HPs w6 HP HZ) (q:i≠hk) (n:i≠st) (b:Below w.heap.size w w'):Qan w6 HZ hk st R (Zp i S) v w':=by
 obtain⟨s,f,_,a⟩:=h.lt
 obtain⟨Z,e,j,p,m,o⟩:=h
 have a:Z<w.heap.size:=by rw[e] at f;cases f;exact a
 have g:Zp i S hk=S hk:=Qic (fun e=>q e.symm);have d:Zp i S st=S st:=Qic (fun e=>n e.symm);refine⟨Z,e,j,fun c=>?_,fun c=>?_,fun c=>?_⟩
 ·exact(b.block Z a).trans (p (by rw[<-d];exact c))
 ·obtain⟨r,k,l⟩:=m (by rw[<-d];exact c)
  exact⟨r,k,(b.block Z a).trans l⟩
 ·exact P.belowZ (o (by rw[<-g];exact c)) a b
theorem Qan.did (h:Qan w6 HZ hk st R S v w) (l:hk≠st) (k:∀ Z,w6.heap.size<=Z->Z<w.heap.size->w'.heap[Z]?=w.heap[Z]?/\HZ Z w'):Qan w6 HZ hk st R (Zp hk S) v w':=by
 obtain⟨n,f,_,a⟩:=h.lt
 obtain⟨Z,e,b,m,j,o⟩:=h
 have a:Z<w.heap.size:=by rw[e] at f;cases f;exact a
 have d:Zp hk S st=S st:=Qic (fun e=>l e.symm);refine⟨Z,e,b,fun c=>?_,fun c=>?_,fun _=>(k Z b a).2⟩
 ·exact(k Z b a).1.trans (m (by rw[<-d];exact c))
 ·obtain⟨r,g,i⟩:=j (by rw[<-d];exact c)
  exact⟨r,g,(k Z b a).1.trans i⟩
theorem Qan.new (P:HPs w6 HP HZ) (a:WY w6 HP hk S w) (b:S st=false) (c:i≠hk) (d:i≠st):Qan w6 HZ hk st R (Zp i S) (.pointer (some ⟨w.heap.size,0,none⟩)) (w.alloc (.cells zero4 183)):=by
 refine⟨_,Yz,a.low P,fun _=>Qh _ _ _,fun h=>?_,fun h=>?_⟩
 ·rw[Qic (fun e=>d e.symm),b] at h;cases h
 ·rw[Qic (fun e=>c e.symm)] at h
  exact P.up _ (a.fin h)
theorem Qan.fill (P:HPs w6 HP HZ) (h:Qan w6 HZ hk st R S (.pointer (some ⟨Z,0,none⟩)) w) (d:S st=false) (a:st≠hk) (r:Qj) (c:R r):Qan w6 HZ hk st R (Zp st S) (.pointer (some ⟨Z,0,none⟩)) (Qkb w Z r):=by
 obtain⟨i,e,b,g,j,f⟩:=h
 cases e
 refine⟨Z,Yz,b,fun h=>?_,fun _=>⟨r,c,Z1 (g d) _ _ _ _⟩,fun h=>?_⟩
 ·rw[QlG] at h;cases h
 ·rw[Qic (fun e=>a e.symm)] at h
  exact P.fill r (f h) b
theorem Qan.fillW (P:HPs w6 HP HZ) (h:Qan w6 HZ hk st R S (.pointer (some ⟨Z,0,none⟩)) w) (b:S hk=true) (a:st≠hk) (r:Qj):WY w6 HP hk (Zp st S) (Qkb w Z r):=by
 obtain⟨f,e,c,i,g,d⟩:=h
 cases e
 exact .inr ⟨by rw[Qic (fun e=>a e.symm)];exact b,P.down (P.fill r (d b) c)⟩
theorem Qan.full (h:Qan w6 HZ hk st R S v w) (c:S st=true) (a:S hk=true):∃ Z,v=.pointer (some ⟨Z,0,none⟩)/\w6.heap.size<=Z/\(∃ r:Qj,R r/\Blk w Z (Qkp r) 183)/\HZ Z w:=by
 obtain⟨Z,e,b,g,d,f⟩:=h
 exact⟨Z,e,b,d c,f a⟩
theorem Qd9 (a:World):HPs a (fun w=>Below a.heap.size a w) (fun Z w=>Below a.heap.size a w/\a.heap.size<=Z) where
 down:=fun h=>h.1
 up:=fun o h=>⟨h.alloc h.size o,h.size⟩
 below:=fun h b=>h.trans (b.mono h.size)
 belowZ:=fun h _ b=>⟨h.1.trans (b.mono h.1.size),h.2⟩
 fill:=fun r h c=>⟨Qbv h.1 c _ _ _ _,h.2⟩
 low:=fun h=>h.size
end
def gdV (v:Qj):Prop:=v.ok/\v.bare=v
theorem QaV {v:List Qj}{a:Int}{x:Qj}(h:QA v a=some x):x∈v:=by
 unfold QA at h;split at h
 ·cases h
 ·exact Zm h
theorem ZL {v:List Qj}{a k:Int}{x:Qj}(h:QP v a k=some x):QA v a=some x/\x.kind=k:=by
 unfold QP at h
 cases e:QA v a with
 | none=>rw[e] at h;cases h
 | some y =>
   rw[e] at h
   simp only at h
   split at h
   ·cases h;exact⟨Z,by assumption⟩
   ·cases h
theorem Qac {v:List Qj}{a k:Int}(h:QP v a k=none):QA v a=none\/∃ x,QA v a=some x/\x.kind≠k:=by
 unfold QP at h
 cases e:QA v a with
 | none=>exact .inl Z
 | some y =>
   rw[e] at h
   simp only at h
   split at h
   ·cases h
   ·exact .inr ⟨y,Z,by assumption⟩
section
variable {M:IM}{x:Qz}
theorem QmC (h:x.op=6):M.mem x=match QP M.top.v x.a 3 with
 | none=>none
 | some y=>if (M.h.get y x.k).2=0 then some (M.push [(M.h.get y x.k).1]) else none:=by
 unfold IM.mem
 cases hk:QP M.top.v x.a 3 with
 | none =>
   rcases Qac hk with e | ⟨y,e,b⟩
   ·rw[e]
   ·rw[e];simp[h,b]
 | some y =>
   obtain⟨e,b⟩:=ZL hk
   rw[e];simp[h,b]
theorem Qmb (h:x.op=7):M.mem x=match QP M.top.v x.a 3 with
 | none=>none
 | some y=>match QA M.top.v x.b with
   | none=>none
   | some z=>if (M.h.set y x.k z).1=0 then some { M with h:=(M.h.set y x.k z).2 } else none:=by
 unfold IM.mem
 cases hk:QP M.top.v x.a 3 with
 | none =>
   rcases Qac hk with e | ⟨y,e,c⟩
   ·rw[e]
   ·rw[e];simp[h,c];cases QA M.top.v x.b<;>rfl
 | some y =>
   obtain⟨e,c⟩:=ZL hk
   rw[e];simp[h,c];cases QA M.top.v x.b<;>rfl
theorem Qmy (h:x.op=9):M.mem x=match QP M.top.v x.a 4 with
 | none=>none
 | some y=>match Qt M.top.v x.b with
   | none=>none
   | some n=>if (M.h.get y n).2=1 then some (M.over 2) else if (M.h.get y n).2=0 then some (M.push [(M.h.get y n).1]) else none:=by
 unfold IM.mem
 cases hk:QP M.top.v x.a 4 with
 | none =>
   rcases Qac hk with e | ⟨y,e,c⟩
   ·rw[e]
   ·rw[e];simp[h,c];cases Qt M.top.v x.b<;>rfl
 | some y =>
   obtain⟨e,c⟩:=ZL hk
   rw[e];simp[h,c];cases Qt M.top.v x.b<;>rfl
theorem Qha {h:Qc}{y z:Qj}{n:Int}(b:y.kind=4) (c:z.kind≠1):(h.set y n z).1=20:=by
 unfold Qc.set
 cases ht:h.thing y with
 | none=>rfl
 | some t =>
   cases hp:h.place y.region with
   | none=>rfl
   | some p =>
     simp only
     have:=(Qc.thing_iff.1 ht).2
     obtain⟨d,_,_,_,a⟩:=this
     rw[Xs ⟨by rw[a];simp[b],c⟩]
theorem QkH {z:Qj}(h:gdV z) (a:z.kind=1):z=Qa8 z.n:=by
 have:=h.2
 unfold Qj.bare at this;rw[Xs a] at this
 exact this.symm
theorem QlK (h:x.op=10) (g:∀ v∈M.top.v,gdV v):M.mem x=match QP M.top.v x.a 4 with
 | none=>none
 | some y=>match Qt M.top.v x.b with
   | none=>none
   | some n=>match QA M.top.v x.c with
     | none=>none
     | some z=>if (M.h.set y n z).1=1 then some (M.over 2) else if (M.h.set y n z).1=0 then some { M with h:=(M.h.set y n z).2 } else none:=by
 unfold IM.mem
 cases hk:QP M.top.v x.a 4 with
 | none =>
   rcases Qac hk with e | ⟨y,e,f⟩
   ·rw[e]
   ·rw[e];simp[h,f]
    cases Qt M.top.v x.b with
    | none=>rfl
    | some n=>simp only;cases Qt M.top.v x.c<;>rfl
 | some y =>
   obtain⟨e,f⟩:=ZL hk
   rw[e];simp[h,f]
   cases Qt M.top.v x.b with
   | none=>rfl
   | some n =>
     simp only
     have i:Qt M.top.v x.c=match QA M.top.v x.c with | none=>none | some x=>if x.kind=1 then some x.n else none:=rfl
     rw[i]
     cases hz:QA M.top.v x.c with
     | none=>rfl
     | some z =>
       simp only
       by_cases d:z.kind=1
       ·rw[Xs d]
        simp only
        rw[<-QkH (g z (QaV hz)) d]
       ·rw[Xr d,Qha f d]
        rfl
theorem QlA (h:x.op=11):M.mem x=match QP M.top.v x.a 4 with
 | none=>none
 | some y=>if (M.h.len y).2=0 then some (M.push [Qa8 (M.h.len y).1]) else none:=by
 unfold IM.mem
 cases hk:QP M.top.v x.a 4 with
 | none =>
   rcases Qac hk with e | ⟨y,e,b⟩
   ·rw[e]
   ·rw[e];simp[h,b]
 | some y =>
   obtain⟨e,b⟩:=ZL hk
   rw[e];simp[h,b]
end
abbrev QZ (x:Qz) (i:IP):Array Value:=#[.int .i64 x.op,.int .i64 x.a,.int .i64 x.b,.int .i64 x.c,.int .i64 x.k,.int .i64 x.n,.slice i.pR x.regs.length i.cR,.slice i.pA x.args.length i.cA]
theorem Ask.split {α:Type}{o:Option α}{V:α->Value}{e:Ending}(h:Ask o V e):(∃ x,o=some x/\e=.returned (V x))\/(o=none/\e=.panicked stuckP):=by
 cases o with
 | none=>exact .inr ⟨Z,h⟩
 | some x=>exact .inl ⟨x,Z,h⟩
def Qh8 (w6:World) (h:Qc) (b c X bh:Nat) (xa xb xc xk:Int) (oa ob oc:Option Qj) (on:Option Int) (S:Nat->Bool) (t:Tmp) (v:Value) (w:World):Prop :=
 match ([(26,fun _ v _=>(fun v=>∃ y,oa=some y/\v=QF y) v),(29,fun _ v _=>(fun v=>∃ y,oa=some y/\v=.tuple #[QF (h.get y xk).1,.int .i64 (h.get y xk).2]) v),(18,fun _ v _=>(fun v=>∃ y,oa=some y/\v=.tuple #[QF (h.get y xk).1,.int .i64 (h.get y xk).2]) v),(30,fun _ v _=>(fun v=>∃ y,oa=some y/\v=QF (h.get y xk).1) v),(31,fun _ v _=>(fun v=>∃ y,oa=some y/\v=.int .i64 (h.get y xk).2) v),(7,fun _ v _=>(fun v=>∃ y,oa=some y/\v=.int .i64 (h.get y xk).2) v),(6,Qan w6 (fun Z w=>Below w6.heap.size w6 w/\w6.heap.size<=Z) 10 15 (fun r=>∃ y,oa=some y/\r=(h.get y xk).1))]:List (Tmp × ((Nat->Bool)->Value->World->Prop))).lookup t with
 | some p=>p S v w
 | none=>v=(([(0,.pointer (some ⟨b,0,none⟩)),(1,.pointer (some ⟨c,0,none⟩)),(5,.pointer (some ⟨X,0,none⟩)),(19,.pointer (some ⟨b,0,none⟩)),(20,.pointer (some ⟨b,0,none⟩)),(21,.pointer (some ⟨b,0,none⟩)),(22,.pointer (some ⟨bh,0,none⟩)),(23,.pointer (some ⟨c,0,none⟩)),(24,.pointer (some ⟨X,1,none⟩)),(25,.int .i64 xa),(27,.pointer (some ⟨X,4,none⟩)),(28,.int .i64 xk)]:List (Tmp × Value)).lookup t).getD undef
theorem Qbl {h:Qc}{oa ob oc:Option Qj}{on:Option Int}{S:Nat->Bool}{t:Tmp}(g:HPs w6 (fun w=>Below w6.heap.size w6 w) (fun Z w=>Below w6.heap.size w6 w/\w6.heap.size<=Z))(k:i≠10) (j:i≠15) (f:Below w.heap.size w w') (d:Qh8 w6 h b c X bh xa xb xc xk oa ob oc on S t u w):Qh8 w6 h b c X bh xa xb xc xk oa ob oc on (Zp i S) t u w':=by
 unfold Qh8 at d |-;split at d
 ·rename_i p a
  simp only[List.lookup_cons,List.lookup_nil] at a
  split at a
  ·rename_i e
   cases a
   exact d
  ·split at a
   ·rename_i e
    cases a
    exact d
   ·split at a
    ·rename_i e
     cases a
     exact d
    ·split at a
     ·rename_i e
      cases a
      exact d
     ·split at a
      ·rename_i e
       cases a
       exact d
      ·split at a
       ·rename_i e
        cases a
        exact d
       ·split at a
        ·rename_i e
         cases a
         exact d.on g k j f
        ·cases a
 ·exact d
theorem Qlz {h:Qc}{oa ob oc:Option Qj}{on:Option Int}{S:Nat->Bool}{t:Tmp}(k:∀ Z,w6.heap.size<=Z->Z<w.heap.size->w'.heap[Z]?=w.heap[Z]?/\(fun Z w=>Below w6.heap.size w6 w/\w6.heap.size<=Z) Z w') (d:Qh8 w6 h b c X bh xa xb xc xk oa ob oc on S t u w):Qh8 w6 h b c X bh xa xb xc xk oa ob oc on (Zp 10 S) t u w':=by
 unfold Qh8 at d |-;split at d
 ·rename_i p a
  simp only[List.lookup_cons,List.lookup_nil] at a
  split at a
  ·rename_i e
   cases a
   exact d
  ·split at a
   ·rename_i e
    cases a
    exact d
   ·split at a
    ·rename_i e
     cases a
     exact d
    ·split at a
     ·rename_i e
      cases a
      exact d
     ·split at a
      ·rename_i e
       cases a
       exact d
      ·split at a
       ·rename_i e
        cases a
        exact d
       ·split at a
        ·rename_i e
         cases a
         exact d.did (by decide) k
        ·cases a
 ·exact d
theorem Qlo {h:Qc}{oa ob oc:Option Qj}{on:Option Int}{S:Nat->Bool}{t:Tmp}(j:HPs w6 (fun w=>Below w6.heap.size w6 w) (fun Z w=>Below w6.heap.size w6 w/\w6.heap.size<=Z)){Z:Nat}{r:Qj}(g:S 15=false) (k:S 10=true) (f:(fun r=>∃ y,oa=some y/\r=(h.get y xk).1) r) (i:t=6->u=.pointer (some ⟨Z,0,none⟩)) (d:Qh8 w6 h b c X bh xa xb xc xk oa ob oc on S t u w):Qh8 w6 h b c X bh xa xb xc xk oa ob oc on (Zp 15 S) t u (Qkb w Z r):=by
 unfold Qh8 at d |-;split at d
 ·rename_i p a
  simp only[List.lookup_cons,List.lookup_nil] at a
  split at a
  ·rename_i e
   cases a
   exact d
  ·split at a
   ·rename_i e
    cases a
    exact d
   ·split at a
    ·rename_i e
     cases a
     exact d
    ·split at a
     ·rename_i e
      cases a
      exact d
     ·split at a
      ·rename_i e
       cases a
       exact d
      ·split at a
       ·rename_i e
        cases a
        exact d
       ·split at a
        ·rename_i e
         cases a
         (obtain rfl:=i (by simpa using e);exact d.fill j g (by decide) r f)
        ·cases a
 ·exact d
theorem iq3 {h:Qc}{oa ob oc:Option Qj}{on:Option Int}(q0:w6.cell? ⟨b,0,none⟩=some (.pointer (some ⟨bh,0,none⟩))) (x1:w6.cell? ⟨X,1,none⟩=some (.int .i64 xa)) (x2:w6.cell? ⟨X,2,none⟩=some (.int .i64 xb)) (x3:w6.cell? ⟨X,3,none⟩=some (.int .i64 xc)) (x4:w6.cell? ⟨X,4,none⟩=some (.int .i64 xk)) (V:Hid (∀ wx,Below w6.heap.size w6 wx->Calls prog 150 #[.pointer (some ⟨c,0,none⟩),.int .i64 xa,.int .i64 3] wx fun e w'=>Ask oa QF e/\Below wx.heap.size wx w')) (CG:Hid (∀ y k wx,oa=some y->Below w6.heap.size w6 wx->Calls prog 161 #[.pointer (some ⟨bh,0,none⟩),QF y,.int .i64 k] wx fun e w'=>e=.returned (.tuple #[QF (h.get y k).1,.int .i64 (h.get y k).2])/\Below wx.heap.size wx w')) (p:HPs w6 (fun w=>Below w6.heap.size w6 w) (fun Z w=>Below w6.heap.size w6 w/\w6.heap.size<=Z))
 (a:Act) (m:Nat) (hn:a.tmps.size=m) (O:124<=m) (h0:a.tmps.getD 0 undef=.pointer (some ⟨b,0,none⟩)) (h1:a.tmps.getD 1 undef=.pointer (some ⟨c,0,none⟩)) (h5:a.tmps.getD 5 undef=.pointer (some ⟨X,0,none⟩))
 (hX:∀ ch a' w',a'.defers=a.defers->(fun ch w=>ch=stuckP/\(oa=none)/\Below w6.heap.size w6 w) ch w'->Q (.panic ch) a' w')
 (hend:∀ vs w',(fun v=>∃ y,oa=some y/\v=.int .i64 (h.get y xk).2) (vs 7)->(∃ Z,vs 6=.pointer (some ⟨Z,0,none⟩)/\w6.heap.size<=Z/\(∃ r:Qj,(fun r=>∃ y,oa=some y/\r=(h.get y xk).1) r/\Blk w' Z (Qkp r) 183)/\(fun Z w=>Below w6.heap.size w6 w/\w6.heap.size<=Z) Z w')->(fun w=>Below w6.heap.size w6 w) w'->Q .normal (QT a vs [19,20,21,22,23,24,25,26,27,28,29,18,30,31,6,7]) w') :
 Code.wp prog ((Tryz.f124.body.bind (Qn 3)).getD .skip) Q a w6:=by
 conv=>arg 2;whnf
 refine ZK (Qh8 w6 h b c X bh xa xb xc xk oa ob oc on) (WY w6 (fun w=>Below w6.heap.size w6 w) 10) (fun ch w=>ch=stuckP/\(oa=none)/\Below w6.heap.size w6 w) hX (outs:=[0,1,5]) (gs:=[]) (bs:=[true,true,true,true,true,true,true,true,true,true,true,true,true,true,true,true,true]) (by kernel_rfl) (n:=124) hn O (by kernel_rfl) ?hG (.inl ⟨Yz,QH Zr 1⟩) ⟨h0,h1,h5,Y⟩ ?hA ?hend
 case hG=>exact fun S=>trivial
 case hend=>exact fun vs S w' E f j=>hend vs w' (j 7 (by kernel_rfl)) (Qan.full (show Qan w6 (fun Z w=>Below w6.heap.size w6 w/\w6.heap.size<=Z) 10 15 (fun r=>∃ y,oa=some y/\r=(h.get y xk).1) S (vs 6) w' from j 6 (by kernel_rfl)) (E 15 (by decide)) (E 10 (by decide))) (f.fin (E 10 (by decide)))
 case hA =>
  refine⟨fun S a w s A u f j K o=>?_,?_⟩
  ·obtain⟨d,-⟩:=j
   have g:S 10=false:=Qah u (q:=10) Yz (by kernel_rfl) s;have z:=f.pre g;have d:a.tmps.getD 0 undef=.pointer (some ⟨b,0,none⟩):=d;go_simp;exact o _ _ (fun t _ l=>Qbl p (i:=0) (by decide) (by decide) Zr l) (f.on p (i:=0) (by decide) Zr) Yz
  refine⟨fun S a w s A u f j K o=>?_,?_⟩
  ·obtain⟨d,-⟩:=j
   have g:S 10=false:=Qah u (q:=10) Yz (by kernel_rfl) s;have z:=f.pre g;have d:a.tmps.getD 19 undef=.pointer (some ⟨b,0,none⟩):=d;go_simp;exact o _ _ (fun t _ l=>Qbl p (i:=1) (by decide) (by decide) Zr l) (f.on p (i:=1) (by decide) Zr) Yz
  refine⟨fun S a w s A u f j K o=>?_,?_⟩
  ·obtain⟨d,-⟩:=j
   have g:S 10=false:=Qah u (q:=10) Yz (by kernel_rfl) s;have z:=f.pre g;have d:a.tmps.getD 20 undef=.pointer (some ⟨b,0,none⟩):=d;go_simp;exact o _ _ (fun t _ l=>Qbl p (i:=2) (by decide) (by decide) Zr l) (f.on p (i:=2) (by decide) Zr) Yz
  refine⟨fun S a w s A u f j K o=>?_,?_⟩
  ·obtain⟨d,-⟩:=j
   have g:S 10=false:=Qah u (q:=10) Yz (by kernel_rfl) s;have z:=f.pre g;have d:a.tmps.getD 21 undef=.pointer (some ⟨b,0,none⟩):=d;have P:=QI q0 z;go_simp;exact o _ _ (fun t _ l=>Qbl p (i:=3) (by decide) (by decide) Zr l) (f.on p (i:=3) (by decide) Zr) Yz
  refine⟨fun S a w s A u f j K o=>?_,?_⟩
  ·obtain⟨d,-⟩:=j
   have g:S 10=false:=Qah u (q:=10) Yz (by kernel_rfl) s;have z:=f.pre g;have d:a.tmps.getD 1 undef=.pointer (some ⟨c,0,none⟩):=d;go_simp;exact o _ _ (fun t _ l=>Qbl p (i:=4) (by decide) (by decide) Zr l) (f.on p (i:=4) (by decide) Zr) Yz
  refine⟨fun S a w s A u f j K o=>?_,?_⟩
  ·obtain⟨d,-⟩:=j
   have g:S 10=false:=Qah u (q:=10) Yz (by kernel_rfl) s;have z:=f.pre g;have d:a.tmps.getD 5 undef=.pointer (some ⟨X,0,none⟩):=d;go_simp;exact o _ _ (fun t _ l=>Qbl p (i:=5) (by decide) (by decide) Zr l) (f.on p (i:=5) (by decide) Zr) Yz
  refine⟨fun S a w s A u f j K o=>?_,?_⟩
  ·obtain⟨d,-⟩:=j
   have g:S 10=false:=Qah u (q:=10) Yz (by kernel_rfl) s;have z:=f.pre g;have d:a.tmps.getD 24 undef=.pointer (some ⟨X,1,none⟩):=d;have P:=QI x1 z;go_simp;exact o _ _ (fun t _ l=>Qbl p (i:=6) (by decide) (by decide) Zr l) (f.on p (i:=6) (by decide) Zr) Yz
  refine⟨fun S a w s A u f j K o=>?_,?_⟩
  ·obtain⟨d,B,-⟩:=j
   have g:S 10=false:=Qah u (q:=10) Yz (by kernel_rfl) s;have z:=f.pre g;have d:a.tmps.getD 23 undef=.pointer (some ⟨c,0,none⟩):=d;have B:a.tmps.getD 25 undef=.int .i64 xa:=B;go_simp;refine Xm (V.out w z) ?_;rintro r7 W ⟨h7,H⟩;rcases h7.split with ⟨y7,M,rfl⟩|⟨M,rfl⟩
   rotate_left
   ·exact⟨_,Yz,Yz,M,z.trans (H.mono z.size)⟩
   go_simp;exact o _ _ (fun t _ l=>Qbl p (i:=7) (by decide) (by decide) H l) (f.on p (i:=7) (by decide) H) ⟨y7,M,Yz⟩
  refine⟨fun S a w s A u f j K o=>?_,?_⟩
  ·obtain⟨d,-⟩:=j
   have g:S 10=false:=Qah u (q:=10) Yz (by kernel_rfl) s;have z:=f.pre g;have d:a.tmps.getD 5 undef=.pointer (some ⟨X,0,none⟩):=d;go_simp;exact o _ _ (fun t _ l=>Qbl p (i:=8) (by decide) (by decide) Zr l) (f.on p (i:=8) (by decide) Zr) Yz
  refine⟨fun S a w s A u f j K o=>?_,?_⟩
  ·obtain⟨d,-⟩:=j
   have g:S 10=false:=Qah u (q:=10) Yz (by kernel_rfl) s;have z:=f.pre g;have d:a.tmps.getD 27 undef=.pointer (some ⟨X,4,none⟩):=d;have P:=QI x4 z;go_simp;exact o _ _ (fun t _ l=>Qbl p (i:=9) (by decide) (by decide) Zr l) (f.on p (i:=9) (by decide) Zr) Yz
  refine⟨fun S a w s A u f j K o=>?_,?_⟩
  ·obtain⟨d,B,T,-⟩:=j
   have z:=f.pre s;have d:a.tmps.getD 22 undef=.pointer (some ⟨bh,0,none⟩):=d;have B:(fun v=>∃ y,oa=some y/\v=QF y) (a.tmps.getD 26 undef):=B;generalize L:a.tmps.getD 26 undef=R at B;have T:a.tmps.getD 28 undef=.int .i64 xk:=T;obtain⟨y,C,rfl⟩:=B
   go_simp;refine Xm (CG.out y xk w C z) ?_;rintro r7 W ⟨rfl,H⟩;go_simp;exact o _ _ (fun t _ l=>Qlz (fun Z hz hl=>⟨H.block Z hl,z.trans (H.mono z.size),hz⟩) l) (WY.did (z.trans (H.mono z.size))) ⟨y,C,Yz⟩
  refine⟨fun S a w s A u f j K o=>?_,?_⟩
  ·obtain⟨d,-⟩:=j
   have d:(fun v=>∃ y,oa=some y/\v=.tuple #[QF (h.get y xk).1,.int .i64 (h.get y xk).2]) (a.tmps.getD 29 undef):=d;generalize D:a.tmps.getD 29 undef=F at d;obtain⟨y,C,rfl⟩:=d
   go_simp;exact o _ _ (fun t _ l=>Qbl p (i:=11) (by decide) (by decide) Zr l) (f.on p (i:=11) (by decide) Zr) ⟨y,C,Yz⟩
  refine⟨fun S a w s A u f j K o=>?_,?_⟩
  ·obtain⟨d,-⟩:=j
   have d:(fun v=>∃ y,oa=some y/\v=.tuple #[QF (h.get y xk).1,.int .i64 (h.get y xk).2]) (a.tmps.getD 18 undef):=d;generalize D:a.tmps.getD 18 undef=F at d;obtain⟨y,C,rfl⟩:=d
   go_simp;exact o _ _ (fun t _ l=>Qbl p (i:=12) (by decide) (by decide) Zr l) (f.on p (i:=12) (by decide) Zr) ⟨y,C,Yz⟩
  refine⟨fun S a w s A u f j K o=>?_,?_⟩
  ·obtain⟨d,-⟩:=j
   have d:(fun v=>∃ y,oa=some y/\v=.tuple #[QF (h.get y xk).1,.int .i64 (h.get y xk).2]) (a.tmps.getD 18 undef):=d;generalize D:a.tmps.getD 18 undef=F at d;obtain⟨y,C,rfl⟩:=d
   go_simp;exact o _ _ (fun t _ l=>Qbl p (i:=13) (by decide) (by decide) Zr l) (f.on p (i:=13) (by decide) Zr) ⟨y,C,Yz⟩
  refine⟨fun S a w s A u f j K o=>?_,?_⟩
  ·clear j;have G:S 15=false:=Qah u (q:=15) Yz (by kernel_rfl) s;go_simp;exact o _ _ (fun t _ l=>Qbl p (i:=14) (by decide) (by decide) (QY _ _) l) (f.on p (i:=14) (by decide) (QY _ _)) (Qan.new p f G (i:=14) (by decide) (by decide))
  refine⟨fun S a w s A u f j K o=>?_,?_⟩
  ·obtain⟨d,B,-⟩:=j
   have d:Qan w6 (fun Z w=>Below w6.heap.size w6 w/\w6.heap.size<=Z) 10 15 (fun r=>∃ y,oa=some y/\r=(h.get y xk).1) S (a.tmps.getD 6 undef) w:=d;generalize D:a.tmps.getD 6 undef=F at d;have B:(fun v=>∃ y,oa=some y/\v=QF (h.get y xk).1) (a.tmps.getD 30 undef):=B;generalize L:a.tmps.getD 30 undef=R at B;have G:S 15=false:=s;have I:S 10=true:=Qi3 u A (by kernel_rfl);have kb:=d;obtain⟨Z,rfl,hZ,N,-,-⟩:=d
   have x:=N G;obtain⟨y,C,rfl⟩:=B
   have U:∃ y0,oa=some y0/\(h.get y xk).1=(h.get y0 xk).1:=⟨y,C,Yz⟩;obtain⟨r,J⟩:∃ r,(h.get y xk).1=r:=⟨_,Yz⟩
   rw[J] at L U
   clear J;have P:=Qa x 0 _ Yz;have c1:=Qa x 1 _ Yz;have c2:=Qa x 2 _ Yz;have c3:=Qa x 3 _ Yz;have z0:=Qf x 0;have z1:=Qf x 1;have z2:=Qf x 2;have z3:=Qf x 3;go_simp;exact o undef _ (fun t _ l=>Qlo p G I U (fun e=>by subst e;exact D) l) (Qan.fillW p kb I (by decide) r) Y
  refine⟨fun S a w s A u f j K o=>?_,?_⟩
  ·obtain⟨d,-⟩:=j
   have d:(fun v=>∃ y,oa=some y/\v=.int .i64 (h.get y xk).2) (a.tmps.getD 31 undef):=d;generalize D:a.tmps.getD 31 undef=F at d;obtain⟨y,C,rfl⟩:=d
   go_simp;exact o _ _ (fun t _ l=>Qbl p (i:=16) (by decide) (by decide) Zr l) (f.on p (i:=16) (by decide) Zr) ⟨y,C,Yz⟩
  trivial
def Ql2 (b c X bh:Nat) (xa xb xc xk:Int) (oa ob oc:Option Qj) (on:Option Int) (t:Tmp) (v:Value) (w:World):Prop :=
 match ([(48,fun v w=>∃ y,oa=some y/\v=QF y),(54,fun v w=>∃ y,ob=some y/\v=QF y)]:List (Tmp × (Value->World->Prop))).lookup t with
 | some p=>p v w
 | none=>v=(([(0,.pointer (some ⟨b,0,none⟩)),(1,.pointer (some ⟨c,0,none⟩)),(5,.pointer (some ⟨X,0,none⟩)),(41,.pointer (some ⟨b,0,none⟩)),(42,.pointer (some ⟨b,0,none⟩)),(43,.pointer (some ⟨b,0,none⟩)),(44,.pointer (some ⟨bh,0,none⟩)),(45,.pointer (some ⟨c,0,none⟩)),(46,.pointer (some ⟨X,1,none⟩)),(47,.int .i64 xa),(49,.pointer (some ⟨X,4,none⟩)),(50,.int .i64 xk),(51,.pointer (some ⟨c,0,none⟩)),(52,.pointer (some ⟨X,2,none⟩)),(53,.int .i64 xb)]:List (Tmp × Value)).lookup t).getD undef
theorem iq7 {oa ob oc:Option Qj}{on:Option Int}(E:w6.cell? ⟨b,0,none⟩=some (.pointer (some ⟨bh,0,none⟩))) (F:w6.cell? ⟨X,1,none⟩=some (.int .i64 xa)) (H:w6.cell? ⟨X,2,none⟩=some (.int .i64 xb)) (L:w6.cell? ⟨X,3,none⟩=some (.int .i64 xc)) (A:w6.cell? ⟨X,4,none⟩=some (.int .i64 xk)) (x:Hid (∀ wx,Below w6.heap.size w6 wx->Calls prog 150 #[.pointer (some ⟨c,0,none⟩),.int .i64 xa,.int .i64 3] wx fun e w'=>Ask oa QF e/\Below wx.heap.size wx w')) (D:Hid (∀ wx,Below w6.heap.size w6 wx->Calls prog 115 #[.pointer (some ⟨c,0,none⟩),.int .i64 xb] wx fun e w'=>Ask ob QF e/\Below wx.heap.size wx w'))
 (a:Act) (m:Nat) (hn:a.tmps.size=m) (q:124<=m) (I:a.tmps.getD 0 undef=.pointer (some ⟨b,0,none⟩)) (J:a.tmps.getD 1 undef=.pointer (some ⟨c,0,none⟩)) (G:a.tmps.getD 5 undef=.pointer (some ⟨X,0,none⟩))
 (B:∀ ch a' w',a'.defers=a.defers->(fun ch w=>ch=stuckP/\(oa=none\/ob=none)/\Below w6.heap.size w6 w) ch w'->Q (.panic ch) a' w')
 (hend:∀ ops vs w',vs 44=.pointer (some ⟨bh,0,none⟩)->(fun v w=>∃ y,oa=some y/\v=QF y) (vs 48) w'->vs 50=.int .i64 xk->(fun v w=>∃ y,ob=some y/\v=QF y) (vs 54) w'->Below w6.heap.size w6 w'->wpList prog ops Q (Qb8 14 ((Tryz.f124.body.bind (Qn 7)).getD .skip)) (QT a vs [41,42,43,44,45,46,47,48,49,50,51,52,53,54]) w') :
 Code.wp prog ((Tryz.f124.body.bind (Qn 7)).getD .skip) Q a w6:=by
 conv=>arg 2;whnf
 refine Q0 14 (Ql2 b c X bh xa xb xc xk oa ob oc on) (fun w=>Below w6.heap.size w6 w) (fun w w'=>Below w.heap.size w w') (fun ch w=>ch=stuckP/\(oa=none\/ob=none)/\Below w6.heap.size w6 w) B (outs:=[0,1,5]) (gs:=[]) (bs:=[true,true,true,true,true,true,true,true,true,true,true,true,true,true]) (by kernel_rfl) (n:=124) hn q (by kernel_rfl) (by kernel_rfl) ?hR ?hG (QH Zr 1) ⟨I,J,G,Y⟩ ?hA ?hend
 case hR =>
  intro t v w w' M h;unfold Ql2 at h |-;split at h
  ·rename_i p l
   simp only[List.lookup_cons,List.lookup_nil] at l
   split at l
   ·cases l;exact h
   ·split at l
    ·cases l;exact h
    ·cases l
  ·exact h
 case hG=>exact Y
 case hend=>exact fun ops vs w' f g=>hend ops vs w' (g 44 (by kernel_rfl)) (g 48 (by kernel_rfl)) (g 50 (by kernel_rfl)) (g 54 (by kernel_rfl)) f
 case hA =>
  refine⟨fun a w f g K i=>?_,?_⟩
  ·obtain⟨d,-⟩:=g
   have d:a.tmps.getD 0 undef=.pointer (some ⟨b,0,none⟩):=d;go_simp;exact i _ _ Zr f Z
  refine⟨fun a w f g K i=>?_,?_⟩
  ·obtain⟨d,-⟩:=g
   have d:a.tmps.getD 41 undef=.pointer (some ⟨b,0,none⟩):=d;go_simp;exact i _ _ Zr f Z
  refine⟨fun a w f g K i=>?_,?_⟩
  ·obtain⟨d,-⟩:=g
   have d:a.tmps.getD 42 undef=.pointer (some ⟨b,0,none⟩):=d;go_simp;exact i _ _ Zr f Z
  refine⟨fun a w f g K i=>?_,?_⟩
  ·obtain⟨d,-⟩:=g
   have d:a.tmps.getD 43 undef=.pointer (some ⟨b,0,none⟩):=d;have r:=QI E f;go_simp;exact i _ _ Zr f Z
  refine⟨fun a w f g K i=>?_,?_⟩
  ·obtain⟨d,-⟩:=g
   have d:a.tmps.getD 1 undef=.pointer (some ⟨c,0,none⟩):=d;go_simp;exact i _ _ Zr f Z
  refine⟨fun a w f g K i=>?_,?_⟩
  ·obtain⟨d,-⟩:=g
   have d:a.tmps.getD 5 undef=.pointer (some ⟨X,0,none⟩):=d;go_simp;exact i _ _ Zr f Z
  refine⟨fun a w f g K i=>?_,?_⟩
  ·obtain⟨d,-⟩:=g
   have d:a.tmps.getD 46 undef=.pointer (some ⟨X,1,none⟩):=d;have r:=QI F f;go_simp;exact i _ _ Zr f Z
  refine⟨fun a w f g K i=>?_,?_⟩
  ·obtain⟨d,o,-⟩:=g
   have d:a.tmps.getD 45 undef=.pointer (some ⟨c,0,none⟩):=d;have o:a.tmps.getD 47 undef=.int .i64 xa:=o;go_simp;refine Xm (x.out w f) ?_;rintro C z ⟨u,k⟩;rcases u.split with ⟨s,j,rfl⟩|⟨j,rfl⟩
   rotate_left
   ·exact⟨_,Z,Z,.inl j,f.trans (k.mono f.size)⟩
   go_simp;exact i _ _ k (f.trans (k.mono f.size)) ⟨s,j,Z⟩
  refine⟨fun a w f g K i=>?_,?_⟩
  ·obtain⟨d,-⟩:=g
   have d:a.tmps.getD 5 undef=.pointer (some ⟨X,0,none⟩):=d;go_simp;exact i _ _ Zr f Z
  refine⟨fun a w f g K i=>?_,?_⟩
  ·obtain⟨d,-⟩:=g
   have d:a.tmps.getD 49 undef=.pointer (some ⟨X,4,none⟩):=d;have r:=QI A f;go_simp;exact i _ _ Zr f Z
  refine⟨fun a w f g K i=>?_,?_⟩
  ·obtain⟨d,-⟩:=g
   have d:a.tmps.getD 1 undef=.pointer (some ⟨c,0,none⟩):=d;go_simp;exact i _ _ Zr f Z
  refine⟨fun a w f g K i=>?_,?_⟩
  ·obtain⟨d,-⟩:=g
   have d:a.tmps.getD 5 undef=.pointer (some ⟨X,0,none⟩):=d;go_simp;exact i _ _ Zr f Z
  refine⟨fun a w f g K i=>?_,?_⟩
  ·obtain⟨d,-⟩:=g
   have d:a.tmps.getD 52 undef=.pointer (some ⟨X,2,none⟩):=d;have r:=QI H f;go_simp;exact i _ _ Zr f Z
  refine⟨fun a w f g K i=>?_,?_⟩
  ·obtain⟨d,o,-⟩:=g
   have d:a.tmps.getD 51 undef=.pointer (some ⟨c,0,none⟩):=d;have o:a.tmps.getD 53 undef=.int .i64 xb:=o;go_simp;refine Xm (D.out w f) ?_;rintro C z ⟨u,k⟩;rcases u.split with ⟨s,j,rfl⟩|⟨j,rfl⟩
   rotate_left
   ·exact⟨_,Z,Z,.inr j,f.trans (k.mono f.size)⟩
   go_simp;exact i _ _ k (f.trans (k.mono f.size)) ⟨s,j,Z⟩
  trivial
def QcV (w6:World) (h:Qc) (b c X bh:Nat) (xa xb xc xk:Int) (oa ob oc:Option Qj) (on:Option Int) (S:Nat->Bool) (t:Tmp) (v:Value) (w:World):Prop :=
 match ([(69,fun _ v _=>(fun v=>∃ y,oa=some y/\v=QF y) v),(73,fun _ v _=>(fun v=>∃ y,on=some y/\v=.int .i64 y) v),(74,fun _ v _=>(fun v=>∃ y q,oa=some y/\on=some q/\v=.tuple #[QF (h.get y q).1,.int .i64 (h.get y q).2]) v),(61,fun _ v _=>(fun v=>∃ y q,oa=some y/\on=some q/\v=.tuple #[QF (h.get y q).1,.int .i64 (h.get y q).2]) v),(75,fun _ v _=>(fun v=>∃ y q,oa=some y/\on=some q/\v=QF (h.get y q).1) v),(76,fun _ v _=>(fun v=>∃ y q,oa=some y/\on=some q/\v=.int .i64 (h.get y q).2) v),(10,fun _ v _=>(fun v=>∃ y q,oa=some y/\on=some q/\v=.int .i64 (h.get y q).2) v),(9,Qan w6 (fun Z w=>Below w6.heap.size w6 w/\w6.heap.size<=Z) 12 17 (fun r=>∃ y q,oa=some y/\on=some q/\r=(h.get y q).1))]:List (Tmp × ((Nat->Bool)->Value->World->Prop))).lookup t with
 | some p=>p S v w
 | none=>v=(([(0,.pointer (some ⟨b,0,none⟩)),(1,.pointer (some ⟨c,0,none⟩)),(5,.pointer (some ⟨X,0,none⟩)),(62,.pointer (some ⟨b,0,none⟩)),(63,.pointer (some ⟨b,0,none⟩)),(64,.pointer (some ⟨b,0,none⟩)),(65,.pointer (some ⟨bh,0,none⟩)),(66,.pointer (some ⟨c,0,none⟩)),(67,.pointer (some ⟨X,1,none⟩)),(68,.int .i64 xa),(70,.pointer (some ⟨c,0,none⟩)),(71,.pointer (some ⟨X,2,none⟩)),(72,.int .i64 xb)]:List (Tmp × Value)).lookup t).getD undef
theorem ZW {h:Qc}{oa ob oc:Option Qj}{on:Option Int}{S:Nat->Bool}{t:Tmp}(g:HPs w6 (fun w=>Below w6.heap.size w6 w) (fun Z w=>Below w6.heap.size w6 w/\w6.heap.size<=Z))(k:i≠12) (j:i≠17) (f:Below w.heap.size w w') (d:QcV w6 h b c X bh xa xb xc xk oa ob oc on S t u w):QcV w6 h b c X bh xa xb xc xk oa ob oc on (Zp i S) t u w':=by
 unfold QcV at d |-;split at d
 ·rename_i p a
  simp only[List.lookup_cons,List.lookup_nil] at a
  split at a
  ·rename_i e
   cases a
   exact d
  ·split at a
   ·rename_i e
    cases a
    exact d
   ·split at a
    ·rename_i e
     cases a
     exact d
    ·split at a
     ·rename_i e
      cases a
      exact d
     ·split at a
      ·rename_i e
       cases a
       exact d
      ·split at a
       ·rename_i e
        cases a
        exact d
       ·split at a
        ·rename_i e
         cases a
         exact d
        ·split at a
         ·rename_i e
          cases a
          exact d.on g k j f
         ·cases a
 ·exact d
theorem Qk2 {h:Qc}{oa ob oc:Option Qj}{on:Option Int}{S:Nat->Bool}{t:Tmp}(k:∀ Z,w6.heap.size<=Z->Z<w.heap.size->w'.heap[Z]?=w.heap[Z]?/\(fun Z w=>Below w6.heap.size w6 w/\w6.heap.size<=Z) Z w') (d:QcV w6 h b c X bh xa xb xc xk oa ob oc on S t u w):QcV w6 h b c X bh xa xb xc xk oa ob oc on (Zp 12 S) t u w':=by
 unfold QcV at d |-;split at d
 ·rename_i p a
  simp only[List.lookup_cons,List.lookup_nil] at a
  split at a
  ·rename_i e
   cases a
   exact d
  ·split at a
   ·rename_i e
    cases a
    exact d
   ·split at a
    ·rename_i e
     cases a
     exact d
    ·split at a
     ·rename_i e
      cases a
      exact d
     ·split at a
      ·rename_i e
       cases a
       exact d
      ·split at a
       ·rename_i e
        cases a
        exact d
       ·split at a
        ·rename_i e
         cases a
         exact d
        ·split at a
         ·rename_i e
          cases a
          exact d.did (by decide) k
         ·cases a
 ·exact d
theorem Qk0 {h:Qc}{oa ob oc:Option Qj}{on:Option Int}{S:Nat->Bool}{t:Tmp}(j:HPs w6 (fun w=>Below w6.heap.size w6 w) (fun Z w=>Below w6.heap.size w6 w/\w6.heap.size<=Z)){Z:Nat}{r:Qj}(g:S 17=false) (k:S 12=true) (f:(fun r=>∃ y q,oa=some y/\on=some q/\r=(h.get y q).1) r) (i:t=9->u=.pointer (some ⟨Z,0,none⟩)) (d:QcV w6 h b c X bh xa xb xc xk oa ob oc on S t u w):QcV w6 h b c X bh xa xb xc xk oa ob oc on (Zp 17 S) t u (Qkb w Z r):=by
 unfold QcV at d |-;split at d
 ·rename_i p a
  simp only[List.lookup_cons,List.lookup_nil] at a
  split at a
  ·rename_i e
   cases a
   exact d
  ·split at a
   ·rename_i e
    cases a
    exact d
   ·split at a
    ·rename_i e
     cases a
     exact d
    ·split at a
     ·rename_i e
      cases a
      exact d
     ·split at a
      ·rename_i e
       cases a
       exact d
      ·split at a
       ·rename_i e
        cases a
        exact d
       ·split at a
        ·rename_i e
         cases a
         exact d
        ·split at a
         ·rename_i e
          cases a
          (obtain rfl:=i (by simpa using e);exact d.fill j g (by decide) r f)
         ·cases a
 ·exact d
theorem Qmw {h:Qc}{oa ob oc:Option Qj}{on:Option Int}(O:w6.cell? ⟨b,0,none⟩=some (.pointer (some ⟨bh,0,none⟩))) (x1:w6.cell? ⟨X,1,none⟩=some (.int .i64 xa)) (x2:w6.cell? ⟨X,2,none⟩=some (.int .i64 xb)) (x3:w6.cell? ⟨X,3,none⟩=some (.int .i64 xc)) (x4:w6.cell? ⟨X,4,none⟩=some (.int .i64 xk)) (CK:Hid (∀ wx,Below w6.heap.size w6 wx->Calls prog 150 #[.pointer (some ⟨c,0,none⟩),.int .i64 xa,.int .i64 4] wx fun e w'=>Ask oa QF e/\Below wx.heap.size wx w')) (CN:Hid (∀ wx,Below w6.heap.size w6 wx->Calls prog 108 #[.pointer (some ⟨c,0,none⟩),.int .i64 xb] wx fun e w'=>Ask on (.int .i64) e/\Below wx.heap.size wx w')) (CG:Hid (∀ y k wx,oa=some y->Below w6.heap.size w6 wx->Calls prog 161 #[.pointer (some ⟨bh,0,none⟩),QF y,.int .i64 k] wx fun e w'=>e=.returned (.tuple #[QF (h.get y k).1,.int .i64 (h.get y k).2])/\Below wx.heap.size wx w')) (p:HPs w6 (fun w=>Below w6.heap.size w6 w) (fun Z w=>Below w6.heap.size w6 w/\w6.heap.size<=Z))
 (a:Act) (m:Nat) (hn:a.tmps.size=m) (U:124<=m) (h0:a.tmps.getD 0 undef=.pointer (some ⟨b,0,none⟩)) (h1:a.tmps.getD 1 undef=.pointer (some ⟨c,0,none⟩)) (h5:a.tmps.getD 5 undef=.pointer (some ⟨X,0,none⟩))
 (hX:∀ ch a' w',a'.defers=a.defers->(fun ch w=>ch=stuckP/\(oa=none\/on=none)/\Below w6.heap.size w6 w) ch w'->Q (.panic ch) a' w')
 (hend:∀ vs w',(fun v=>∃ y q,oa=some y/\on=some q/\v=.int .i64 (h.get y q).2) (vs 10)->(∃ Z,vs 9=.pointer (some ⟨Z,0,none⟩)/\w6.heap.size<=Z/\(∃ r:Qj,(fun r=>∃ y q,oa=some y/\on=some q/\r=(h.get y q).1) r/\Blk w' Z (Qkp r) 183)/\(fun Z w=>Below w6.heap.size w6 w/\w6.heap.size<=Z) Z w')->(fun w=>Below w6.heap.size w6 w) w'->Q .normal (QT a vs [62,63,64,65,66,67,68,69,70,71,72,73,74,61,75,76,9,10]) w') :
 Code.wp prog ((Tryz.f124.body.bind (Qn 10)).getD .skip) Q a w6:=by
 conv=>arg 2;whnf
 refine ZK (QcV w6 h b c X bh xa xb xc xk oa ob oc on) (WY w6 (fun w=>Below w6.heap.size w6 w) 12) (fun ch w=>ch=stuckP/\(oa=none\/on=none)/\Below w6.heap.size w6 w) hX (outs:=[0,1,5]) (gs:=[]) (bs:=[true,true,true,true,true,true,true,true,true,true,true,true,true,true,true,true,true,true,true]) (by kernel_rfl) (n:=124) hn U (by kernel_rfl) ?hG (.inl ⟨Yz,QH Zr 1⟩) ⟨h0,h1,h5,Y⟩ ?hA ?hend
 case hG=>exact fun S=>trivial
 case hend=>exact fun vs S w' G f j=>hend vs w' (j 10 (by kernel_rfl)) (Qan.full (show Qan w6 (fun Z w=>Below w6.heap.size w6 w/\w6.heap.size<=Z) 12 17 (fun r=>∃ y q,oa=some y/\on=some q/\r=(h.get y q).1) S (vs 9) w' from j 9 (by kernel_rfl)) (G 17 (by decide)) (G 12 (by decide))) (f.fin (G 12 (by decide)))
 case hA =>
  refine⟨fun S a w s A u f j K o=>?_,?_⟩
  ·obtain⟨d,-⟩:=j
   have g:S 12=false:=Qah u (q:=12) Yz (by kernel_rfl) s;have x:=f.pre g;have d:a.tmps.getD 0 undef=.pointer (some ⟨b,0,none⟩):=d;go_simp;exact o _ _ (fun t _ l=>ZW p (i:=0) (by decide) (by decide) Zr l) (f.on p (i:=0) (by decide) Zr) Yz
  refine⟨fun S a w s A u f j K o=>?_,?_⟩
  ·obtain⟨d,-⟩:=j
   have g:S 12=false:=Qah u (q:=12) Yz (by kernel_rfl) s;have x:=f.pre g;have d:a.tmps.getD 62 undef=.pointer (some ⟨b,0,none⟩):=d;go_simp;exact o _ _ (fun t _ l=>ZW p (i:=1) (by decide) (by decide) Zr l) (f.on p (i:=1) (by decide) Zr) Yz
  refine⟨fun S a w s A u f j K o=>?_,?_⟩
  ·obtain⟨d,-⟩:=j
   have g:S 12=false:=Qah u (q:=12) Yz (by kernel_rfl) s;have x:=f.pre g;have d:a.tmps.getD 63 undef=.pointer (some ⟨b,0,none⟩):=d;go_simp;exact o _ _ (fun t _ l=>ZW p (i:=2) (by decide) (by decide) Zr l) (f.on p (i:=2) (by decide) Zr) Yz
  refine⟨fun S a w s A u f j K o=>?_,?_⟩
  ·obtain⟨d,-⟩:=j
   have g:S 12=false:=Qah u (q:=12) Yz (by kernel_rfl) s;have x:=f.pre g;have d:a.tmps.getD 64 undef=.pointer (some ⟨b,0,none⟩):=d;have V:=QI O x;go_simp;exact o _ _ (fun t _ l=>ZW p (i:=3) (by decide) (by decide) Zr l) (f.on p (i:=3) (by decide) Zr) Yz
  refine⟨fun S a w s A u f j K o=>?_,?_⟩
  ·obtain⟨d,-⟩:=j
   have g:S 12=false:=Qah u (q:=12) Yz (by kernel_rfl) s;have x:=f.pre g;have d:a.tmps.getD 1 undef=.pointer (some ⟨c,0,none⟩):=d;go_simp;exact o _ _ (fun t _ l=>ZW p (i:=4) (by decide) (by decide) Zr l) (f.on p (i:=4) (by decide) Zr) Yz
  refine⟨fun S a w s A u f j K o=>?_,?_⟩
  ·obtain⟨d,-⟩:=j
   have g:S 12=false:=Qah u (q:=12) Yz (by kernel_rfl) s;have x:=f.pre g;have d:a.tmps.getD 5 undef=.pointer (some ⟨X,0,none⟩):=d;go_simp;exact o _ _ (fun t _ l=>ZW p (i:=5) (by decide) (by decide) Zr l) (f.on p (i:=5) (by decide) Zr) Yz
  refine⟨fun S a w s A u f j K o=>?_,?_⟩
  ·obtain⟨d,-⟩:=j
   have g:S 12=false:=Qah u (q:=12) Yz (by kernel_rfl) s;have x:=f.pre g;have d:a.tmps.getD 67 undef=.pointer (some ⟨X,1,none⟩):=d;have V:=QI x1 x;go_simp;exact o _ _ (fun t _ l=>ZW p (i:=6) (by decide) (by decide) Zr l) (f.on p (i:=6) (by decide) Zr) Yz
  refine⟨fun S a w s A u f j K o=>?_,?_⟩
  ·obtain⟨d,B,-⟩:=j
   have g:S 12=false:=Qah u (q:=12) Yz (by kernel_rfl) s;have x:=f.pre g;have d:a.tmps.getD 66 undef=.pointer (some ⟨c,0,none⟩):=d;have B:a.tmps.getD 68 undef=.int .i64 xa:=B;go_simp;refine Xm (CK.out w x) ?_;rintro r7 w7 ⟨T,E⟩;rcases T.split with ⟨y7,J,rfl⟩|⟨J,rfl⟩
   rotate_left
   ·exact⟨_,Yz,Yz,.inl J,x.trans (E.mono x.size)⟩
   go_simp;exact o _ _ (fun t _ l=>ZW p (i:=7) (by decide) (by decide) E l) (f.on p (i:=7) (by decide) E) ⟨y7,J,Yz⟩
  refine⟨fun S a w s A u f j K o=>?_,?_⟩
  ·obtain⟨d,-⟩:=j
   have g:S 12=false:=Qah u (q:=12) Yz (by kernel_rfl) s;have x:=f.pre g;have d:a.tmps.getD 1 undef=.pointer (some ⟨c,0,none⟩):=d;go_simp;exact o _ _ (fun t _ l=>ZW p (i:=8) (by decide) (by decide) Zr l) (f.on p (i:=8) (by decide) Zr) Yz
  refine⟨fun S a w s A u f j K o=>?_,?_⟩
  ·obtain⟨d,-⟩:=j
   have g:S 12=false:=Qah u (q:=12) Yz (by kernel_rfl) s;have x:=f.pre g;have d:a.tmps.getD 5 undef=.pointer (some ⟨X,0,none⟩):=d;go_simp;exact o _ _ (fun t _ l=>ZW p (i:=9) (by decide) (by decide) Zr l) (f.on p (i:=9) (by decide) Zr) Yz
  refine⟨fun S a w s A u f j K o=>?_,?_⟩
  ·obtain⟨d,-⟩:=j
   have g:S 12=false:=Qah u (q:=12) Yz (by kernel_rfl) s;have x:=f.pre g;have d:a.tmps.getD 71 undef=.pointer (some ⟨X,2,none⟩):=d;have V:=QI x2 x;go_simp;exact o _ _ (fun t _ l=>ZW p (i:=10) (by decide) (by decide) Zr l) (f.on p (i:=10) (by decide) Zr) Yz
  refine⟨fun S a w s A u f j K o=>?_,?_⟩
  ·obtain⟨d,B,-⟩:=j
   have g:S 12=false:=Qah u (q:=12) Yz (by kernel_rfl) s;have x:=f.pre g;have d:a.tmps.getD 70 undef=.pointer (some ⟨c,0,none⟩):=d;have B:a.tmps.getD 72 undef=.int .i64 xb:=B;go_simp;refine Xm (CN.out w x) ?_;rintro r7 w7 ⟨T,E⟩;rcases T.split with ⟨y7,J,rfl⟩|⟨J,rfl⟩
   rotate_left
   ·exact⟨_,Yz,Yz,.inr J,x.trans (E.mono x.size)⟩
   go_simp;exact o _ _ (fun t _ l=>ZW p (i:=11) (by decide) (by decide) E l) (f.on p (i:=11) (by decide) E) ⟨y7,J,Yz⟩
  refine⟨fun S a w s A u f j K o=>?_,?_⟩
  ·obtain⟨d,B,P,-⟩:=j
   have x:=f.pre s;have d:a.tmps.getD 65 undef=.pointer (some ⟨bh,0,none⟩):=d;have B:(fun v=>∃ y,oa=some y/\v=QF y) (a.tmps.getD 69 undef):=B;generalize N:a.tmps.getD 69 undef=W at B;have P:(fun v=>∃ y,on=some y/\v=.int .i64 y) (a.tmps.getD 73 undef):=P;generalize ab:a.tmps.getD 73 undef=aa at P;obtain⟨y,C,rfl⟩:=B
   obtain⟨q,F,rfl⟩:=P
   go_simp;refine Xm (CG.out y q w C x) ?_;rintro r7 w7 ⟨rfl,E⟩;go_simp;exact o _ _ (fun t _ l=>Qk2 (fun Z hz hl=>⟨E.block Z hl,x.trans (E.mono x.size),hz⟩) l) (WY.did (x.trans (E.mono x.size))) ⟨y,q,C,F,Yz⟩
  refine⟨fun S a w s A u f j K o=>?_,?_⟩
  ·obtain⟨d,-⟩:=j
   have d:(fun v=>∃ y q,oa=some y/\on=some q/\v=.tuple #[QF (h.get y q).1,.int .i64 (h.get y q).2]) (a.tmps.getD 74 undef):=d;generalize D:a.tmps.getD 74 undef=H at d;obtain⟨y,q,C,F,rfl⟩:=d
   go_simp;exact o _ _ (fun t _ l=>ZW p (i:=13) (by decide) (by decide) Zr l) (f.on p (i:=13) (by decide) Zr) ⟨y,q,C,F,Yz⟩
  refine⟨fun S a w s A u f j K o=>?_,?_⟩
  ·obtain⟨d,-⟩:=j
   have d:(fun v=>∃ y q,oa=some y/\on=some q/\v=.tuple #[QF (h.get y q).1,.int .i64 (h.get y q).2]) (a.tmps.getD 61 undef):=d;generalize D:a.tmps.getD 61 undef=H at d;obtain⟨y,q,C,F,rfl⟩:=d
   go_simp;exact o _ _ (fun t _ l=>ZW p (i:=14) (by decide) (by decide) Zr l) (f.on p (i:=14) (by decide) Zr) ⟨y,q,C,F,Yz⟩
  refine⟨fun S a w s A u f j K o=>?_,?_⟩
  ·obtain⟨d,-⟩:=j
   have d:(fun v=>∃ y q,oa=some y/\on=some q/\v=.tuple #[QF (h.get y q).1,.int .i64 (h.get y q).2]) (a.tmps.getD 61 undef):=d;generalize D:a.tmps.getD 61 undef=H at d;obtain⟨y,q,C,F,rfl⟩:=d
   go_simp;exact o _ _ (fun t _ l=>ZW p (i:=15) (by decide) (by decide) Zr l) (f.on p (i:=15) (by decide) Zr) ⟨y,q,C,F,Yz⟩
  refine⟨fun S a w s A u f j K o=>?_,?_⟩
  ·clear j;have I:S 17=false:=Qah u (q:=17) Yz (by kernel_rfl) s;go_simp;exact o _ _ (fun t _ l=>ZW p (i:=16) (by decide) (by decide) (QY _ _) l) (f.on p (i:=16) (by decide) (QY _ _)) (Qan.new p f I (i:=16) (by decide) (by decide))
  refine⟨fun S a w s A u f j K o=>?_,?_⟩
  ·obtain⟨d,B,-⟩:=j
   have d:Qan w6 (fun Z w=>Below w6.heap.size w6 w/\w6.heap.size<=Z) 12 17 (fun r=>∃ y q,oa=some y/\on=some q/\r=(h.get y q).1) S (a.tmps.getD 9 undef) w:=d;generalize D:a.tmps.getD 9 undef=H at d;have B:(fun v=>∃ y q,oa=some y/\on=some q/\v=QF (h.get y q).1) (a.tmps.getD 75 undef):=B;generalize N:a.tmps.getD 75 undef=W at B;have I:S 17=false:=s;have L:S 12=true:=Qi3 u A (by kernel_rfl);have kb:=d;obtain⟨Z,rfl,hZ,R,-,-⟩:=d
   have z:=R I;obtain⟨y,q,C,F,rfl⟩:=B
   have hr:∃ y0 O,oa=some y0/\on=some O/\(h.get y q).1=(h.get y0 O).1:=⟨y,q,C,F,Yz⟩;obtain⟨r,M⟩:∃ r,(h.get y q).1=r:=⟨_,Yz⟩
   rw[M] at N hr
   clear M;have V:=Qa z 0 _ Yz;have c1:=Qa z 1 _ Yz;have c2:=Qa z 2 _ Yz;have c3:=Qa z 3 _ Yz;have z0:=Qf z 0;have z1:=Qf z 1;have z2:=Qf z 2;have z3:=Qf z 3;go_simp;exact o undef _ (fun t _ l=>Qk0 p I L hr (fun e=>by subst e;exact D) l) (Qan.fillW p kb L (by decide) r) Y
  refine⟨fun S a w s A u f j K o=>?_,?_⟩
  ·obtain⟨d,-⟩:=j
   have d:(fun v=>∃ y q,oa=some y/\on=some q/\v=.int .i64 (h.get y q).2) (a.tmps.getD 76 undef):=d;generalize D:a.tmps.getD 76 undef=H at d;obtain⟨y,q,C,F,rfl⟩:=d
   go_simp;exact o _ _ (fun t _ l=>ZW p (i:=18) (by decide) (by decide) Zr l) (f.on p (i:=18) (by decide) Zr) ⟨y,q,C,F,Yz⟩
  trivial
def QkY (b c X bh:Nat) (xa xb xc xk:Int) (oa ob oc:Option Qj) (on:Option Int) (t:Tmp) (v:Value) (w:World):Prop :=
 match ([(92,fun v w=>∃ y,oa=some y/\v=QF y),(96,fun v w=>∃ y,on=some y/\v=.int .i64 y),(100,fun v w=>∃ y,oc=some y/\v=QF y)]:List (Tmp × (Value->World->Prop))).lookup t with
 | some p=>p v w
 | none=>v=(([(0,.pointer (some ⟨b,0,none⟩)),(1,.pointer (some ⟨c,0,none⟩)),(5,.pointer (some ⟨X,0,none⟩)),(85,.pointer (some ⟨b,0,none⟩)),(86,.pointer (some ⟨b,0,none⟩)),(87,.pointer (some ⟨b,0,none⟩)),(88,.pointer (some ⟨bh,0,none⟩)),(89,.pointer (some ⟨c,0,none⟩)),(90,.pointer (some ⟨X,1,none⟩)),(91,.int .i64 xa),(93,.pointer (some ⟨c,0,none⟩)),(94,.pointer (some ⟨X,2,none⟩)),(95,.int .i64 xb),(97,.pointer (some ⟨c,0,none⟩)),(98,.pointer (some ⟨X,3,none⟩)),(99,.int .i64 xc)]:List (Tmp × Value)).lookup t).getD undef
theorem Ql7 {oa ob oc:Option Qj}{on:Option Int}(E:w6.cell? ⟨b,0,none⟩=some (.pointer (some ⟨bh,0,none⟩))) (G:w6.cell? ⟨X,1,none⟩=some (.int .i64 xa)) (I:w6.cell? ⟨X,2,none⟩=some (.int .i64 xb)) (D:w6.cell? ⟨X,3,none⟩=some (.int .i64 xc)) (M:w6.cell? ⟨X,4,none⟩=some (.int .i64 xk)) (A:Hid (∀ wx,Below w6.heap.size w6 wx->Calls prog 150 #[.pointer (some ⟨c,0,none⟩),.int .i64 xa,.int .i64 4] wx fun e w'=>Ask oa QF e/\Below wx.heap.size wx w')) (F:Hid (∀ wx,Below w6.heap.size w6 wx->Calls prog 108 #[.pointer (some ⟨c,0,none⟩),.int .i64 xb] wx fun e w'=>Ask on (.int .i64) e/\Below wx.heap.size wx w')) (B:Hid (∀ wx,Below w6.heap.size w6 wx->Calls prog 115 #[.pointer (some ⟨c,0,none⟩),.int .i64 xc] wx fun e w'=>Ask oc QF e/\Below wx.heap.size wx w'))
 (a:Act) (m:Nat) (hn:a.tmps.size=m) (s:124<=m) (J:a.tmps.getD 0 undef=.pointer (some ⟨b,0,none⟩)) (L:a.tmps.getD 1 undef=.pointer (some ⟨c,0,none⟩)) (H:a.tmps.getD 5 undef=.pointer (some ⟨X,0,none⟩))
 (C:∀ ch a' w',a'.defers=a.defers->(fun ch w=>ch=stuckP/\(oa=none\/on=none\/oc=none)/\Below w6.heap.size w6 w) ch w'->Q (.panic ch) a' w')
 (hend:∀ ops vs w',vs 88=.pointer (some ⟨bh,0,none⟩)->(fun v w=>∃ y,oa=some y/\v=QF y) (vs 92) w'->(fun v w=>∃ y,on=some y/\v=.int .i64 y) (vs 96) w'->(fun v w=>∃ y,oc=some y/\v=QF y) (vs 100) w'->Below w6.heap.size w6 w'->wpList prog ops Q (Qb8 16 ((Tryz.f124.body.bind (Qn 14)).getD .skip)) (QT a vs [85,86,87,88,89,90,91,92,93,94,95,96,97,98,99,100]) w') :
 Code.wp prog ((Tryz.f124.body.bind (Qn 14)).getD .skip) Q a w6:=by
 conv=>arg 2;whnf
 refine Q0 16 (QkY b c X bh xa xb xc xk oa ob oc on) (fun w=>Below w6.heap.size w6 w) (fun w w'=>Below w.heap.size w w') (fun ch w=>ch=stuckP/\(oa=none\/on=none\/oc=none)/\Below w6.heap.size w6 w) C (outs:=[0,1,5]) (gs:=[]) (bs:=[true,true,true,true,true,true,true,true,true,true,true,true,true,true,true,true]) (by kernel_rfl) (n:=124) hn s (by kernel_rfl) (by kernel_rfl) ?hR ?hG (QH Zr 1) ⟨J,L,H,Y⟩ ?hA ?hend
 case hR =>
  intro t v w w' N h;unfold QkY at h |-;split at h
  ·rename_i p l
   simp only[List.lookup_cons,List.lookup_nil] at l
   split at l
   ·cases l;exact h
   ·split at l
    ·cases l;exact h
    ·split at l
     ·cases l;exact h
     ·cases l
  ·exact h
 case hG=>exact Y
 case hend=>exact fun ops vs w' d g=>hend ops vs w' (g 88 (by kernel_rfl)) (g 92 (by kernel_rfl)) (g 96 (by kernel_rfl)) (g 100 (by kernel_rfl)) d
 case hA =>
  refine⟨fun a w d g K i=>?_,?_⟩
  ·obtain⟨f,-⟩:=g
   have f:a.tmps.getD 0 undef=.pointer (some ⟨b,0,none⟩):=f;go_simp;exact i _ _ Zr d Z
  refine⟨fun a w d g K i=>?_,?_⟩
  ·obtain⟨f,-⟩:=g
   have f:a.tmps.getD 85 undef=.pointer (some ⟨b,0,none⟩):=f;go_simp;exact i _ _ Zr d Z
  refine⟨fun a w d g K i=>?_,?_⟩
  ·obtain⟨f,-⟩:=g
   have f:a.tmps.getD 86 undef=.pointer (some ⟨b,0,none⟩):=f;go_simp;exact i _ _ Zr d Z
  refine⟨fun a w d g K i=>?_,?_⟩
  ·obtain⟨f,-⟩:=g
   have f:a.tmps.getD 87 undef=.pointer (some ⟨b,0,none⟩):=f;have u:=QI E d;go_simp;exact i _ _ Zr d Z
  refine⟨fun a w d g K i=>?_,?_⟩
  ·obtain⟨f,-⟩:=g
   have f:a.tmps.getD 1 undef=.pointer (some ⟨c,0,none⟩):=f;go_simp;exact i _ _ Zr d Z
  refine⟨fun a w d g K i=>?_,?_⟩
  ·obtain⟨f,-⟩:=g
   have f:a.tmps.getD 5 undef=.pointer (some ⟨X,0,none⟩):=f;go_simp;exact i _ _ Zr d Z
  refine⟨fun a w d g K i=>?_,?_⟩
  ·obtain⟨f,-⟩:=g
   have f:a.tmps.getD 90 undef=.pointer (some ⟨X,1,none⟩):=f;have u:=QI G d;go_simp;exact i _ _ Zr d Z
  refine⟨fun a w d g K i=>?_,?_⟩
  ·obtain⟨f,o,-⟩:=g
   have f:a.tmps.getD 89 undef=.pointer (some ⟨c,0,none⟩):=f;have o:a.tmps.getD 91 undef=.int .i64 xa:=o;go_simp;refine Xm (A.out w d) ?_;rintro z x ⟨r,k⟩;rcases r.split with ⟨q,j,rfl⟩|⟨j,rfl⟩
   rotate_left
   ·exact⟨_,Z,Z,.inl j,d.trans (k.mono d.size)⟩
   go_simp;exact i _ _ k (d.trans (k.mono d.size)) ⟨q,j,Z⟩
  refine⟨fun a w d g K i=>?_,?_⟩
  ·obtain⟨f,-⟩:=g
   have f:a.tmps.getD 1 undef=.pointer (some ⟨c,0,none⟩):=f;go_simp;exact i _ _ Zr d Z
  refine⟨fun a w d g K i=>?_,?_⟩
  ·obtain⟨f,-⟩:=g
   have f:a.tmps.getD 5 undef=.pointer (some ⟨X,0,none⟩):=f;go_simp;exact i _ _ Zr d Z
  refine⟨fun a w d g K i=>?_,?_⟩
  ·obtain⟨f,-⟩:=g
   have f:a.tmps.getD 94 undef=.pointer (some ⟨X,2,none⟩):=f;have u:=QI I d;go_simp;exact i _ _ Zr d Z
  refine⟨fun a w d g K i=>?_,?_⟩
  ·obtain⟨f,o,-⟩:=g
   have f:a.tmps.getD 93 undef=.pointer (some ⟨c,0,none⟩):=f;have o:a.tmps.getD 95 undef=.int .i64 xb:=o;go_simp;refine Xm (F.out w d) ?_;rintro z x ⟨r,k⟩;rcases r.split with ⟨q,j,rfl⟩|⟨j,rfl⟩
   rotate_left
   ·exact⟨_,Z,Z,.inr (.inl j),d.trans (k.mono d.size)⟩
   go_simp;exact i _ _ k (d.trans (k.mono d.size)) ⟨q,j,Z⟩
  refine⟨fun a w d g K i=>?_,?_⟩
  ·obtain⟨f,-⟩:=g
   have f:a.tmps.getD 1 undef=.pointer (some ⟨c,0,none⟩):=f;go_simp;exact i _ _ Zr d Z
  refine⟨fun a w d g K i=>?_,?_⟩
  ·obtain⟨f,-⟩:=g
   have f:a.tmps.getD 5 undef=.pointer (some ⟨X,0,none⟩):=f;go_simp;exact i _ _ Zr d Z
  refine⟨fun a w d g K i=>?_,?_⟩
  ·obtain⟨f,-⟩:=g
   have f:a.tmps.getD 98 undef=.pointer (some ⟨X,3,none⟩):=f;have u:=QI D d;go_simp;exact i _ _ Zr d Z
  refine⟨fun a w d g K i=>?_,?_⟩
  ·obtain⟨f,o,-⟩:=g
   have f:a.tmps.getD 97 undef=.pointer (some ⟨c,0,none⟩):=f;have o:a.tmps.getD 99 undef=.int .i64 xc:=o;go_simp;refine Xm (B.out w d) ?_;rintro z x ⟨r,k⟩;rcases r.split with ⟨q,j,rfl⟩|⟨j,rfl⟩
   rotate_left
   ·exact⟨_,Z,Z,.inr (.inr j),d.trans (k.mono d.size)⟩
   go_simp;exact i _ _ k (d.trans (k.mono d.size)) ⟨q,j,Z⟩
  trivial
def QkT (w6:World) (h:Qc) (b c X bh:Nat) (xa xb xc xk:Int) (oa ob oc:Option Qj) (on:Option Int) (t:Tmp) (v:Value) (w:World):Prop :=
 match ([(114,fun v w=>∃ y,oa=some y/\v=QF y),(115,fun v w=>∃ y,oa=some y/\v=.tuple #[.int .i64 (h.len y).1,.int .i64 (h.len y).2]),(106,fun v w=>∃ y,oa=some y/\v=.tuple #[.int .i64 (h.len y).1,.int .i64 (h.len y).2]),(116,fun v w=>∃ y,oa=some y/\v=.int .i64 (h.len y).1),(117,fun v w=>∃ y,oa=some y/\v=.int .i64 (h.len y).2),(12,fun v w=>∃ y,oa=some y/\v=.int .i64 (h.len y).1),(13,fun v w=>∃ y,oa=some y/\v=.int .i64 (h.len y).2)]:List (Tmp × (Value->World->Prop))).lookup t with
 | some p=>p v w
 | none=>v=(([(0,.pointer (some ⟨b,0,none⟩)),(1,.pointer (some ⟨c,0,none⟩)),(5,.pointer (some ⟨X,0,none⟩)),(107,.pointer (some ⟨b,0,none⟩)),(108,.pointer (some ⟨b,0,none⟩)),(109,.pointer (some ⟨b,0,none⟩)),(110,.pointer (some ⟨bh,0,none⟩)),(111,.pointer (some ⟨c,0,none⟩)),(112,.pointer (some ⟨X,1,none⟩)),(113,.int .i64 xa)]:List (Tmp × Value)).lookup t).getD undef
theorem Qmg {h:Qc}{oa ob oc:Option Qj}{on:Option Int}(D:w6.cell? ⟨b,0,none⟩=some (.pointer (some ⟨bh,0,none⟩))) (G:w6.cell? ⟨X,1,none⟩=some (.int .i64 xa)) (S:w6.cell? ⟨X,2,none⟩=some (.int .i64 xb)) (P:w6.cell? ⟨X,3,none⟩=some (.int .i64 xc)) (O:w6.cell? ⟨X,4,none⟩=some (.int .i64 xk)) (x:Hid (∀ wx,Below w6.heap.size w6 wx->Calls prog 150 #[.pointer (some ⟨c,0,none⟩),.int .i64 xa,.int .i64 4] wx fun e w'=>Ask oa QF e/\Below wx.heap.size wx w')) (E:Hid (∀ y wx,oa=some y->Below w6.heap.size w6 wx->Calls prog 163 #[.pointer (some ⟨bh,0,none⟩),QF y] wx fun e w'=>e=.returned (.tuple #[.int .i64 (h.len y).1,.int .i64 (h.len y).2])/\Below wx.heap.size wx w'))
 (a:Act) (m:Nat) (hn:a.tmps.size=m) (u:124<=m) (L:a.tmps.getD 0 undef=.pointer (some ⟨b,0,none⟩)) (N:a.tmps.getD 1 undef=.pointer (some ⟨c,0,none⟩)) (H:a.tmps.getD 5 undef=.pointer (some ⟨X,0,none⟩))
 (A:∀ ch a' w',a'.defers=a.defers->(fun ch w=>ch=stuckP/\(oa=none)/\Below w6.heap.size w6 w) ch w'->Q (.panic ch) a' w')
 (hend:∀ vs w',(fun v w=>∃ y,oa=some y/\v=.int .i64 (h.len y).1) (vs 12) w'->(fun v w=>∃ y,oa=some y/\v=.int .i64 (h.len y).2) (vs 13) w'->Below w6.heap.size w6 w'->Q .normal (QT a vs [107,108,109,110,111,112,113,114,115,106,116,117,12,13]) w') :
 Code.wp prog ((Tryz.f124.body.bind (Qn 17)).getD .skip) Q a w6:=by
 conv=>arg 2;whnf
 refine ZH (QkT w6 h b c X bh xa xb xc xk oa ob oc on) (fun w=>Below w6.heap.size w6 w) (fun w w'=>Below w.heap.size w w') (fun ch w=>ch=stuckP/\(oa=none)/\Below w6.heap.size w6 w) A (outs:=[0,1,5]) (gs:=[]) (bs:=[true,true,true,true,true,true,true,true,true,true,true,true,true,true]) (by kernel_rfl) (n:=124) hn u (by kernel_rfl) ?hR ?hG (QH Zr 1) ⟨L,N,H,Y⟩ ?hA ?hend
 case hR =>
  intro t v w w' R h;unfold QkT at h |-;split at h
  ·rename_i p j
   simp only[List.lookup_cons,List.lookup_nil] at j
   split at j
   ·cases j;exact h
   ·split at j
    ·cases j;exact h
    ·split at j
     ·cases j;exact h
     ·split at j
      ·cases j;exact h
      ·split at j
       ·cases j;exact h
       ·split at j
        ·cases j;exact h
        ·split at j
         ·cases j;exact h
         ·cases j
  ·exact h
 case hG=>exact Y
 case hend=>exact fun vs w' f g=>hend vs w' (g 12 (by kernel_rfl)) (g 13 (by kernel_rfl)) f
 case hA =>
  refine⟨fun a w f g K i=>?_,?_⟩
  ·obtain⟨d,-⟩:=g
   have d:a.tmps.getD 0 undef=.pointer (some ⟨b,0,none⟩):=d;go_simp;exact i _ _ Zr f Z
  refine⟨fun a w f g K i=>?_,?_⟩
  ·obtain⟨d,-⟩:=g
   have d:a.tmps.getD 107 undef=.pointer (some ⟨b,0,none⟩):=d;go_simp;exact i _ _ Zr f Z
  refine⟨fun a w f g K i=>?_,?_⟩
  ·obtain⟨d,-⟩:=g
   have d:a.tmps.getD 108 undef=.pointer (some ⟨b,0,none⟩):=d;go_simp;exact i _ _ Zr f Z
  refine⟨fun a w f g K i=>?_,?_⟩
  ·obtain⟨d,-⟩:=g
   have d:a.tmps.getD 109 undef=.pointer (some ⟨b,0,none⟩):=d;have F:=QI D f;go_simp;exact i _ _ Zr f Z
  refine⟨fun a w f g K i=>?_,?_⟩
  ·obtain⟨d,-⟩:=g
   have d:a.tmps.getD 1 undef=.pointer (some ⟨c,0,none⟩):=d;go_simp;exact i _ _ Zr f Z
  refine⟨fun a w f g K i=>?_,?_⟩
  ·obtain⟨d,-⟩:=g
   have d:a.tmps.getD 5 undef=.pointer (some ⟨X,0,none⟩):=d;go_simp;exact i _ _ Zr f Z
  refine⟨fun a w f g K i=>?_,?_⟩
  ·obtain⟨d,-⟩:=g
   have d:a.tmps.getD 112 undef=.pointer (some ⟨X,1,none⟩):=d;have F:=QI G f;go_simp;exact i _ _ Zr f Z
  refine⟨fun a w f g K i=>?_,?_⟩
  ·obtain⟨d,q,-⟩:=g
   have d:a.tmps.getD 111 undef=.pointer (some ⟨c,0,none⟩):=d;have q:a.tmps.getD 113 undef=.int .i64 xa:=q;go_simp;refine Xm (x.out w f) ?_;rintro B z ⟨C,r⟩;rcases C.split with ⟨J,s,rfl⟩|⟨s,rfl⟩
   rotate_left
   ·exact⟨_,Z,Z,s,f.trans (r.mono f.size)⟩
   go_simp;exact i _ _ r (f.trans (r.mono f.size)) ⟨J,s,Z⟩
  refine⟨fun a w f g K i=>?_,?_⟩
  ·obtain⟨d,q,-⟩:=g
   have d:a.tmps.getD 110 undef=.pointer (some ⟨bh,0,none⟩):=d;have q:(fun v w=>∃ y,oa=some y/\v=QF y) (a.tmps.getD 114 undef) w:=q;generalize M:a.tmps.getD 114 undef=I at q;obtain⟨y,k,rfl⟩:=q
   go_simp;refine Xm (E.out y w k f) ?_;rintro B z ⟨rfl,r⟩;go_simp;exact i _ _ r (f.trans (r.mono f.size)) ⟨y,k,Z⟩
  refine⟨fun a w f g K i=>?_,?_⟩
  ·obtain⟨d,-⟩:=g
   have d:(fun v w=>∃ y,oa=some y/\v=.tuple #[.int .i64 (h.len y).1,.int .i64 (h.len y).2]) (a.tmps.getD 115 undef) w:=d;generalize l:a.tmps.getD 115 undef=o at d;obtain⟨y,k,rfl⟩:=d
   go_simp;exact i _ _ Zr f ⟨y,k,Z⟩
  refine⟨fun a w f g K i=>?_,?_⟩
  ·obtain⟨d,-⟩:=g
   have d:(fun v w=>∃ y,oa=some y/\v=.tuple #[.int .i64 (h.len y).1,.int .i64 (h.len y).2]) (a.tmps.getD 106 undef) w:=d;generalize l:a.tmps.getD 106 undef=o at d;obtain⟨y,k,rfl⟩:=d
   go_simp;exact i _ _ Zr f ⟨y,k,Z⟩
  refine⟨fun a w f g K i=>?_,?_⟩
  ·obtain⟨d,-⟩:=g
   have d:(fun v w=>∃ y,oa=some y/\v=.tuple #[.int .i64 (h.len y).1,.int .i64 (h.len y).2]) (a.tmps.getD 106 undef) w:=d;generalize l:a.tmps.getD 106 undef=o at d;obtain⟨y,k,rfl⟩:=d
   go_simp;exact i _ _ Zr f ⟨y,k,Z⟩
  refine⟨fun a w f g K i=>?_,?_⟩
  ·obtain⟨d,-⟩:=g
   have d:(fun v w=>∃ y,oa=some y/\v=.int .i64 (h.len y).1) (a.tmps.getD 116 undef) w:=d;generalize l:a.tmps.getD 116 undef=o at d;obtain⟨y,k,rfl⟩:=d
   go_simp;exact i _ _ Zr f ⟨y,k,Z⟩
  refine⟨fun a w f g K i=>?_,?_⟩
  ·obtain⟨d,-⟩:=g
   have d:(fun v w=>∃ y,oa=some y/\v=.int .i64 (h.len y).2) (a.tmps.getD 117 undef) w:=d;generalize l:a.tmps.getD 117 undef=o at d;obtain⟨y,k,rfl⟩:=d
   go_simp;exact i _ _ Zr f ⟨y,k,Z⟩
  trivial
theorem QfN {h:Qc}{y z:Qj}{k:Int}(a:(h.set y k z).1≠0):(h.set y k z).2=h:=by
 unfold Qc.set at a |-;split
 ·rename_i t p e c
  rw[e,c] at a
  simp only at a
  split
  ·rfl
  ·rename_i d
   rw[Xr d] at a
   split
   ·rfl
   ·rename_i b
    rw[Xr b] at a
    exact absurd Z a
 ·rfl
section
variable {w w' w2:World}{b most n:Nat}{m:List (Qe 6)}{M M' N:IM}{sc sa:Int}{g g1:MG}{e:Ending}
structure Qaf (n:Nat) (M:IM):Prop where
 hb:HB n M.h
 hn:n<=900000
 gd:∀ v∈M.top.v,gdV v
 len:M.top.v.length+8<=1000000
 regs:M.top.r.length<=1000000
 inp:M.inp.length<=1000000
 out:M.out.length<=2000
theorem Qaf.hn' (I:Qaf n M):n<=1000000:=Zt I.hn (by decide)
theorem Qaf.get (I:Qaf n M) (H:HIn w g.bh g.O M.h g.G){y:Qj}(b:y.ok) (k:Int) :
 Calls prog 161 #[.pointer (some ⟨g.bh,0,none⟩),QF y,.int .i64 k] w fun e w'=>e=.returned (.tuple #[QF (M.h.get y k).1,.int .i64 (M.h.get y k).2])/\Below w.heap.size w w' :=
 Qi4 H y b k (I.hb.pl I.hn') (fun t a=>by have:=I.hb.len.thing a;have:=I.hn;omega)
theorem Qaf.len_ (I:Qaf n M) (H:HIn w g.bh g.O M.h g.G){y:Qj}(a:y.ok) :
 Calls prog 163 #[.pointer (some ⟨g.bh,0,none⟩),QF y] w fun e w'=>e=.returned (.tuple #[.int .i64 (M.h.len y).1,.int .i64 (M.h.len y).2])/\Below w.heap.size w w':=QiL H y a (I.hb.pl I.hn')
theorem Qaf.set (I:Qaf n M) (H:HIn w g.bh g.O M.h g.G){y z:Qj}(i:y.ok) (a:z.bare=z) (k:Int) :
 Calls prog 162 #[.pointer (some ⟨g.bh,0,none⟩),QF y,.int .i64 k,QF z] w fun e w'=>e=.returned (.int .i64 (M.h.set y k z).1)/\HTo w w' g.bh g.O (M.h.set y k z).2:=by
 have:=QiG H y i k z (I.hb.pl I.hn') (fun t b=>by have:=I.hb.len.thing b;have:=I.hn;omega)
 rw[a] at this
 exact this.mono fun e w' ⟨f,c,d⟩=>⟨f,_,_,c,d,fun _ h=>h⟩
theorem Qaf.val (I:Qaf n M){a:Int}{y:Qj}(h:QA M.top.v a=some y):y.ok/\y.bare=y:=I.gd y (QaV h)
theorem Qaf.kind (I:Qaf n M){a k:Int}{y:Qj}(h:QP M.top.v a k=some y):y.ok/\y.bare=y:=I.val (ZL h).1
theorem Qld (S:MAt w b most m M sc sa g) (I:Qaf n M){x:Qz}(O:IP) (p:x.op=6) :
 Calls prog 124 #[.pointer (some ⟨b,0,none⟩),.pointer (some ⟨g.t.c,0,none⟩),.agg (QZ x O)] w fun e w'=>Qm g w b most m M sc sa (M.mem x) e w':=by
 have E:=Qb (QmC (M:=M) p);generalize M.mem x=s at E |-;obtain⟨xo,f,T,Q,o,xn,xr,xs⟩:=x
 simp only at p
 subst p;have u:=Qb (QY w (.cells (QZ ⟨6,f,T,Q,o,xn,xr,xs⟩ O) 65));have i:=Qb (Qh w (QZ ⟨6,f,T,Q,o,xn,xr,xs⟩ O) 65);have P:=Qb S;have HI:=Qb I;have C:=Qb (S.below u.out);have hl:=I.len;clear S I;go_enter func124,ntmps124
 go_upto_region 1 with fail
 generalize w.alloc (.cells (QZ ⟨6,f,T,Q,o,xn,xr,xs⟩ O) 65)=d at u i C |-;generalize w.heap.size=X at i |-;have x0:d.cell? ⟨X,0,none⟩=some (.int .i64 6):=Qa i.out 0 _ Yz;have x1:d.cell? ⟨X,1,none⟩=some (.int .i64 f):=Qa i.out 1 _ Yz;have x2:d.cell? ⟨X,2,none⟩=some (.int .i64 T):=Qa i.out 2 _ Yz;have x3:d.cell? ⟨X,3,none⟩=some (.int .i64 Q):=Qa i.out 3 _ Yz;have x4:d.cell? ⟨X,4,none⟩=some (.int .i64 o):=Qa i.out 4 _ Yz;have q0:=C.out.heapC;have CK:Hid (∀ a,Below d.heap.size d a->Calls prog 150 #[.pointer (some ⟨g.t.c,0,none⟩),.int .i64 f,.int .i64 3] a fun e w'=>Ask (QP M.top.v f 3) QF e/\Below a.heap.size a w'):=fun a bx=>Qao (C.out.top.below bx) (by omega) f 3;have CG:Hid (∀ y k a,QP M.top.v f 3=some y->Below d.heap.size d a->Calls prog 161 #[.pointer (some ⟨g.bh,0,none⟩),QF y,.int .i64 k] a fun e w'=>e=.returned (.tuple #[QF (M.h.get y k).1,.int .i64 (M.h.get y k).2])/\Below a.heap.size a w'):=fun y k a H bx=>HI.out.get (C.out.heap.below bx) (HI.out.kind H).1 k;go_upto_region 3 with fail
 refine iq3 (ob:=none) (oc:=none) (on:=none) q0 x1 x2 x3 x4 CK CG (Qd9 _) _ _ Yz (Xg (by kernel_rfl)) Yz Yz Yz ?_ ?_
 ·rintro ch a' q aa ⟨rfl,ac,U⟩;refine⟨aa,?_⟩
  rw[E.out,ac]
  exact Qm.stuck (XTo.same P.out (u.out.trans (U.mono u.out.size)))
 ·rintro vs q ⟨y,H,G⟩ ⟨Z,B,hZ,⟨r,⟨y',D,hr⟩,j⟩,-⟩ U;rw[H] at D
  cases D
  simp only[QT,Act.put,List.setIfInBounds_toArray,List.set_cons_zero,List.set_cons_succ,G,B]
  have z:Hid (s=if (M.h.get y o).2=0 then some (M.push [(M.h.get y o).1]) else none):=by show _=_;rw[E.out,H]
  rw[<-hr] at z
  have J:=Qb (u.out.trans (U.mono u.out.size));have W:=Qb (P.out.below J.out);have Y:=Qb j;clear G B H hr j U E CG CK x0 x1 x2 x3 x4 q0 C u i;generalize (M.h.get y o).2=cd at z |-;by_cases A:cd=0
  ·have ab:(cd==0)=true:=by simpa using A
   have E3:Hid (s=some (M.push [r])):=by show _=_;rw[z.out,Xs A]
   obtain⟨L,K,N,V⟩:=r
   have y0:q.cell? ⟨Z,0,none⟩=some (.int .i64 L):=Qa Y.out 0 _ Yz;have y1:q.cell? ⟨Z,1,none⟩=some (.int .i64 K):=Qa Y.out 1 _ Yz;have y2:q.cell? ⟨Z,2,none⟩=some (.int .i64 N):=Qa Y.out 2 _ Yz;have y3:q.cell? ⟨Z,3,none⟩=some (.int .i64 V):=Qa Y.out 3 _ Yz;have B5:=QY q (.cells #[.int .i64 L,.int .i64 K,.int .i64 N,.int .i64 V] 183);have CM:=Qb (fun cp=>ZM (W.out.below B5) (l:=[⟨L,K,N,V⟩]) (cp:=cp) Yz (Qf7 q L K N V) (by simp;omega));have T5:=Qb ((P.out.stepB J.out).trans (W.out.stepB B5));clear B5 Y A z W J;go_wp2_with (go_at_call 113;refine(ZB _).mono ?_;rintro e' w' ⟨rfl,F⟩;have F:=F.symm;subst F)
   refine(CM.out _).mono ?_
   rintro e' w6 ⟨rfl,h6⟩;have R:=Qb (XTo.then T5.out Yz Yz h6);clear h6 CM T5 y0 y1 y2 y3;go_wp2
   exact Xz (v:=.tuple #[]) (by simp[results,results124,go_sem]) Yz (by rw[E3.out];exact Qm.go R.out)
  ·have ab:(cd==0)=false:=by simpa using A
   have E3:Hid (s=none):=by show _=_;rw[z.out,Xr A]
   clear A z;go_wp2_with fail
   refine(Zf _).mono ?_
   rintro e' w' ⟨rfl,F⟩;subst F;exact⟨Yz,by rw[E3.out];exact Qm.stuck (XTo.same P.out J.out)⟩
theorem QkO (S:MAt w b most m M sc sa g) (I:Qaf n M){x:Qz}(J:IP) (s:x.op=7) :
 Calls prog 124 #[.pointer (some ⟨b,0,none⟩),.pointer (some ⟨g.t.c,0,none⟩),.agg (QZ x J)] w fun e w'=>Qm g w b most m M sc sa (M.mem x) e w':=by
 have E:=Qb (Qmb (M:=M) s);generalize M.mem x=i at E |-;obtain⟨xo,j,u,K,d,xn,xr,O⟩:=x
 simp only at s
 subst s;have A:=Qb (QY w (.cells (QZ ⟨7,j,u,K,d,xn,xr,O⟩ J) 65));have r:=Qb (Qh w (QZ ⟨7,j,u,K,d,xn,xr,O⟩ J) 65);have W:=Qb S;have Q:=Qb I;have D:=Qb (S.below A.out);have hl:=I.len;clear S I;go_enter func124,ntmps124
 go_upto_region 1 with fail
 generalize w.alloc (.cells (QZ ⟨7,j,u,K,d,xn,xr,O⟩ J) 65)=f at A r D |-;generalize w.heap.size=X at r |-;have x0:f.cell? ⟨X,0,none⟩=some (.int .i64 7):=Qa r.out 0 _ Z;have x1:f.cell? ⟨X,1,none⟩=some (.int .i64 j):=Qa r.out 1 _ Z;have x2:f.cell? ⟨X,2,none⟩=some (.int .i64 u):=Qa r.out 2 _ Z;have x3:f.cell? ⟨X,3,none⟩=some (.int .i64 K):=Qa r.out 3 _ Z;have x4:f.cell? ⟨X,4,none⟩=some (.int .i64 d):=Qa r.out 4 _ Z;have q0:=D.out.heapC;have CK:Hid (∀ a,Below f.heap.size f a->Calls prog 150 #[.pointer (some ⟨g.t.c,0,none⟩),.int .i64 j,.int .i64 3] a fun e w'=>Ask (QP M.top.v j 3) QF e/\Below a.heap.size a w'):=fun a bx=>Qao (D.out.top.below bx) (by omega) j 3;have CB:Hid (∀ a,Below f.heap.size f a->Calls prog 115 #[.pointer (some ⟨g.t.c,0,none⟩),.int .i64 u] a fun e w'=>Ask (QA M.top.v u) QF e/\Below a.heap.size a w'):=fun a bx=>ZQ (D.out.top.below bx) (by omega) u;go_upto_region 7 with fail
 refine iq7 (oc:=none) (on:=none) q0 x1 x2 x3 x4 CK CB _ _ Z (Xg (by kernel_rfl)) Z Z Z ?_ ?_
 ·rintro ch a' w9 P ⟨rfl,aa,b9⟩;refine⟨P,?_⟩
  have F:i=none:=by
   rw[E.out]
   rcases aa with h0 | h0
   ·rw[h0]
   ·cases QP M.top.v j 3 with
    | none=>rfl
    | some y=>simp only;rw[h0]
  rw[F]
  exact Qm.stuck (XTo.same W.out (A.out.trans (b9.mono A.out.size)))
 ·rintro T vs w5 l ⟨y,hy,o⟩ p ⟨z,U,q⟩ b5;show wpList _ T _ [_,_] (QT _ vs [41,42,43,44,45,46,47,48,49,50,51,52,53,54]) w5;simp only[QT,Act.put,List.setIfInBounds_toArray,List.set_cons_zero,List.set_cons_succ,l,o,p,q]
  have B:Hid (i=if (M.h.set y d z).1=0 then some { M with h:=(M.h.set y d z).2 } else none):=by show _=_;rw[E.out,hy];simp only;rw[U]
  have B5:=Qb (A.out.trans (b5.mono A.out.size));have L:=Qb (W.out.below B5.out);have CS:=Qb (Q.out.set L.out.heap (Q.out.kind hy).1 (Q.out.val U).2 d);have N:=Qb (QfN (h:=M.h) (y:=y) (z:=z) (k:=d));clear l o p q hy U b5 E CK CB x0 x1 x2 x3 x4 q0 D A r;go_upto_region 8 with (go_at_call 162;refine CS.out.mono ?_;rintro e' w6 ⟨rfl,h6⟩)
  have R:=Qb (XTo.then (W.out.stepB B5.out) Z Z (L.out.toHeap h6));clear h6 CS L B5;generalize M.h.set y d z=st at B R N |-;obtain⟨V,sh⟩:=st
  simp only at B R N |-
  by_cases C:V=0
  ·have H:(V==0)=true:=by simpa using C
   have F:Hid (i=some { M with h:=sh }):=by show _=_;rw[B.out,Xs C]
   clear C B;go_wp2_with (go_at_call 113;refine(ZB _).mono ?_;rintro e' w' ⟨rfl,G⟩;have G:=G.symm;subst G)
   exact Xz (v:=.tuple #[]) (by simp[results,results124,go_sem]) Z (by rw[F.out];exact Qm.go R.out)
  ·have H:(V==0)=false:=by simpa using C
   have F:Hid (i=none):=by show _=_;rw[B.out,Xr C]
   clear C B;go_wp2_with fail
   refine(Zf _).mono ?_
   rintro e' w' ⟨rfl,G⟩;subst G;exact⟨Z,by rw[F.out];exact Qm.stuck (by have:=R.out;rw[N.out (by simpa using H)] at this;exact this)⟩
theorem QkR (S:MAt w b most m M sc sa g) (I:Qaf n M){x:Qz}(U:IP) (u:x.op=9) :
 Calls prog 124 #[.pointer (some ⟨b,0,none⟩),.pointer (some ⟨g.t.c,0,none⟩),.agg (QZ x U)] w fun e w'=>Qm g w b most m M sc sa (M.mem x) e w':=by
 have E:=Qb (Qmy (M:=M) u);generalize M.mem x=f at E |-;obtain⟨xo,i,A,W,V,xn,xr,xs⟩:=x
 simp only at u
 subst u;have B:=Qb (QY w (.cells (QZ ⟨9,i,A,W,V,xn,xr,xs⟩ U) 65));have o:=Qb (Qh w (QZ ⟨9,i,A,W,V,xn,xr,xs⟩ U) 65);have K:=Qb S;have HI:=Qb I;have C:=Qb (S.below B.out);have hl:=I.len;clear S I;go_enter func124,ntmps124
 go_upto_region 1 with fail
 generalize w.alloc (.cells (QZ ⟨9,i,A,W,V,xn,xr,xs⟩ U) 65)=d at B o C |-;generalize w.heap.size=X at o |-;have x0:d.cell? ⟨X,0,none⟩=some (.int .i64 9):=Qa o.out 0 _ Yz;have x1:d.cell? ⟨X,1,none⟩=some (.int .i64 i):=Qa o.out 1 _ Yz;have x2:d.cell? ⟨X,2,none⟩=some (.int .i64 A):=Qa o.out 2 _ Yz;have x3:d.cell? ⟨X,3,none⟩=some (.int .i64 W):=Qa o.out 3 _ Yz;have x4:d.cell? ⟨X,4,none⟩=some (.int .i64 V):=Qa o.out 4 _ Yz;have q0:=C.out.heapC;have CK:Hid (∀ a,Below d.heap.size d a->Calls prog 150 #[.pointer (some ⟨g.t.c,0,none⟩),.int .i64 i,.int .i64 4] a fun e w'=>Ask (QP M.top.v i 4) QF e/\Below a.heap.size a w'):=fun a L=>Qao (C.out.top.below L) (by omega) i 4;have CN:Hid (∀ a,Below d.heap.size d a->Calls prog 108 #[.pointer (some ⟨g.t.c,0,none⟩),.int .i64 A] a fun e w'=>Ask (Qt M.top.v A) (.int .i64) e/\Below a.heap.size a w'):=fun a L=>ZC (C.out.top.below L) (by omega) A;have CG:Hid (∀ y k a,QP M.top.v i 4=some y->Below d.heap.size d a->Calls prog 161 #[.pointer (some ⟨g.bh,0,none⟩),QF y,.int .i64 k] a fun e w'=>e=.returned (.tuple #[QF (M.h.get y k).1,.int .i64 (M.h.get y k).2])/\Below a.heap.size a w'):=fun y k a O L=>HI.out.get (C.out.heap.below L) (HI.out.kind O).1 k;go_upto_region 10 with fail
 refine Qmw (ob:=none) (oc:=none) q0 x1 x2 x3 x4 CK CN CG (Qd9 _) _ _ Yz (Xg (by kernel_rfl)) Yz Yz Yz ?_ ?_
 ·rintro ch a' z aa ⟨rfl,ab,b9⟩;refine⟨aa,?_⟩
  have s:f=none:=by
   rw[E.out]
   rcases ab with j | j
   ·rw[j]
   ·cases QP M.top.v i 4 with
    | none=>rfl
    | some y=>simp only;rw[j]
  rw[s]
  exact Qm.stuck (XTo.same K.out (B.out.trans (b9.mono B.out.size)))
 ·rintro vs z ⟨y,q,O,hq,N⟩ ⟨Z,F,hZ,⟨r,⟨y',q',G,J,hr⟩,p⟩,-⟩ b9;rw[O] at G
  cases G
  rw[hq] at J
  cases J
  simp only[QT,Act.put,List.setIfInBounds_toArray,List.set_cons_zero,List.set_cons_succ,N,F]
  have D:Hid (f=if (M.h.get y q).2=1 then some (M.over 2) else if (M.h.get y q).2=0 then some (M.push [(M.h.get y q).1]) else none):=by show _=_;rw[E.out,O];simp only;rw[hq]
  rw[<-hr] at D
  have H:=Qb (B.out.trans (b9.mono B.out.size));have S9:=Qb (K.out.below H.out);have Y:=Qb p;clear N F O hq hr p b9 E CG CK CN x0 x1 x2 x3 x4 q0 C B o;generalize (M.h.get y q).2=cd at D |-;go_upto_region 11 with fail
  go_wp2_with fail
  refine(QaE _ _ _ _).mono ?_
  rintro e' w' ⟨hw,ha⟩;have hw:=hw.symm;subst hw;rcases ha with ⟨j,rfl⟩|⟨j,h1,rfl⟩|⟨j,h1,rfl⟩
  rotate_left
  ·have s:f=some (M.over 2):=by rw[D.out,Xs h1]
   exact⟨Yz,by rw[s];exact Qm.end_ (XTo.same K.out H.out)⟩
  ·have s:f=none:=by rw[D.out,Xr h1,Xr j]
   exact⟨Yz,by rw[s];exact Qm.stuck (XTo.same K.out H.out)⟩
  have s:Hid (f=some (M.push [r])):=by show _=_;rw[D.out,Xr (by omega),Xs j]
  obtain⟨Q,P,T,rn⟩:=r
  have y0:z.cell? ⟨Z,0,none⟩=some (.int .i64 Q):=Qa Y.out 0 _ Yz;have y1:z.cell? ⟨Z,1,none⟩=some (.int .i64 P):=Qa Y.out 1 _ Yz;have y2:z.cell? ⟨Z,2,none⟩=some (.int .i64 T):=Qa Y.out 2 _ Yz;have y3:z.cell? ⟨Z,3,none⟩=some (.int .i64 rn):=Qa Y.out 3 _ Yz;have B5:=QY z (.cells #[.int .i64 Q,.int .i64 P,.int .i64 T,.int .i64 rn] 183);have CM:=Qb (fun cp=>ZM (S9.out.below B5) (l:=[⟨Q,P,T,rn⟩]) (cp:=cp) Yz (Qf7 z Q P T rn) (by simp;omega));have T5:=Qb ((K.out.stepB H.out).trans (S9.out.stepB B5));clear B5 Y j D S9 H;go_wp2_with fail
  refine(CM.out _).mono ?_
  rintro e' w6 ⟨rfl,h6⟩;have R:=Qb (XTo.then T5.out Yz Yz h6);clear h6 CM T5 y0 y1 y2 y3;go_wp2
  exact Xz (v:=.tuple #[]) (by simp[results,results124,go_sem]) Yz (by rw[s.out];exact Qm.go R.out)
theorem QjZ (S:MAt w b most m M sc sa g) (I:Qaf n M){x:Qz}(L:IP) (C:x.op=10) :
 Calls prog 124 #[.pointer (some ⟨b,0,none⟩),.pointer (some ⟨g.t.c,0,none⟩),.agg (QZ x L)] w fun e w'=>Qm g w b most m M sc sa (M.mem x) e w':=by
 have E:=Qb (QlK (M:=M) C I.gd);generalize M.mem x=j at E |-;obtain⟨xo,o,s,B,N,xn,xr,P⟩:=x
 simp only at C
 subst C;have D:=Qb (QY w (.cells (QZ ⟨10,o,s,B,N,xn,xr,P⟩ L) 65));have r:=Qb (Qh w (QZ ⟨10,o,s,B,N,xn,xr,P⟩ L) 65);have HS:=Qb S;have U:=Qb I;have F:=Qb (S.below D.out);have hl:=I.len;clear S I;go_enter func124,ntmps124
 go_upto_region 1 with fail
 generalize w.alloc (.cells (QZ ⟨10,o,s,B,N,xn,xr,P⟩ L) 65)=i at D r F |-;generalize w.heap.size=X at r |-;have x0:i.cell? ⟨X,0,none⟩=some (.int .i64 10):=Qa r.out 0 _ Z;have x1:i.cell? ⟨X,1,none⟩=some (.int .i64 o):=Qa r.out 1 _ Z;have x2:i.cell? ⟨X,2,none⟩=some (.int .i64 s):=Qa r.out 2 _ Z;have x3:i.cell? ⟨X,3,none⟩=some (.int .i64 B):=Qa r.out 3 _ Z;have x4:i.cell? ⟨X,4,none⟩=some (.int .i64 N):=Qa r.out 4 _ Z;have q0:=F.out.heapC;have CK:Hid (∀ a,Below i.heap.size i a->Calls prog 150 #[.pointer (some ⟨g.t.c,0,none⟩),.int .i64 o,.int .i64 4] a fun e w'=>Ask (QP M.top.v o 4) QF e/\Below a.heap.size a w'):=fun a H=>Qao (F.out.top.below H) (by omega) o 4;have CN:Hid (∀ a,Below i.heap.size i a->Calls prog 108 #[.pointer (some ⟨g.t.c,0,none⟩),.int .i64 s] a fun e w'=>Ask (Qt M.top.v s) (.int .i64) e/\Below a.heap.size a w'):=fun a H=>ZC (F.out.top.below H) (by omega) s;have CC:Hid (∀ a,Below i.heap.size i a->Calls prog 115 #[.pointer (some ⟨g.t.c,0,none⟩),.int .i64 B] a fun e w'=>Ask (QA M.top.v B) QF e/\Below a.heap.size a w'):=fun a H=>ZQ (F.out.top.below H) (by omega) B;go_upto_region 14 with fail
 refine Ql7 (ob:=none) q0 x1 x2 x3 x4 CK CN CC _ _ Z (Xg (by kernel_rfl)) Z Z Z ?_ ?_
 ·rintro ch a' w9 T ⟨rfl,aa,b9⟩;refine⟨T,?_⟩
  have A:j=none:=by
   rw[E.out]
   cases hk:QP M.top.v o 4 with
   | none=>rfl
   | some y =>
     simp only
     cases K:Qt M.top.v s with
     | none=>rfl
     | some q =>
       simp only
       rcases aa with d | d | d
       ·rw[hk] at d;cases d
       ·rw[K] at d;cases d
       ·rw[d]
  rw[A]
  exact Qm.stuck (XTo.same HS.out (D.out.trans (b9.mono D.out.size)))
 ·rintro V vs w5 l ⟨y,hy,u⟩ ⟨q,K,p⟩ ⟨z,W,f⟩ b5;show wpList _ V _ [_,_] (QT _ vs [85,86,87,88,89,90,91,92,93,94,95,96,97,98,99,100]) w5;simp only[QT,Act.put,List.setIfInBounds_toArray,List.set_cons_zero,List.set_cons_succ,l,u,p,f]
  have G:Hid (j=if (M.h.set y q z).1=1 then some (M.over 2) else if (M.h.set y q z).1=0 then some { M with h:=(M.h.set y q z).2 } else none):=by show _=_;rw[E.out,hy];simp only;rw[K];simp only;rw[W]
  have B5:=Qb (D.out.trans (b5.mono D.out.size));have O:=Qb (HS.out.below B5.out);have CS:=Qb (U.out.set O.out.heap (U.out.kind hy).1 (U.out.val W).2 q);have J:=Qb (QfN (h:=M.h) (y:=y) (z:=z) (k:=q));clear l u p f hy W K b5 E CK CN CC x0 x1 x2 x3 x4 q0 F D r;go_upto_region 15 with (go_at_call 162;refine CS.out.mono ?_;rintro e' w6 ⟨rfl,h6⟩)
  have R:=Qb (XTo.then (HS.out.stepB B5.out) Z Z (O.out.toHeap h6));clear h6 CS O B5;generalize M.h.set y q z=st at G R J |-;obtain⟨cd,sh⟩:=st
  simp only at G R J |-
  go_wp2_with fail
  refine(QaE _ _ _ _).mono ?_
  rintro e' w' ⟨Q,ha⟩;have Q:=Q.symm;subst Q;rcases ha with ⟨d,rfl⟩|⟨d,h1,rfl⟩|⟨d,h1,rfl⟩
  rotate_left
  ·have A:j=some (M.over 2):=by rw[G.out,Xs h1]
   exact⟨Z,by rw[A];exact Qm.end_ (by have:=R.out;rw[J.out d] at this;exact this)⟩
  ·have A:j=none:=by rw[G.out,Xr h1,Xr d]
   exact⟨Z,by rw[A];exact Qm.stuck (by have:=R.out;rw[J.out d] at this;exact this)⟩
  have A:Hid (j=some { M with h:=sh }):=by show _=_;rw[G.out,Xr (by omega),Xs d]
  clear d G;go_wp2
  exact Xz (v:=.tuple #[]) (by simp[results,results124,go_sem]) Z (by rw[A.out];exact Qm.go R.out)
theorem Qju (S:MAt w b most m M sc sa g) (I:Qaf n M){x:Qz}(C:IP) (l:x.op=11) :
 Calls prog 124 #[.pointer (some ⟨b,0,none⟩),.pointer (some ⟨g.t.c,0,none⟩),.agg (QZ x C)] w fun e w'=>Qm g w b most m M sc sa (M.mem x) e w':=by
 have E:=Qb (QlA (M:=M) l);generalize M.mem x=o at E |-;obtain⟨xo,f,H,G,D,V,U,L⟩:=x
 simp only at l
 subst l;have p:=Qb (QY w (.cells (QZ ⟨11,f,H,G,D,V,U,L⟩ C) 65));have j:=Qb (Qh w (QZ ⟨11,f,H,G,D,V,U,L⟩ C) 65);have F:=Qb S;have HI:=Qb I;have s:=Qb (S.below p.out);have hl:=I.len;clear S I;go_enter func124,ntmps124
 go_upto_region 1 with fail
 generalize w.alloc (.cells (QZ ⟨11,f,H,G,D,V,U,L⟩ C) 65)=d at p j s |-;generalize w.heap.size=X at j |-;have x0:d.cell? ⟨X,0,none⟩=some (.int .i64 11):=Qa j.out 0 _ Z;have x1:d.cell? ⟨X,1,none⟩=some (.int .i64 f):=Qa j.out 1 _ Z;have x2:d.cell? ⟨X,2,none⟩=some (.int .i64 H):=Qa j.out 2 _ Z;have x3:d.cell? ⟨X,3,none⟩=some (.int .i64 G):=Qa j.out 3 _ Z;have x4:d.cell? ⟨X,4,none⟩=some (.int .i64 D):=Qa j.out 4 _ Z;have q0:=s.out.heapC;have W:Hid (∀ a,Below d.heap.size d a->Calls prog 150 #[.pointer (some ⟨g.t.c,0,none⟩),.int .i64 f,.int .i64 4] a fun e w'=>Ask (QP M.top.v f 4) QF e/\Below a.heap.size a w'):=fun a T=>Qao (s.out.top.below T) (by omega) f 4;have CL:Hid (∀ y a,QP M.top.v f 4=some y->Below d.heap.size d a->Calls prog 163 #[.pointer (some ⟨g.bh,0,none⟩),QF y] a fun e w'=>e=.returned (.tuple #[.int .i64 (M.h.len y).1,.int .i64 (M.h.len y).2])/\Below a.heap.size a w'):=fun y a A T=>HI.out.len_ (s.out.heap.below T) (HI.out.kind A).1;go_upto_region 17 with fail
 refine Qmg (ob:=none) (oc:=none) (on:=none) q0 x1 x2 x3 x4 W CL _ _ Z (Xg (by kernel_rfl)) Z Z Z ?_ ?_
 ·rintro ch a' w9 N ⟨rfl,Q,J⟩;refine⟨N,?_⟩
  rw[E.out,Q]
  exact Qm.stuck (XTo.same F.out (p.out.trans (J.mono p.out.size)))
 ·rintro vs w9 ⟨y,A,i⟩ ⟨y',u,k⟩ J;rw[A] at u
  cases u
  simp only[QT,Act.put,List.setIfInBounds_toArray,List.set_cons_zero,List.set_cons_succ,i,k]
  have q:Hid (o=if (M.h.len y).2=0 then some (M.push [Qa8 (M.h.len y).1]) else none):=by show _=_;rw[E.out,A]
  have B:=Qb (p.out.trans (J.mono p.out.size));have S9:=Qb (F.out.below B.out);clear i k A J E CL W x0 x1 x2 x3 x4 q0 s p j;generalize (M.h.len y).2=O at q |-;generalize (M.h.len y).1=ln at q |-;by_cases r:O=0
  ·have P:(O==0)=true:=by simpa using r
   have K:Hid (o=some (M.push [Qa8 ln])):=by show _=_;rw[q.out,Xs r]
   have CM:=Qb (Z3 S9.out ln (by omega));have T5:=Qb (F.out.stepB B.out);clear r q S9 B;go_wp2_with (go_at_call 113;refine(ZB _).mono ?_;rintro e' w' ⟨rfl,z⟩;have z:=z.symm;subst z)
   refine CM.out.mono ?_;rintro e' w6 ⟨rfl,h6⟩;have R:=Qb (XTo.then T5.out Z Z h6);clear h6 CM T5;go_wp2
   exact Xz (v:=.tuple #[]) (by simp[results,results124,go_sem]) Z (by rw[K.out];exact Qm.go R.out)
  ·have P:(O==0)=false:=by simpa using r
   have K:Hid (o=none):=by show _=_;rw[q.out,Xr r]
   clear r q;go_wp2_with fail
   refine(Zf _).mono ?_
   rintro e' w' ⟨rfl,z⟩;subst z;exact⟨Z,by rw[K.out];exact Qm.stuck (XTo.same F.out B.out)⟩
end
def Qco (w6:World) (o:Option IFr) (v:Value) (w:World):Prop:=∃ fr c gx n,o=some fr/\v=.pointer (some ⟨c,0,none⟩)/\w6.heap.size<=c/\w6.heap.size<=gx/\QcQ w c fr (.slice (some ⟨gx,0,none⟩) n n)
def QeD (w6:World) (o:Option IFr) (v:Value) (w:World):Prop:=∃ fr gx n,o=some fr/\v=.agg #[.int .i64 fr.f,.int .i64 fr.b,.int .i64 fr.i,.int .i64 fr.r.length,.slice (some ⟨gx,0,none⟩) n n]/\w6.heap.size<=gx/\Qgu w (.slice (some ⟨gx,0,none⟩) n n) fr.v
theorem Qco.below {w w':World}{o:Option IFr}(h:Qco w6 o v w) (b:Below w.heap.size w w'):Qco w6 o v w':=by
 obtain⟨a,c,f,n,j,e,g,d,i⟩:=h
 exact⟨a,c,f,n,j,e,g,d,i.below b⟩
theorem QeD.below {w w':World}{o:Option IFr}(h:QeD w6 o v w) (b:Below w.heap.size w w'):QeD w6 o v w':=by
 obtain⟨c,f,n,i,e,g,a⟩:=h
 exact⟨c,f,n,i,e,g,a.keep (fun x d=>b.block x (a.lt d))⟩
theorem Qbb.split {w w':World}{o:Option IFr}{e:Ending}(h:Qbb w o e w'):Below w.heap.size w w'/\((∃ fr c gx n,o=some fr/\e=.returned (.pointer (some ⟨c,0,none⟩))/\w.heap.size<=c/\w.heap.size<=gx/\QcQ w' c fr (.slice (some ⟨gx,0,none⟩) n n))\/(o=none/\e=.panicked stuckP)):=by
 obtain⟨b,h⟩:=h
 refine⟨b,?_⟩
 cases o with
 | none=>exact .inr ⟨Z,h⟩
 | some fr =>
   obtain⟨c,gx,n,f,g,d,a⟩:=h
   exact .inl ⟨fr,c,gx,n,Z,f,g,d,a⟩
theorem QcK {v:List Qj}{l:List Int}{xs:List Qj}(h:Qp v l=some xs):xs.length=l.length:=Q1 v l h
theorem Qas {r:List Int}:∀ {l rs:List Int},Zb r l=some rs->rs.length=l.length
 | [],rs,h=>by simp[Zb] at h;subst h;rfl
 | k::l,rs,h=>by
   unfold Zb at h
   cases hk:QhJ r k with
   | none=>rw[hk] at h;cases h
   | some x =>
     rw[hk] at h
     simp only at h
     cases hl:Zb r l with
     | none=>rw[hl] at h;cases h
     | some zs=>rw[hl] at h;simp at h;subst h;simp[Qas hl]
theorem QjK {m:List (Qe 6)}{M:IM}{x:Qz}{fn:Qe 6}{bl:Qk 6}(a:x.k=(k:Int)) (d:m[k]?=some fn) (c:bl.regs=fn.regs) (b:bl.params=fn.params) :
 IM.call m M x=match begunO M.top k ⟨0,x.regs,x.args⟩ bl with
  | none=>none
  | some fr=>if M.rest.length+1=40 then some (M.over 5) else some { M with top:=fr,rest:=M.top::M.rest }:=by
 unfold IM.call begunO;simp only
 cases hr:Zb M.top.r x.regs with
 | none=>simp only[ite_self]
 | some rs =>
   simp only
   cases hv:Qp M.top.v x.args with
   | none=>simp only[ite_self]
   | some xs =>
     simp only
     rw[a,XT,d]
     simp only
     rw[c,b,Qas hr,QcK hv]
     split
     ·simp
     ·rfl
theorem QkZ {fn:Qe 6}{M:IM}{t:MTo}{bl:Qk 6}(hb:fn.blocks[t.block.toNat]?=some bl):IM.to fn M t=match begunO M.top M.top.f t bl with
 | none=>none
 | some fr=>some { M with top:=fr }:=by
 unfold IM.to begunO;rw[hb]
 simp only
 cases hr:Zb M.top.r t.regs with
 | none=>simp only[ite_self]
 | some rs =>
   simp only
   cases hv:Qp M.top.v t.args with
   | none=>simp only[ite_self]
   | some xs =>
     simp only
     rw[Qas hr,QcK hv]
     split<;>rfl
def QlW (w6:World) (o:Option IFr) (b c X fi bi ml cm nr cr na ca:Nat) (pm pr pa:Option Addr) (t:Tmp) (v:Value) (w:World):Prop :=
 match ([(19,Qco w6 o),(6,Qco w6 o)]:List (Tmp × (Value->World->Prop))).lookup t with
 | some p=>p v w
 | none=>v=(([(0,.pointer (some ⟨b,0,none⟩)),(1,.pointer (some ⟨c,0,none⟩)),(5,.pointer (some ⟨X,0,none⟩)),(7,.pointer (some ⟨c,0,none⟩)),(8,.pointer (some ⟨b,0,none⟩)),(9,.pointer (some ⟨b,0,none⟩)),(10,.pointer (some ⟨b,1,none⟩)),(11,.agg #[.slice pm ml cm]),(12,.pointer (some ⟨X,4,none⟩)),(13,.int .i64 (fi:Int)),(14,.pointer (some ⟨X,6,none⟩)),(15,.slice pr nr cr),(16,.pointer (some ⟨X,7,none⟩)),(17,.slice pa na ca),(18,.agg #[.int .i64 0,.slice pr nr cr,.slice pa na ca])]:List (Tmp × Value)).lookup t).getD undef
theorem ic1 {o:Option IFr}{b bi s q r:Nat}{l:Option Addr}(W:w6.cell? ⟨b,1,none⟩=some (.slice pm s cm)) (G:w6.cell? ⟨X,4,none⟩=some (.int .i64 (fi:Int))) (O:w6.cell? ⟨X,6,none⟩=some (.slice l q r)) (J:w6.cell? ⟨X,7,none⟩=some (.slice pa na ca)) (L:Hid (∀ wx,Below w6.heap.size w6 wx->Calls prog 149 #[.pointer (some ⟨c,0,none⟩),.agg #[.slice pm s cm],.int .i64 (fi:Int),.agg #[.int .i64 0,.slice l q r,.slice pa na ca]] wx fun e w'=>Qbb wx o e w'))
 (a:Act) (m:Nat) (hn:a.tmps.size=m) (z:37<=m) (U:a.tmps.getD 0 undef=.pointer (some ⟨b,0,none⟩)) (B:a.tmps.getD 1 undef=.pointer (some ⟨c,0,none⟩)) (S:a.tmps.getD 5 undef=.pointer (some ⟨X,0,none⟩))
 (H:∀ ch a' w',a'.defers=a.defers->(fun ch w=>ch=stuckP/\o=none/\Below w6.heap.size w6 w) ch w'->Q (.panic ch) a' w')
 (hend:∀ vs w',(Qco w6 o) (vs 6) w'->Below w6.heap.size w6 w'->Q .normal (QT a vs [7,8,9,10,11,12,13,14,15,16,17,18,19,6]) w') :
 Code.wp prog ((Tryz.f123.body.bind (Qn 1)).getD .skip) Q a w6:=by
 conv=>arg 2;whnf
 refine ZH (QlW w6 o b c X fi bi s cm q r na ca pm l pa) (fun w=>Below w6.heap.size w6 w) (fun w w'=>Below w.heap.size w w') (fun ch w=>ch=stuckP/\o=none/\Below w6.heap.size w6 w) H (outs:=[0,1,5]) (gs:=[]) (bs:=[true,true,true,true,true,true,true,true,true,true,true,true,true,true]) (by kernel_rfl) (n:=37) hn z (by kernel_rfl) ?hR ?hG (QH Zr 1) ⟨U,B,S,Y⟩ ?hA ?hend
 case hR =>
  intro t v w w' F h;unfold QlW at h |-;split at h
  ·rename_i p j
   simp only[List.lookup_cons,List.lookup_nil] at j
   split at j
   ·cases j;exact h.below F
   ·split at j
    ·cases j;exact h.below F
    ·cases j
  ·exact h
 case hG=>exact Y
 case hend=>exact fun vs w' f g=>hend vs w' (g 6 (by kernel_rfl)) f
 case hA =>
  refine⟨fun a w f g K i=>?_,?_⟩
  ·obtain⟨d,-⟩:=g
   have d:a.tmps.getD 1 undef=.pointer (some ⟨c,0,none⟩):=d;go_simp;exact i _ _ Zr f Z
  refine⟨fun a w f g K i=>?_,?_⟩
  ·obtain⟨d,-⟩:=g
   have d:a.tmps.getD 0 undef=.pointer (some ⟨b,0,none⟩):=d;go_simp;exact i _ _ Zr f Z
  refine⟨fun a w f g K i=>?_,?_⟩
  ·obtain⟨d,-⟩:=g
   have d:a.tmps.getD 8 undef=.pointer (some ⟨b,0,none⟩):=d;go_simp;exact i _ _ Zr f Z
  refine⟨fun a w f g K i=>?_,?_⟩
  ·obtain⟨d,-⟩:=g
   have d:a.tmps.getD 9 undef=.pointer (some ⟨b,0,none⟩):=d;go_simp;exact i _ _ Zr f Z
  refine⟨fun a w f g K i=>?_,?_⟩
  ·obtain⟨d,-⟩:=g
   have d:a.tmps.getD 10 undef=.pointer (some ⟨b,1,none⟩):=d;have A:=QI W f;go_simp;exact i _ _ Zr f Z
  refine⟨fun a w f g K i=>?_,?_⟩
  ·obtain⟨d,-⟩:=g
   have d:a.tmps.getD 5 undef=.pointer (some ⟨X,0,none⟩):=d;go_simp;exact i _ _ Zr f Z
  refine⟨fun a w f g K i=>?_,?_⟩
  ·obtain⟨d,-⟩:=g
   have d:a.tmps.getD 12 undef=.pointer (some ⟨X,4,none⟩):=d;have A:=QI G f;go_simp;exact i _ _ Zr f Z
  refine⟨fun a w f g K i=>?_,?_⟩
  ·obtain⟨d,-⟩:=g
   have d:a.tmps.getD 5 undef=.pointer (some ⟨X,0,none⟩):=d;go_simp;exact i _ _ Zr f Z
  refine⟨fun a w f g K i=>?_,?_⟩
  ·obtain⟨d,-⟩:=g
   have d:a.tmps.getD 14 undef=.pointer (some ⟨X,6,none⟩):=d;have A:=QI O f;go_simp;exact i _ _ Zr f Z
  refine⟨fun a w f g K i=>?_,?_⟩
  ·obtain⟨d,-⟩:=g
   have d:a.tmps.getD 5 undef=.pointer (some ⟨X,0,none⟩):=d;go_simp;exact i _ _ Zr f Z
  refine⟨fun a w f g K i=>?_,?_⟩
  ·obtain⟨d,-⟩:=g
   have d:a.tmps.getD 16 undef=.pointer (some ⟨X,7,none⟩):=d;have A:=QI J f;go_simp;exact i _ _ Zr f Z
  refine⟨fun a w f g K i=>?_,?_⟩
  ·obtain⟨d,k,-⟩:=g
   have d:a.tmps.getD 15 undef=.slice l q r:=d;rw[Za] at d
   have k:a.tmps.getD 17 undef=.slice pa na ca:=k;rw[Za] at k
   go_simp;exact i _ _ Zr f Z
  refine⟨fun a w f g K i=>?_,?_⟩
  ·obtain⟨d,k,E,D,-⟩:=g
   have d:a.tmps.getD 7 undef=.pointer (some ⟨c,0,none⟩):=d;have k:a.tmps.getD 11 undef=.agg #[.slice pm s cm]:=k;have E:a.tmps.getD 13 undef=.int .i64 (fi:Int):=E;have D:a.tmps.getD 18 undef=.agg #[.int .i64 0,.slice l q r,.slice pa na ca]:=D;go_simp;refine Xm (L.out w f) ?_;rintro r7 w7 C;obtain⟨y,C⟩:=C.split
   rcases C with ⟨T,M,V,P,u,rfl,B,N,R⟩|⟨u,rfl⟩
   rotate_left
   ·exact⟨_,Z,Z,u,f.trans (y.mono f.size)⟩
   go_simp;exact i _ _ y (f.trans (y.mono f.size)) ⟨T,M,V,P,u,Z,Zt f.size B,Zt f.size N,R⟩
  refine⟨fun a w f g K i=>?_,?_⟩
  ·obtain⟨d,-⟩:=g
   have d:(Qco w6 o) (a.tmps.getD 19 undef) w:=d;generalize x:a.tmps.getD 19 undef=I at d;subst x;rw[Za] at d
   go_simp;exact i _ _ Zr f d
  trivial
def Ql0 (w6:World) (o:Option IFr) (b c X fi bi ml cm nr cr na ca:Nat) (pm pr pa:Option Addr) (t:Tmp) (v:Value) (w:World):Prop :=
 match ([(17,Qco w6 o),(18,Qco w6 o),(19,QeD w6 o)]:List (Tmp × (Value->World->Prop))).lookup t with
 | some p=>p v w
 | none=>v=(([(0,.pointer (some ⟨b,0,none⟩)),(1,.pointer (some ⟨c,0,none⟩)),(5,.pointer (some ⟨X,0,none⟩)),(6,.pointer (some ⟨c,0,none⟩)),(7,.pointer (some ⟨c,0,none⟩)),(8,.pointer (some ⟨b,0,none⟩)),(9,.pointer (some ⟨b,0,none⟩)),(10,.pointer (some ⟨b,1,none⟩)),(11,.agg #[.slice pm ml cm]),(12,.pointer (some ⟨c,0,none⟩)),(13,.pointer (some ⟨c,0,none⟩)),(14,.pointer (some ⟨c,0,none⟩)),(15,.int .i64 (fi:Int)),(16,.agg #[.int .i64 (bi:Int),.slice pr nr cr,.slice pa na ca]),(20,.pointer (some ⟨c,0,none⟩))]:List (Tmp × Value)).lookup t).getD undef
theorem ij1 {o:Option IFr}{b A B C:Nat}{z:Option Addr}(q1:w6.cell? ⟨b,1,none⟩=some (.slice pm A cm)) (T:w6.cell? ⟨c,0,none⟩=some (.int .i64 (fi:Int))) (O:w6.cell? ⟨X,0,none⟩=some (.int .i64 (bi:Int))) (U:w6.cell? ⟨X,1,none⟩=some (.slice z B C)) (P:w6.cell? ⟨X,2,none⟩=some (.slice pa na ca)) (S:Hid (∀ wx,Below w6.heap.size w6 wx->Calls prog 149 #[.pointer (some ⟨c,0,none⟩),.agg #[.slice pm A cm],.int .i64 (fi:Int),.agg #[.int .i64 (bi:Int),.slice z B C,.slice pa na ca]] wx fun e w'=>Qbb wx o e w'))
 (a:Act) (m:Nat) (hn:a.tmps.size=m) (G:21<=m) (W:a.tmps.getD 0 undef=.pointer (some ⟨b,0,none⟩)) (q:a.tmps.getD 1 undef=.pointer (some ⟨c,0,none⟩)) (V:a.tmps.getD 5 undef=.pointer (some ⟨X,0,none⟩))
 (R:∀ ch a' w',a'.defers=a.defers->(fun ch w=>ch=stuckP/\o=none/\Below w6.heap.size w6 w) ch w'->Q (.panic ch) a' w')
 (hend:∀ ops vs w',vs 20=.pointer (some ⟨c,0,none⟩)->(QeD w6 o) (vs 19) w'->Below w6.heap.size w6 w'->wpList prog ops Q (Qb8 15 ((Tryz.f107.body.bind (Qn 1)).getD .skip)) (QT a vs [6,7,8,9,10,11,12,13,14,15,16,17,18,19,20]) w') :
 Code.wp prog ((Tryz.f107.body.bind (Qn 1)).getD .skip) Q a w6:=by
 conv=>arg 2;whnf
 refine Q0 15 (Ql0 w6 o b c X fi bi A cm B C na ca pm z pa) (fun w=>Below w6.heap.size w6 w) (fun w w'=>Below w.heap.size w w') (fun ch w=>ch=stuckP/\o=none/\Below w6.heap.size w6 w) R (outs:=[0,1,5]) (gs:=[]) (bs:=[true,true,true,true,true,true,true,true,true,true,true,true,true,true,true]) (by kernel_rfl) (n:=21) hn G (by kernel_rfl) (by kernel_rfl) ?hR ?hG (QH Zr 1) ⟨W,q,V,Y⟩ ?hA ?hend
 case hR =>
  intro t v w w' H h;unfold Ql0 at h |-;split at h
  ·rename_i p k
   simp only[List.lookup_cons,List.lookup_nil] at k
   split at k
   ·cases k;exact h.below H
   ·split at k
    ·cases k;exact h.below H
    ·split at k
     ·cases k;exact h.below H
     ·cases k
  ·exact h
 case hG=>exact Y
 case hend=>exact fun ops vs w' f g=>hend ops vs w' (g 20 (by kernel_rfl)) (g 19 (by kernel_rfl)) f
 case hA =>
  refine⟨fun a w f g K i=>?_,?_⟩
  ·obtain⟨d,-⟩:=g
   have d:a.tmps.getD 1 undef=.pointer (some ⟨c,0,none⟩):=d;go_simp;exact i _ _ Zr f Z
  refine⟨fun a w f g K i=>?_,?_⟩
  ·obtain⟨d,-⟩:=g
   have d:a.tmps.getD 1 undef=.pointer (some ⟨c,0,none⟩):=d;go_simp;exact i _ _ Zr f Z
  refine⟨fun a w f g K i=>?_,?_⟩
  ·obtain⟨d,-⟩:=g
   have d:a.tmps.getD 0 undef=.pointer (some ⟨b,0,none⟩):=d;go_simp;exact i _ _ Zr f Z
  refine⟨fun a w f g K i=>?_,?_⟩
  ·obtain⟨d,-⟩:=g
   have d:a.tmps.getD 8 undef=.pointer (some ⟨b,0,none⟩):=d;go_simp;exact i _ _ Zr f Z
  refine⟨fun a w f g K i=>?_,?_⟩
  ·obtain⟨d,-⟩:=g
   have d:a.tmps.getD 9 undef=.pointer (some ⟨b,0,none⟩):=d;go_simp;exact i _ _ Zr f Z
  refine⟨fun a w f g K i=>?_,?_⟩
  ·obtain⟨d,-⟩:=g
   have d:a.tmps.getD 10 undef=.pointer (some ⟨b,1,none⟩):=d;have M:=QI q1 f;go_simp;exact i _ _ Zr f Z
  refine⟨fun a w f g K i=>?_,?_⟩
  ·obtain⟨d,-⟩:=g
   have d:a.tmps.getD 1 undef=.pointer (some ⟨c,0,none⟩):=d;go_simp;exact i _ _ Zr f Z
  refine⟨fun a w f g K i=>?_,?_⟩
  ·obtain⟨d,-⟩:=g
   have d:a.tmps.getD 12 undef=.pointer (some ⟨c,0,none⟩):=d;go_simp;exact i _ _ Zr f Z
  refine⟨fun a w f g K i=>?_,?_⟩
  ·obtain⟨d,-⟩:=g
   have d:a.tmps.getD 13 undef=.pointer (some ⟨c,0,none⟩):=d;go_simp;exact i _ _ Zr f Z
  refine⟨fun a w f g K i=>?_,?_⟩
  ·obtain⟨d,-⟩:=g
   have d:a.tmps.getD 14 undef=.pointer (some ⟨c,0,none⟩):=d;have M:=QI T f;go_simp;exact i _ _ Zr f Z
  refine⟨fun a w f g K i=>?_,?_⟩
  ·obtain⟨d,-⟩:=g
   have d:a.tmps.getD 5 undef=.pointer (some ⟨X,0,none⟩):=d;have M:=QI O f;have c1:=QI U f;have c2:=QI P f;go_simp;exact i _ _ Zr f Z
  refine⟨fun a w f g K i=>?_,?_⟩
  ·obtain⟨d,N,L,J,-⟩:=g
   have d:a.tmps.getD 7 undef=.pointer (some ⟨c,0,none⟩):=d;have N:a.tmps.getD 11 undef=.agg #[.slice pm A cm]:=N;have L:a.tmps.getD 15 undef=.int .i64 (fi:Int):=L;have J:a.tmps.getD 16 undef=.agg #[.int .i64 (bi:Int),.slice z B C,.slice pa na ca]:=J;go_simp;refine Xm (S.out w f) ?_;rintro r7 w7 I;obtain⟨F,I⟩:=I.split
   rcases I with ⟨u,y,x,s,l,rfl,q,r,j⟩|⟨l,rfl⟩
   rotate_left
   ·exact⟨_,Z,Z,l,f.trans (F.mono f.size)⟩
   go_simp;exact i _ _ F (f.trans (F.mono f.size)) ⟨u,y,x,s,l,Z,Zt f.size q,Zt f.size r,j⟩
  refine⟨fun a w f g K i=>?_,?_⟩
  ·obtain⟨d,-⟩:=g
   have d:(Qco w6 o) (a.tmps.getD 17 undef) w:=d;generalize D:a.tmps.getD 17 undef=E at d;obtain⟨u,y,x,s,l,rfl,q,r,j⟩:=d
   go_simp;exact i _ _ Zr f ⟨u,y,x,s,l,Z,q,r,j⟩
  refine⟨fun a w f g K i=>?_,?_⟩
  ·obtain⟨d,-⟩:=g
   have d:(Qco w6 o) (a.tmps.getD 18 undef) w:=d;generalize D:a.tmps.getD 18 undef=E at d;obtain⟨u,y,x,s,l,rfl,q,r,j⟩:=d
   have e0:=Qa j.1 0 _ Z;have e1:=Qa j.1 1 _ Z;have e2:=Qa j.1 2 _ Z;have e3:=Qa j.1 3 _ Z;have e4:=Qa j.1 4 _ Z;go_simp;exact i _ _ Zr f ⟨u,x,s,l,Z,r,j.2⟩
  refine⟨fun a w f g K i=>?_,?_⟩
  ·obtain⟨d,-⟩:=g
   have d:a.tmps.getD 6 undef=.pointer (some ⟨c,0,none⟩):=d;go_simp;exact i _ _ Zr f Z
  trivial
section
variable {w w' w2:World}{b most n:Nat}{m:List (Qe 6)}{M M' N:IM}{sc sa:Int}{g g1:MG}{e:Ending}
theorem QiE {w:World}{a0 i k j g:Value}(h:w.heap[c]?=some (.cells #[a0,i,k,j,g] 87 (0,0))) (e f b a d:Value) :
 (((((w.setCell ⟨c,0,none⟩ e).setCell ⟨c,1,none⟩ f).setCell ⟨c,2,none⟩ b).setCell ⟨c,3,none⟩ a).setCell ⟨c,4,none⟩ d).heap[c]?=some (.cells #[e,f,b,a,d] 87 (0,0)):=by
 have:=Qo (Qo (Qo (Qo (Qo h 0 e) 1 f) 2 b) 3 a) 4 d
 simpa using this
theorem Qhk (S:MAt w b most m M sc sa g) (I:Qaf n M){fn:Qe 6}{bl:Qk 6}{t:MTo}(hf:m[M.top.f]?=some fn) (p:t.block=(bi:Int)) (hb:fn.blocks[bi]?=some bl) (hs:m.length<=1000/\fn.blocks.length<=1000/\bl.params.length<=1000)
  {y:Option Addr} {z:Nat} (hR:intsL.In w Q2 t.regs [.slice y t.regs.length z]) (hA:intsL.In w Q2 t.args [.slice pa t.args.length ca]) (hn:t.regs.length<=1000/\t.args.length<=1000) :
 Calls prog 107 #[.pointer (some ⟨b,0,none⟩),.pointer (some ⟨g.t.c,0,none⟩),.agg #[.int .i64 t.block,.slice y t.regs.length z,.slice pa t.args.length ca]] w fun e w'=>Qm g w b most m M sc sa (IM.to fn M t) e w':=by
 have E:=Qb (QkZ (M:=M) (t:=t) (bl:=bl) (fn:=fn) (by rw[p];exact hb));generalize IM.to fn M t=U at E |-;rw[p]
 have l:=Qb (QY w (.cells #[.int .i64 (bi:Int),.slice y t.regs.length z,.slice pa t.args.length ca] 69));have B:=Qb (Qh w #[.int .i64 (bi:Int),.slice y t.regs.length z,.slice pa t.args.length ca] 69);have G:=Qb S;have H:=Qb (S.below l.out)
 have F:Hid (∀ h,Below w.heap.size w h->Calls prog 149 #[.pointer (some ⟨g.t.c,0,none⟩),.agg #[.slice g.pm m.length g.cm],.int .i64 (M.top.f:Int),.agg #[.int .i64 (bi:Int),.slice y t.regs.length z,.slice pa t.args.length ca]] h fun e w'=>Qbb h (begunO M.top M.top.f t bl) e w') :=
  fun h C=>Qc5 (S.top.below C) (by have:=I.len;omega) I.regs (Ya S.mod C) hf hb hs p (Ya hR C) (Ya hA C) hn
 clear S I hf hb hs hR hA hn p;go_enter func107,ntmps107
 go_upto_region 1 with fail
 generalize w.alloc (.cells #[.int .i64 (bi:Int),.slice y t.regs.length z,.slice pa t.args.length ca] 69)=T at l B H |-;generalize hX:w.heap.size=X at B |-;have V:=Qa B.out 0 _ Z;have t1:=Qa B.out 1 _ Z;have W:=Qa B.out 2 _ Z;have q1:T.cell? ⟨b,1,none⟩=some (.slice g.pm m.length g.cm):=Qa H.out.box 1 _ Z;have f0:=Qa H.out.top.1 0 _ Z;have N:Hid (∀ h,Below T.heap.size T h->Calls prog 149 #[.pointer (some ⟨g.t.c,0,none⟩),.agg #[.slice g.pm m.length g.cm],.int .i64 (M.top.f:Int),.agg #[.int .i64 (bi:Int),.slice y t.regs.length z,.slice pa t.args.length ca]] h fun e w'=>Qbb h (begunO M.top M.top.f t bl) e w'):=fun h C=>F.out h (l.out.trans (C.mono l.out.size));generalize begunO M.top M.top.f t bl=oo at E N;clear F;refine ij1 q1 f0 V t1 W N _ _ Z (Xg (by kernel_rfl)) Z Z Z ?_ ?_
 ·rintro ch a' w9 O ⟨rfl,Q,b9⟩;refine⟨O,?_⟩
  rw[E.out,Q]
  exact Qm.stuck (XTo.same G.out (l.out.trans (b9.mono l.out.size)))
 ·rintro P vs J q ⟨j,K,A,hv,s,hg,u⟩ b5;show wpList _ P _ [_] (QT _ vs [6,7,8,9,10,11,12,13,14,15,16,17,18,19,20]) J;simp only[QT,Act.put,List.setIfInBounds_toArray,List.set_cons_zero,List.set_cons_succ,q,s]
  have D:=Qb (l.out.trans (b5.mono l.out.size));have E2:Hid (U=some { M with top:=j }):=by show _=_;rw[E.out,hv]
  have a:=Qb (G.out.top.below D.out);have L:w.heap.size<=K:=Zt l.out.size hg
  have R:Hid (XTo g w (((((J.setCell ⟨g.t.c,0,none⟩ (.int .i64 j.f)).setCell ⟨g.t.c,1,none⟩ (.int .i64 j.b)).setCell ⟨g.t.c,2,none⟩ (.int .i64 j.i)).setCell ⟨g.t.c,3,none⟩ (.int .i64 j.r.length)).setCell ⟨g.t.c,4,none⟩ (.slice (some ⟨K,0,none⟩) A A)) b most m { M with top:=j } sc sa):=by
   have aa:=XC G.out.top.1
   have d:∀ k,k≠g.t.c->(((((J.setCell ⟨g.t.c,0,none⟩ (.int .i64 j.f)).setCell ⟨g.t.c,1,none⟩ (.int .i64 j.b)).setCell ⟨g.t.c,2,none⟩ (.int .i64 j.i)).setCell ⟨g.t.c,3,none⟩ (.int .i64 j.r.length)).setCell ⟨g.t.c,4,none⟩ (.slice (some ⟨K,0,none⟩) A A)).heap[k]?=J.heap[k]?:=fun k o=>by
    rw[Xd _ _ _ _ o,Xd _ _ _ _ o,Xd _ _ _ _ o,Xd _ _ _ _ o,Xd _ _ _ _ o]
   refine G.out.setTop (v:=.slice (some ⟨K,0,none⟩) A A) D.out.os D.out.tape D.out.output (by have:=D.out.size;simp;omega) (fun k o h1 h2=>(d k h1).trans (D.out.block k o)) ⟨QiE a.out.1 _ _ _ _ _,?_⟩ (fun k o=>.inr (by rw[ownBlock_slice] at o;omega));exact u.keep (fun x hx=>d x (by rw[ownBlock_slice] at hx;omega))
  have c0:=Qa a.out.1 0 _ Z;have c1:=Qa a.out.1 1 _ Z;have c2:=Qa a.out.1 2 _ Z;have c3:=Qa a.out.1 3 _ Z;have c4:=Qa a.out.1 4 _ Z;have z0:=Qf a.out.1 0;have z1:=Qf a.out.1 1;have z2:=Qf a.out.1 2;have z3:=Qf a.out.1 3;have z4:=Qf a.out.1 4;obtain⟨va,vd,ev⟩:=QaW G.out.top.2
  rw[ev] at c4
  clear q s hv hg u b5 E N V t1 W q1 f0 H l B a L hX;go_wp2
  exact Xz (v:=.tuple #[]) (by simp[results,results107,go_sem]) Z (by rw[E2.out];exact Qm.go R.out)
end
def Qa1 (g:MG) (w:World) (b most:Nat) (m:List (Qe 6)) (M:IM) (sc sa:Int) (r:Option IM) (e:Ending) (w':World):Prop:=match r with
 | none=>e=.panicked stuckP/\XTo g w w' b most m M sc sa
 | some M'=>(e=.returned (.tuple #[])/\∃ g',MAt w' b most m M' sc sa g'/\QN g.A g'.A w w'/\g'.fs=g.t::g.fs/\M'.rest=M.top::M.rest)\/(∃ N k,M'=N.over k/\e=.panicked (Qje k)/\XTo g w w' b most m N sc sa)
theorem fInfo:∃ i,prog.info? 84=some i/\i.zero=some (.pointer none)/\i.size=1/\i.bytes=8:=by
 have h:(prog.info? 84).map (fun i=>(i.zero,i.size,i.bytes))=some (some (.pointer none),1,8):=by kernel_rfl
 cases e:prog.info? 84 with
 | none=>rw[e] at h;cases h
 | some i =>
   rw[e] at h
   simp only[Option.map_some,Option.some.injEq,Prod.mk.injEq] at h
   exact⟨i,Z,h.1,h.2.1,h.2.2⟩
theorem fUnder:prog.underlying 50=some (.slice 84):=by kernel_rfl
section
variable {w w' w2:World}{b most n:Nat}{m:List (Qe 6)}{M M' N:IM}{sc sa:Int}{g g1:MG}{e:Ending}
theorem Qhl (S:MAt w b most m M sc sa g) (I:Qaf n M) (hd:M.rest.length<=39){x:Qz}(a:IP)(j:x.k=(k:Int)){fn:Qe 6}{bl:Qk 6}(hf:m[k]?=some fn) (hb:fn.blocks[0]?=some bl) (V:bl.regs=fn.regs) (P:bl.params=fn.params) (hs:m.length<=1000/\fn.blocks.length<=1000/\bl.params.length<=1000)
  (hR:intsL.In w Q2 x.regs [.slice a.pR x.regs.length a.cR]) (hA:intsL.In w Q2 x.args [.slice a.pA x.args.length a.cA]) (hn:x.regs.length<=1000/\x.args.length<=1000) :
 Calls prog 123 #[.pointer (some ⟨b,0,none⟩),.pointer (some ⟨g.t.c,0,none⟩),.agg (QZ x a)] w fun e w'=>Qa1 g w b most m M sc sa (IM.call m M x) e w':=by
 obtain⟨i0,hi,ae,ad,ac⟩:=fInfo
 have E:=Qb (QjK (M:=M) (m:=m) j hf V P);generalize IM.call m M x=p at E |-;have d:=Qb (QY w (.cells (QZ x a) 65));have z:=Qb (Qh w (QZ x a) 65);have O:=Qb S;have S1:=Qb (S.below d.out)
 have G:Hid (∀ f,Below w.heap.size w f->Calls prog 149 #[.pointer (some ⟨g.t.c,0,none⟩),.agg #[.slice g.pm m.length g.cm],.int .i64 (k:Int),.agg #[.int .i64 0,.slice a.pR x.regs.length a.cR,.slice a.pA x.args.length a.cA]] f fun e w'=>Qbb f (begunO M.top k ⟨0,x.regs,x.args⟩ bl) e w') :=
  fun f A=>Qc5 (t:=⟨0,x.regs,x.args⟩) (bi:=0) (S.top.below A) (by have:=I.len;omega) I.regs (Ya S.mod A) hf hb hs Z (Ya hR A) (Ya hA A) hn
 have HK:=Qb j;clear S I hf hb hs hR hA hn V P j;go_enter func123,ntmps123
 go_upto_region 1 with fail
 generalize w.alloc (.cells (QZ x a) 65)=r at d z S1 |-;generalize hX:w.heap.size=X at z |-;have W:r.cell? ⟨X,4,none⟩=some (.int .i64 x.k):=Qa z.out 4 _ Z;have x6:r.cell? ⟨X,6,none⟩=some (.slice a.pR x.regs.length a.cR):=Qa z.out 6 _ Z;have x7:r.cell? ⟨X,7,none⟩=some (.slice a.pA x.args.length a.cA):=Qa z.out 7 _ Z;rw[HK.out] at W
 have q1:r.cell? ⟨b,1,none⟩=some (.slice g.pm m.length g.cm):=Qa S1.out.box 1 _ Z;have CB:Hid (∀ f,Below r.heap.size r f->Calls prog 149 #[.pointer (some ⟨g.t.c,0,none⟩),.agg #[.slice g.pm m.length g.cm],.int .i64 (k:Int),.agg #[.int .i64 0,.slice a.pR x.regs.length a.cR,.slice a.pA x.args.length a.cA]] f fun e w'=>Qbb f (begunO M.top k ⟨0,x.regs,x.args⟩ bl) e w'):=fun f A=>G.out f (d.out.trans (A.mono d.out.size));generalize begunO M.top k ⟨0,x.regs,x.args⟩ bl=oo at E CB;clear G;refine ic1 (bi:=0) q1 W x6 x7 CB _ _ Z (Xg (by kernel_rfl)) Z Z Z ?_ ?_
 ·rintro ch a' w9 aa ⟨rfl,ab,b9⟩;refine⟨aa,?_⟩
  rw[E.out,ab]
  exact⟨Z,XTo.same O.out (d.out.trans (b9.mono d.out.size))⟩
 ·rintro vs y ⟨fr,J,gx,n5,hv,F,B,H,Q⟩ b5;simp only[QT,Act.put,List.setIfInBounds_toArray,List.set_cons_zero,List.set_cons_succ,F]
  have U:=Qb (d.out.trans (b5.mono d.out.size));have T:Hid (p=if M.rest.length+1=40 then some (M.over 5) else some { M with top:=fr,rest:=M.top::M.rest }):=by show _=_;rw[E.out,hv]
  have C:=Qb (O.out.below U.out);have Q:=Qb Q;have L:Hid (w.heap.size<=J/\w.heap.size<=gx):=⟨Zt d.out.size B,Zt d.out.size H⟩;obtain⟨gc,ai,ev,af,-⟩:=C.out.callsForm
  have q4:y.cell? ⟨b,4,none⟩=some g.vc:=Qa C.out.box 4 _ Z;rw[ev] at q4
  clear F hv B H b5 E CB W x6 x7 q1 S1 d z HK hX;by_cases i:M.rest.length+1=40
  ·have E3:Hid (p=some (M.over 5)):=by show _=_;rw[T.out,Xs i]
   have d1:decide (((M.rest.length+1:Nat):Int)<40)=false:=Xu (by omega);clear T i;generalize M.rest.length+1=nr at *;go_wp2_with fail
   refine(QaG _ _).mono ?_
   rintro e' w' ⟨rfl,D⟩;subst D;exact⟨Z,by rw[E3.out];exact .inr ⟨M,5,Z,Z,XTo.same O.out U.out⟩⟩
  ·have E3:Hid (p=some { M with top:=fr,rest:=M.top::M.rest }):=by show _=_;rw[T.out,Xr i]
   have d1:decide (((M.rest.length+1:Nat):Int)<40)=true:=Xt (by omega);have s:=QY y (.cells #[.pointer (some ⟨J,0,none⟩)] 84);have N:=Qb (C.out.below s).calls;have HW:=Qb (Qi2 y [.pointer (some ⟨J,0,none⟩)] 84);have HZ:Hid ((y.alloc (.cells #[.pointer (some ⟨J,0,none⟩)] 84)).heap.size=y.heap.size+1):=by show _=_;simp
   have h:=Qb (fun v9 w9=>O.out.pushFr (v9:=v9) (w9:=w9) (U.out.trans (s.mono U.out.size)) (Q.out.below s) L.out.1 (fun k j=>by rw[ownBlock_slice] at j;have:=L.out.2;omega));have q:=Qb (C.out.below s).box;have o:=Qb (fun x=>(C.out.below s).callsNe (x:=x));clear T i s;rw[ev] at N h o
   obtain⟨xs,K⟩:∃ xs,Qaz (g.t::g.fs)=xs:=⟨_,Z⟩
   rw[K] at N h
   clear K;have HD:=Qb hd;have ag:M.rest.length+1<=100:=by omega
   clear hd;generalize ah:M.rest.length+1=nr at *;go_upto_region 3 with (go_at_call 67;refine(QaY _ _).mono ?_;rintro e' w' ⟨rfl,D⟩;have D:=D.symm;subst D)
   go_wp2_with (at_builtin;refine ZA _ Z _ _ 50 Z 84 i0 (.pointer none) 1 8 fUnder hi ae ad ac Z (by decide) _ _ _ Z N.out ⟨y.heap.size,0,none⟩ 1 1 [.pointer (some ⟨J,0,none⟩)] Z Z HW.out (by intro u hu;simp at hu;subst hu;rfl) (by unfold maxLen;omega) (by omega) ?_)
   intro v9 w9 r1 r2 r3;have R:=Qb (h.out v9 w9 r1 r2 (fun k j=>(r3 k j).imp id (fun e=>by rw[HZ.out];exact e)));have l:=(r2.block b (XC q.out) (fun e=>(o.out b e.symm).1 Z)).trans q.out;have c9:w9.cell? ⟨b,4,none⟩=some g.vc:=Qa l 4 _ Z;have z9:=Qf l 4;obtain⟨a9,d9,rfl⟩:=QaW r1
   clear r1 r2 r3 h l q N q4 HW o Q;go_wp2
   exact Xz (v:=.tuple #[]) (by simp[results,results123,go_sem]) Z (by
    rw[E3.out]
    obtain⟨g',V,P,h3⟩:=R.out
    exact .inl ⟨Z,g',V,P,h3,Z⟩)
end
def numsOf:List Qj->Option (List Int)
 | []=>some []
 | x::l=>if x.kind=1 then (match numsOf l with
   | none=>none
   | some ns=>some (x.n::ns)) else none
theorem QcY (v:List Qj):∀ {l:List Int}{xs:List Qj},Qp v l=some xs->Qaw v l=numsOf xs
 | [],xs,h=>by simp[Qp] at h;subst h;rfl
 | k::l,xs,h=>by
   simp only[Qp] at h
   cases hk:QA v k with
   | none=>rw[hk] at h;cases h
   | some x =>
     rw[hk] at h
     simp only at h
     cases hl:Qp v l with
     | none=>rw[hl] at h;cases h
     | some zs =>
       rw[hl] at h
       simp at h
       subst h;have b:=QcY v hl;unfold Qaw numsOf Qt;rw[hk]
       simp only
       by_cases a:x.kind=1
       ·rw[Xs a,Xs a,b];cases numsOf zs<;>rfl
       ·rw[Xr a,Xr a]
theorem numsOf_all:∀ {l:List Qj},(∀ x∈l,x.kind=1)->numsOf l=some (l.map (·.n))
 | [],_=>rfl
 | x::l,h=>by
   unfold numsOf;rw[Xs (h x (by simp)),numsOf_all (fun y a=>h y (by simp[a]))]
   rfl
theorem numsOf_no:∀ {l:List Qj}{x:Qj},x∈l->x.kind≠1->numsOf l=none
 | [],x,h,_=>by simp at h
 | y::l,x,h,hx=>by
   unfold numsOf;rcases List.mem_cons.1 h with rfl | h
   ·rw[Xr hx]
   ·by_cases a:y.kind=1
    ·rw[Xs a,numsOf_no h hx]
    ·rw[Xr a]
def QkA (w:World) (o:Option (List Int)) (n:Nat) (e:Ending) (w':World):Prop:=Below w.heap.size w w'/\match o with
 | none=>e=.panicked stuckP
 | some ns=>∃ g,e=.returned (.slice (some ⟨g,0,none⟩) n n)/\intsL.In w' (fun x=>w.heap.size<=x/\∃ c,w'.heap[x]?=some (.cells c 2 (0,0))) ns [.slice (some ⟨g,0,none⟩) n n]
theorem Qlv (n:Nat) (hn:n<=1099511627776) (w:World):(Instr.makeSlice 25 (.int .i64 (n:Int)) (.int .i64 (n:Int))).run prog w=.ok (.slice (some ⟨w.heap.size,0,none⟩) n n) (w.alloc (.cells (madeCells (#[.int .i64 0]:Array Value) n) 2)):=by
 obtain⟨d,e,a,b,c⟩:=iInfo64
 exact run_make_row (P:=prog) 25 2 d (.int .i64 0) iUnder64 e a b Z .i64 .i64 n (by rw[c];omega) (by omega) w
def numCell (l:List Qj) (q:Nat) (i:Nat):Value:=if i<q then .int .i64 (l.getD i noV).n else .int .i64 0
theorem Qku {w:World}{l:List Qj}(f:l.length=n) (h:w.rowIs g 2 n (numCell l n)) (e:O g) (a:∀ x∈l,Zh x.n):intsL.In w O (l.map (·.n)) [.slice (some ⟨g,0,none⟩) n n]:=by
 refine⟨some ⟨g,0,none⟩,n,by rw[XN,f],fun i x c=>?_⟩
 rw[XS] at c
 obtain⟨y,b,rfl⟩:=Option.map_eq_some_iff.1 c
 have k:=(Zi b).1;refine⟨g,0,[.int .i64 y.n],Z,e,h.lt,fun j d=>?_,Z,a y (Zm b)⟩
 have d:j<1:=d
 have:j=0:=by omega
 subst this;show w.cell? ⟨g,0+i*1+0,none⟩=_;rw[XK,XL,Nat.add_zero,h.cell (by omega)]
 unfold numCell;rw[Xs (by omega)]
 simp[List.getD,b]
section
variable {w:World}
theorem Qd7 {I:Nat}{l:List Qj}(hn:l.length=n) (hb:n<=1000000) (X:w.rowIs I 183 (n*4) (Q7 l)) (s:∀ x∈l,Zh x.n) :
 Calls prog 151 #[.slice (some ⟨I,0,none⟩) n n] w fun e w'=>QkA w (numsOf l) n e w':=by
 have J:=Qlv n (by omega) w;have D:=Qb (World.rowIs_made w (.int .i64 0) n 2);have B0:=Qb (QY w (.cells (madeCells (#[.int .i64 0]:Array Value) n) 2));have Q:=Qb X;have A:=Qb hn;have F:=Qb s;clear X hn s;go_enter func151,ntmps151
 go_upto_region 2 with fail
 generalize w.alloc (.cells (madeCells (#[.int .i64 0]:Array Value) n) 2)=w1 at D B0 |-;clear J;obtain⟨g,S⟩:∃ g,g=w.heap.size:=⟨_,Yz⟩
 have HG:Hid (w.heap.size<=g):=by show _<=_;omega
 have aa:Hid (I≠g):=by show _≠_;have:=Q.out.lt;omega
 rw[<-S] at D |-
 clear S;go_wp2_with fail
 go_loopw [11] (fun i wr=>∃ q:Nat,q<=n/\i=.int .i64 q/\wr.rowIs g 2 n (numCell l q)/\Below w.heap.size w wr/\∀ j x,j<q->l[j]?=some x->x.kind=1) (fun i _=>n - (intOf i).toNat)
 case atStart=>exact⟨0,Xb _,Yz,D.out.congr (fun i _=>by unfold numCell;rw[Xr (by omega)]),B0.out,fun j x B=>by omega⟩
 case round =>
  obtain⟨q,hq,rfl,U,hB,hz⟩:=hrel
  have u:=Qb U;have a:=Qb hB;have HZ:=Qb hz;clear U hB hz;by_cases o:q<n
  ·have R:(q:Int)<n:=by omega
   obtain⟨x,m⟩:∃ x,l[q]?=some x:=⟨_,Zg (by rw[A.out];exact o)⟩
   have b:=Q.out;rw[<-A.out] at b
   obtain⟨v,W,V,T⟩:=Qav b m
   have c0:=QI v a.out;have O:=QI W a.out;have P:=QI V a.out;have c3:=QI T a.out;have C:=Qb m;obtain⟨d,K,L,f⟩:=x
   simp only at c0 O P c3
   clear v W V T m b;have t:=Qb (QY wr (.cells #[.int .i64 d,.int .i64 K,.int .i64 L,.int .i64 f] 183));have Y:=Qb (Qh wr #[.int .i64 d,.int .i64 K,.int .i64 L,.int .i64 f] 183);go_upto_region 5 with fail
   generalize wr.alloc (.cells #[.int .i64 d,.int .i64 K,.int .i64 L,.int .i64 f] 183)=w3 at t Y |-;generalize wr.heap.size=Z at Y |-;have y0:=Qa Y.out 0 _ Yz;have y3:=Qa Y.out 3 _ Yz;clear c0 O P c3;by_cases k:d=1
   ·have H:(d==1)=true:=by simpa using k
    have z:=u.out.of_block (t.out.block g u.out.lt);have v:=z.cell o;have f0:=z.frozen q
    have PR:Hid ((w3.setCell ⟨g,q,none⟩ (.int .i64 f)).rowIs g 2 n (numCell l (q+1))):=(z.set q (.int .i64 f)).congr (fun i hi=>by
     unfold numCell;by_cases e:i=q
     ·subst e;rw[Xs Yz,Xs (by omega)];simp[List.getD,C.out]
     ·rw[Xr e]
      by_cases N:i<q
      ·rw[Xs N,Xs (by omega)]
      ·rw[Xr N,Xr (by omega)])
    have PB:Hid (Below w.heap.size w (w3.setCell ⟨g,q,none⟩ (.int .i64 f))):=(a.out.trans (t.out.mono a.out.size)).setCell (p:=⟨g,q,none⟩) HG.out _;have HK:=Qb k;clear k z u a t Y;generalize numCell l q q=ab at v;go_wp2_with (go_at_call 113;refine(ZB _).mono ?_;rintro e' w' ⟨rfl,r⟩;have r:=r.symm;subst r)
    go_roundw
    case rel =>
     refine⟨q+1,by omega,by go_num,PR.out,PB.out,fun j y B M=>?_⟩
     rcases Nat.lt_or_ge j q with h | h
     ·exact HZ.out j y h M
     ·have:j=q:=by omega
      subst this;rw[C.out] at M
      cases M
      exact HK.out
    case measure=>simp[intOf];omega
   ·have H:(d==1)=false:=by simpa using k
    have E:Hid (numsOf l=none):=numsOf_no (Zm C.out) k;clear k;go_wp2_with fail
    refine(Zf _).mono ?_
    rintro e' w' ⟨rfl,r⟩;subst r;exact⟨Yz,a.out.trans (t.out.mono a.out.size),by rw[E.out]⟩
  ·have G:q=n:=by omega
   subst G
   have E:Hid (numsOf l=some (l.map (·.n))):=numsOf_all (fun x m=>by
    obtain⟨j,B⟩:=List.getElem?_of_mem m
    exact HZ.out j x (by have:=(Zi B).1;have:=A.out;omega) B)
   go_wp2
   go_ret;exact⟨a.out,by rw[E.out];exact⟨g,Yz,Qku A.out u.out ⟨HG.out,by obtain⟨c,hc,_⟩:=u.out;exact⟨c,hc⟩⟩ F.out⟩⟩
end
def QcG (g:MG) (w:World) (b most:Nat) (m:List (Qe 6)) (M:IM) (sc sa:Int) (r:Option IM) (e:Ending) (w':World):Prop:=match r with
 | none=>e=.panicked stuckP/\XTo g w w' b most m M sc sa
 | some M'=>(e=.returned (.tuple #[])/\XGo g w w' b most m M' sc sa)\/(∃ N k,M'=N.over k/\e=.panicked (Qje k)/\XTo g w w' b most m N sc sa)
theorem Qm.toEnd {g:MG}{w w':World}{b most:Nat}{m:List (Qe 6)}{M:IM}{c a:Int}{r:Option IM}{e:Ending}(h:Qm g w b most m M c a r e w'):QcG g w b most m M c a r e w':=by
 cases r with
 | none=>exact h
 | some M'=>exact h.imp (fun k=>⟨k.1,k.2.go⟩) id
def IM.ret (fn:Qe 6) (M:IM) (args:List Int):Option IM:=match Qp M.top.v args with
 | none=>none
 | some v=>if v.length=fn.results.length then (match M.rest with
  | d::rest=>some (IM.push { M with top:=d,rest:=rest } v)
  | []=>match Qaw M.top.v args with
    | none=>none
    | some n=>some (IM.over { M with back:=n } 0))
  else none
def Qma (b c na ca g1 o1 nm cm fi nr cr:Nat) (pa pr:Option Addr) (t:Tmp) (v:Value) (w:World):Prop :=
 v=(([(0,.pointer (some ⟨b,0,none⟩)),(1,.pointer (some ⟨c,0,none⟩)),(2,.slice pa na ca),(7,.slice pa na ca),(8,.int .i64 (na:Int)),(9,.pointer (some ⟨b,0,none⟩)),(10,.pointer (some ⟨b,0,none⟩)),(11,.pointer (some ⟨b,1,none⟩)),(12,.pointer (some ⟨b,1,none⟩)),(13,.slice (some ⟨g1,o1,none⟩) nm cm),(14,.pointer (some ⟨c,0,none⟩)),(15,.pointer (some ⟨c,0,none⟩)),(16,.pointer (some ⟨c,0,none⟩)),(17,.int .i64 (fi:Int)),(18,.pointer (some ⟨g1,o1+fi*4,none⟩)),(19,.pointer (some ⟨g1,o1+fi*4+2,none⟩)),(20,.slice pr nr cr),(21,.int .i64 (nr:Int)),(22,.bool ((na:Int)==(nr:Int)))]:List (Tmp × Value)).lookup t).getD undef
theorem iv0 {b i j o k r:Nat}{q:Option Addr}(C:w6.cell? ⟨b,1,none⟩=some (.slice (some ⟨i,j,none⟩) o cm)) (x:w6.cell? ⟨c,0,none⟩=some (.int .i64 (fi:Int))) (u:w6.cell? ⟨i,j+fi*4+2,none⟩=some (.slice q k r)) (y:(fi:Int)<o)
 (a:Act) (m:Nat) (hn:a.tmps.size=m) (p:58<=m) (A:a.tmps.getD 0 undef=.pointer (some ⟨b,0,none⟩)) (B:a.tmps.getD 1 undef=.pointer (some ⟨c,0,none⟩)) (z:a.tmps.getD 2 undef=.slice pa na ca)
 (hend:∀ ops vs w',vs 22=.bool ((na:Int)==(k:Int))->Below w6.heap.size w6 w'->wpList prog ops Q (Qb8 16 ((Tryz.f109.body.bind (Qn 0)).getD .skip)) (QT a vs [7,8,9,10,11,12,13,14,15,16,17,18,19,20,21,22]) w') :
 Code.wp prog ((Tryz.f109.body.bind (Qn 0)).getD .skip) Q a w6:=by
 conv=>arg 2;whnf
 refine Qu 16 (Qma b c na ca i j o cm fi k r pa q) (fun w=>Below w6.heap.size w6 w) (fun w w'=>Below w.heap.size w w') (outs:=[0,1,2]) (gs:=[]) (bs:=[true,true,true,true,true,true,true,true,true,true,true,true,true,true,true,true]) (by kernel_rfl) (n:=58) hn p (by kernel_rfl) (by kernel_rfl) ?hR ?hG (QH Zr 1) ⟨A,B,z,Y⟩ ?hA ?hend
 case hR=>exact fun t v w w' _ h=>h
 case hG=>exact Y
 case hend=>exact fun ops vs w' e f=>hend ops vs w' (f 22 (by kernel_rfl)) e
 case hA =>
  refine⟨fun a w e f K g=>?_,?_⟩
  ·obtain⟨d,-⟩:=f
   have d:a.tmps.getD 2 undef=.slice pa na ca:=d;go_simp;exact g _ _ Zr e Z
  refine⟨fun a w e f K g=>?_,?_⟩
  ·obtain⟨d,-⟩:=f
   have d:a.tmps.getD 7 undef=.slice pa na ca:=d;go_simp;exact g _ _ Zr e Z
  refine⟨fun a w e f K g=>?_,?_⟩
  ·obtain⟨d,-⟩:=f
   have d:a.tmps.getD 0 undef=.pointer (some ⟨b,0,none⟩):=d;go_simp;exact g _ _ Zr e Z
  refine⟨fun a w e f K g=>?_,?_⟩
  ·obtain⟨d,-⟩:=f
   have d:a.tmps.getD 9 undef=.pointer (some ⟨b,0,none⟩):=d;go_simp;exact g _ _ Zr e Z
  refine⟨fun a w e f K g=>?_,?_⟩
  ·obtain⟨d,-⟩:=f
   have d:a.tmps.getD 10 undef=.pointer (some ⟨b,0,none⟩):=d;go_simp;exact g _ _ Zr e Z
  refine⟨fun a w e f K g=>?_,?_⟩
  ·obtain⟨d,-⟩:=f
   have d:a.tmps.getD 11 undef=.pointer (some ⟨b,1,none⟩):=d;go_simp;exact g _ _ Zr e Z
  refine⟨fun a w e f K g=>?_,?_⟩
  ·obtain⟨d,-⟩:=f
   have d:a.tmps.getD 12 undef=.pointer (some ⟨b,1,none⟩):=d;have s:=QI C e;go_simp;exact g _ _ Zr e Z
  refine⟨fun a w e f K g=>?_,?_⟩
  ·obtain⟨d,-⟩:=f
   have d:a.tmps.getD 1 undef=.pointer (some ⟨c,0,none⟩):=d;go_simp;exact g _ _ Zr e Z
  refine⟨fun a w e f K g=>?_,?_⟩
  ·obtain⟨d,-⟩:=f
   have d:a.tmps.getD 14 undef=.pointer (some ⟨c,0,none⟩):=d;go_simp;exact g _ _ Zr e Z
  refine⟨fun a w e f K g=>?_,?_⟩
  ·obtain⟨d,-⟩:=f
   have d:a.tmps.getD 15 undef=.pointer (some ⟨c,0,none⟩):=d;go_simp;exact g _ _ Zr e Z
  refine⟨fun a w e f K g=>?_,?_⟩
  ·obtain⟨d,-⟩:=f
   have d:a.tmps.getD 16 undef=.pointer (some ⟨c,0,none⟩):=d;have s:=QI x e;go_simp;exact g _ _ Zr e Z
  refine⟨fun a w e f K g=>?_,?_⟩
  ·obtain⟨d,l,-⟩:=f
   have d:a.tmps.getD 13 undef=.slice (some ⟨i,j,none⟩) o cm:=d;have l:a.tmps.getD 17 undef=.int .i64 (fi:Int):=l;go_simp;exact g _ _ Zr e Z
  refine⟨fun a w e f K g=>?_,?_⟩
  ·obtain⟨d,-⟩:=f
   have d:a.tmps.getD 18 undef=.pointer (some ⟨i,j+fi*4,none⟩):=d;go_simp;exact g _ _ Zr e Z
  refine⟨fun a w e f K g=>?_,?_⟩
  ·obtain⟨d,-⟩:=f
   have d:a.tmps.getD 19 undef=.pointer (some ⟨i,j+fi*4+2,none⟩):=d;have s:=QI u e;go_simp;exact g _ _ Zr e Z
  refine⟨fun a w e f K g=>?_,?_⟩
  ·obtain⟨d,-⟩:=f
   have d:a.tmps.getD 20 undef=.slice q k r:=d;go_simp;exact g _ _ Zr e Z
  refine⟨fun a w e f K g=>?_,?_⟩
  ·obtain⟨d,l,-⟩:=f
   have d:a.tmps.getD 8 undef=.int .i64 (na:Int):=d;have l:a.tmps.getD 21 undef=.int .i64 (k:Int):=l;go_simp;exact g _ _ Zr e Z
  trivial
def Qmk (b gc k cap:Nat) (t:Tmp) (v:Value) (w:World):Prop :=
 v=(([(0,.pointer (some ⟨b,0,none⟩)),(40,.pointer (some ⟨b,0,none⟩)),(41,.pointer (some ⟨b,0,none⟩)),(42,.pointer (some ⟨b,0,none⟩)),(43,.pointer (some ⟨b,4,none⟩)),(44,.slice (some ⟨gc,0,none⟩) (k+1) cap),(45,.pointer (some ⟨b,0,none⟩)),(46,.pointer (some ⟨b,0,none⟩)),(47,.pointer (some ⟨b,4,none⟩)),(48,.slice (some ⟨gc,0,none⟩) (k+1) cap),(49,.int .i64 ((k:Int)+1)),(50,.int .i64 (k:Int)),(51,.slice (some ⟨gc,0,none⟩) k cap),(52,.pointer (some ⟨b,0,none⟩)),(53,.pointer (some ⟨b,4,none⟩))]:List (Tmp × Value)).lookup t).getD undef
theorem iv5 {b g:Nat}(j:w6.cell? ⟨b,4,none⟩=some (.slice (some ⟨g,0,none⟩) (k+1) cap)) (e:k+1<=cap) (r:k<=1000)
 (a:Act) (m:Nat) (hn:a.tmps.size=m) (i:58<=m) (o:a.tmps.getD 0 undef=.pointer (some ⟨b,0,none⟩))
 (hend:∀ ops vs w',vs 51=.slice (some ⟨g,0,none⟩) k cap->vs 53=.pointer (some ⟨b,4,none⟩)->Below w6.heap.size w6 w'->wpList prog ops Q (Qb8 14 ((Tryz.f109.body.bind (Qn 5)).getD .skip)) (QT a vs [40,41,42,43,44,45,46,47,48,49,50,51,52,53]) w') :
 Code.wp prog ((Tryz.f109.body.bind (Qn 5)).getD .skip) Q a w6:=by
 conv=>arg 2;whnf
 refine Qu 14 (Qmk b g k cap) (fun w=>Below w6.heap.size w6 w) (fun w w'=>Below w.heap.size w w') (outs:=[0]) (gs:=[]) (bs:=[true,true,true,true,true,true,true,true,true,true,true,true,true,true]) (by kernel_rfl) (n:=58) hn i (by kernel_rfl) (by kernel_rfl) ?hR ?hG (QH Zr 1) ⟨o,Y⟩ ?hA ?hend
 case hR=>exact fun t v w w' _ h=>h
 case hG=>exact Y
 case hend=>exact fun ops vs w' d e=>hend ops vs w' (e 51 (by kernel_rfl)) (e 53 (by kernel_rfl)) d
 case hA =>
  refine⟨fun a w d e K f=>?_,?_⟩
  ·obtain⟨c,-⟩:=e
   have c:a.tmps.getD 0 undef=.pointer (some ⟨b,0,none⟩):=c;go_simp;exact f _ _ Zr d Z
  refine⟨fun a w d e K f=>?_,?_⟩
  ·obtain⟨c,-⟩:=e
   have c:a.tmps.getD 0 undef=.pointer (some ⟨b,0,none⟩):=c;go_simp;exact f _ _ Zr d Z
  refine⟨fun a w d e K f=>?_,?_⟩
  ·obtain⟨c,-⟩:=e
   have c:a.tmps.getD 41 undef=.pointer (some ⟨b,0,none⟩):=c;go_simp;exact f _ _ Zr d Z
  refine⟨fun a w d e K f=>?_,?_⟩
  ·obtain⟨c,-⟩:=e
   have c:a.tmps.getD 42 undef=.pointer (some ⟨b,0,none⟩):=c;go_simp;exact f _ _ Zr d Z
  refine⟨fun a w d e K f=>?_,?_⟩
  ·obtain⟨c,-⟩:=e
   have c:a.tmps.getD 43 undef=.pointer (some ⟨b,4,none⟩):=c;have q:=QI j d;go_simp;exact f _ _ Zr d Z
  refine⟨fun a w d e K f=>?_,?_⟩
  ·obtain⟨c,-⟩:=e
   have c:a.tmps.getD 0 undef=.pointer (some ⟨b,0,none⟩):=c;go_simp;exact f _ _ Zr d Z
  refine⟨fun a w d e K f=>?_,?_⟩
  ·obtain⟨c,-⟩:=e
   have c:a.tmps.getD 45 undef=.pointer (some ⟨b,0,none⟩):=c;go_simp;exact f _ _ Zr d Z
  refine⟨fun a w d e K f=>?_,?_⟩
  ·obtain⟨c,-⟩:=e
   have c:a.tmps.getD 46 undef=.pointer (some ⟨b,0,none⟩):=c;go_simp;exact f _ _ Zr d Z
  refine⟨fun a w d e K f=>?_,?_⟩
  ·obtain⟨c,-⟩:=e
   have c:a.tmps.getD 47 undef=.pointer (some ⟨b,4,none⟩):=c;have q:=QI j d;go_simp;exact f _ _ Zr d Z
  refine⟨fun a w d e K f=>?_,?_⟩
  ·obtain⟨c,-⟩:=e
   have c:a.tmps.getD 48 undef=.slice (some ⟨g,0,none⟩) (k+1) cap:=c;go_simp;exact f _ _ Zr d Z
  refine⟨fun a w d e K f=>?_,?_⟩
  ·obtain⟨c,-⟩:=e
   have c:a.tmps.getD 49 undef=.int .i64 ((k:Int)+1):=c;have u:(k:Int)+1 - 1=k:=by omega
   go_simp;refine f _ _ Zr d ?_;show Value.int _ _=Value.int _ _;congr 1
   rw[IntKind.wrap_i64]
   omega
  refine⟨fun a w d e K f=>?_,?_⟩
  ·obtain⟨c,l,-⟩:=e
   have c:a.tmps.getD 44 undef=.slice (some ⟨g,0,none⟩) (k+1) cap:=c;have l:a.tmps.getD 50 undef=.int .i64 (k:Int):=l;have p:(0:Int)<=k:=by omega
   have s:(k:Int)<=cap:=by omega
   go_simp;exact f _ _ Zr d Z
  refine⟨fun a w d e K f=>?_,?_⟩
  ·obtain⟨c,-⟩:=e
   have c:a.tmps.getD 40 undef=.pointer (some ⟨b,0,none⟩):=c;go_simp;exact f _ _ Zr d Z
  refine⟨fun a w d e K f=>?_,?_⟩
  ·obtain⟨c,-⟩:=e
   have c:a.tmps.getD 52 undef=.pointer (some ⟨b,0,none⟩):=c;go_simp;exact f _ _ Zr d Z
  trivial
section
variable {w w' w2:World}{b most n:Nat}{m:List (Qe 6)}{M M' N:IM}{sc sa:Int}{g g1:MG}{e:Ending}
theorem Qio {w:World}{g n:Nat}{l:List Qj}(hn:l.length=n) (h:w.rowIs g 183 (n*4) (Q7 l)):∀ (j:Nat) (u:Value),(vFlat l)[j]?=some u->w.cell? ((⟨g,0,none⟩:Addr).add j)=some u:=by
 intro j u a;have c:=(Zi a).1;rw[vFlat_len,hn] at c
 rw[Addr.add_lit,XK,h.cell c,<-a]
 have b:l[j / 4]?=some l[j / 4]:=Zg (by omega)
 have:=vFlat_at l (j / 4) (j%4) _ b (by omega)
 rw[show j / 4*4+j%4=j by omega] at this
 rw[this]
 unfold Q7;simp[List.getD,b]
theorem Qg2 (S:MAt w b most m M sc sa g) (I:Qaf n M) (hd:M.rest.length<=39) (ab:∀ d∈M.rest,d.v.length+8<=1000000){fn:Qe 6}(hf:m[M.top.f]?=some fn) (hs:m.length<=1000/\fn.results.length<=1000)
  {args:List Int}   (hA:intsL.In w Q2 args [.slice pa args.length ca]) (hn:args.length<=8) :
 Calls prog 109 #[.pointer (some ⟨b,0,none⟩),.pointer (some ⟨g.t.c,0,none⟩),.slice pa args.length ca] w fun e w'=>QcG g w b most m M sc sa (IM.ret fn M args) e w':=by
 have E:=Qb (show IM.ret fn M args=match Qp M.top.v args with | none=>none | some v=>if v.length=fn.results.length then (match M.rest with | d::rest=>some (IM.push { M with top:=d,rest:=rest } v) | []=>match Qaw M.top.v args with | none=>none | some n=>some (IM.over { M with back:=n } 0)) else none from Z);generalize IM.ret fn M args=F at E |-;obtain⟨g1,o1,f,e1,E1,am⟩:=QbK S.mod hf
 have r2:w.cell? ⟨g1,o1+M.top.f*4+2,none⟩=some (.slice f.pR fn.results.length f.cR):=E1 2 _ Z;have q1:w.cell? ⟨b,1,none⟩=some (.slice g.pm m.length g.cm):=Qa S.box 1 _ Z;rw[e1] at q1
 have f0:=Qa S.top.1 0 _ Z;have ay:=(Zi hf).1;have aj:(M.top.f:Int)<m.length:=by omega
 have p:=Qb S;have HI:=Qb I;have aw:=Qb ab;have HA:=Qb hA;have CA:Hid (∀ B,Below w.heap.size w B->Calls prog 117 #[.pointer (some ⟨g.t.c,0,none⟩),.slice pa args.length ca] B fun e w'=>Qb1 B (Qp M.top.v args) args.length e w'):=fun B bx=>QdQ (S.top.below bx) (by have:=I.len;omega) Z (by omega) (Ya hA bx);clear S I ab hA am E1 e1 hf;go_enter func109,ntmps109
 go_upto_region 0 with fail
 refine iv0 q1 f0 r2 aj _ _ Z (Xg (by kernel_rfl)) Z Z Z ?_;rintro T vs w5 L b5;show wpList _ T _ [_] (QT _ vs [7,8,9,10,11,12,13,14,15,16,17,18,19,20,21,22]) w5;simp only[QT,Act.put,List.setIfInBounds_toArray,List.set_cons_zero,List.set_cons_succ,L]
 have B5:=Qb b5;clear L b5 q1 f0 r2 aj;by_cases hr:args.length=fn.results.length
 rotate_left
 ·have d1:((args.length:Int)==(fn.results.length:Int))=false:=by simp;omega
  have r:Hid (F=none):=by
   show _=_;rw[E.out]
   cases z:Qp M.top.v args with
   | none=>rfl
   | some v=>simp only;rw[Xr (by rw[Q1 _ _ z];exact hr)]
  rw[d1]
  go_wp2_with fail
  refine(Zf _).mono ?_
  rintro Q w' ⟨rfl,hw⟩;subst hw;exact⟨Z,by rw[r.out];exact⟨Z,XTo.same p.out B5.out⟩⟩
 have d1:((args.length:Int)==(fn.results.length:Int))=true:=by simp[hr]
 rw[d1]
 have HR:=Qb hr;clear d1 hr;go_upto_region 1 with (go_at_call 113;refine(ZB _).mono ?_;rintro Q w' ⟨rfl,hw⟩;have hw:=hw.symm;subst hw)
 have C5:=Qb (CA.out w5 B5.out);go_wp2_with fail
 refine C5.out.mono ?_;rintro Q w6 h6;obtain⟨b6,h6⟩:=h6.split
 have C:=Qb (B5.out.trans (b6.mono B5.out.size));rcases h6 with ⟨s,gl,z,rfl,ak,J⟩|⟨z,rfl⟩
 rotate_left
 ·exact⟨Z,by rw[E.out,z];exact⟨Z,XTo.same p.out C.out⟩⟩
 have P:=Q1 _ _ z;have S6:=Qb (p.out.below C.out);have i:=Qb J;have O:=Qb P
 have r:Hid (F=match M.rest with | d::rest=>some (IM.push { M with top:=d,rest:=rest } s) | []=>match numsOf s with | none=>none | some n=>some (IM.over { M with back:=n } 0)):=by
  show _=_;rw[E.out,z]
  simp only
  rw[Xs (by rw[P];exact HR.out),QcY _ z]
 have ah:Hid (∀ x∈s,Zh x.n):=by
  intro x N
  have:∀ {l:List Int} {A:List Qj},Qp M.top.v l=some A->∀ x∈A,x∈M.top.v:=by
   intro l
   induction l with
   | nil=>intro A h x N;simp[Qp] at h;subst h;simp at N
   | cons k l ih =>
     intro A h x N;simp only[Qp] at h
     cases o:QA M.top.v k with
     | none=>rw[o] at h;cases h
     | some y =>
       rw[o] at h
       simp only at h
       cases hl:Qp M.top.v l with
       | none=>rw[hl] at h;cases h
       | some zs =>
         rw[hl] at h
         simp at h
         subst h;rcases List.mem_cons.1 N with rfl | N
         ·exact QaV o
         ·exact ih hl x N
  exact(HI.out.gd x (this z x N)).1.2.2.2
 have au:Hid (w.heap.size<=gl):=Zt B5.out.size ak;obtain⟨gc,cap,ev,ad,-⟩:=S6.out.callsForm
 have V:w6.cell? ⟨b,4,none⟩=some g.vc:=Qa S6.out.box 4 _ Z;rw[ev] at V
 clear z ak J b6 P C5 CA E HR B5
 cases hrest:M.rest with
 | nil =>
   rw[hrest] at V
   simp only[List.length_nil,Nat.zero_add] at V
   have r:Hid (F=match numsOf s with | none=>none | some n=>some (IM.over { M with back:=n } 0)):=by
    show _=_;rw[r.out]
    split
    ·rename_i h;rw[hrest] at h;cases h
    ·rfl
   have CN:=Qb (Qd7 O.out (by omega) i.out ah.out);go_upto_region 3 with fail
   go_wp2_with fail
   refine CN.out.mono ?_;rintro Q G ⟨W,u⟩;have X:=Qb (C.out.trans (W.mono C.out.size))
   cases hno:numsOf s with
   | none =>
     rw[hno] at u r
     have u:Q=.panicked stuckP:=u;subst u;exact⟨Z,by rw[r.out];exact⟨Z,XTo.same p.out X.out⟩⟩
   | some ns =>
     rw[hno] at u r
     have u:∃ g7,Q=.returned (.slice (some ⟨g7,0,none⟩) args.length args.length)/\intsL.In G (fun x=>w6.heap.size<=x/\∃ c,G.heap[x]?=some (.cells c 2 (0,0))) ns [.slice (some ⟨g7,0,none⟩) args.length args.length]:=u;obtain⟨g7,rfl,I7⟩:=u
     have j:=Qb (p.out.below X.out);have c6:G.cell? ⟨b,6,none⟩=some g.vb:=Qa j.out.box 6 _ Z;have z6:=Qf j.out.box 6;have an:=j.out.back;obtain⟨a0,ao,e0,-⟩:=an
     have al:g.vb=.slice a0 M.back.length ao:=by simpa using e0
     rw[al] at c6
     have R:Hid (XTo g w (G.setCell ⟨b,6,none⟩ (.slice (some ⟨g7,0,none⟩) args.length args.length)) b most m { M with back:=ns } sc sa):=by
      refine XTo.then (p.out.stepB X.out) Z Z (j.out.reBox (M':={ M with back:=ns }) (sc':=sc) (sa':=sa) Z Z Z (by simp) (fun k o h1=>Xd _ _ _ _ h1) ⟨Z,Z,Z,Z⟩ (pi:=g.pi) (ci:=g.ci) (vb:=.slice (some ⟨g7,0,none⟩) args.length args.length) ⟨j.out.inp,j.out.inpC⟩ ?_ (by
       rw[Qo j.out.box 6 _]
       rfl))
      have aa:∀ k,w6.heap.size<=k->k≠b:=fun k o e=>by have:=XC S6.out.box;omega
      refine intsL.keep (fun k o hl=>Xd _ _ _ _ (aa k o.1)) (fun k o _=>⟨⟨fun hA=>?_,?_⟩,?_⟩) I7
      ·have:=p.out.lt k hA
       have:=C.out.size
       have:=o.1
       omega
      ·have h1:=p.out.low;have h2:=C.out.size;have h3:=o.1;show g.lo<=k;omega
      ·obtain⟨c,hc⟩:=o.2
       exact⟨c,(Xd _ _ _ _ (aa k o.1)).trans hc⟩
     clear CN V I7 j e0 W u;go_wp2
     exact⟨Z,by rw[r.out];exact .inr ⟨{ M with back:=ns },0,Z,Z,R.out⟩⟩
 | cons d rest =>
   have r:Hid (F=some (IM.push { M with top:=d,rest:=rest } s)):=by
    show _=_;rw[r.out]
    split
    ·rename_i h;rw[hrest] at h;cases h;rfl
    ·rename_i h;rw[hrest] at h;cases h
   have ag:M.rest.length=rest.length+1:=by rw[hrest];simp
   have ax:(((M.rest.length+1:Nat):Int)==1)=false:=by simp;omega
   have az:=aw.out d (by rw[hrest];simp);have ac:=Qb hrest;have af:=Qb ev;clear hrest;generalize ar:M.rest.length=kk at *;have ai:=Qb ar;have av:=Qb ag;clear ag;go_upto_region 5 with fail
   refine iv5 V ad (by omega) _ _ Z (Xg (by kernel_rfl)) Z ?_;rintro T aq G K H W;show wpList _ T _ [_] (QT _ aq [40,41,42,43,44,45,46,47,48,49,50,51,52,53]) G;simp only[QT,Act.put,List.setIfInBounds_toArray,List.set_cons_zero,List.set_cons_succ,K,H]
   have X:=Qb (C.out.trans (W.mono C.out.size));have j:=Qb (p.out.below X.out);have c4:G.cell? ⟨b,4,none⟩=some g.vc:=Qa j.out.box 4 _ Z;have z4:=Qf j.out.box 4;rw[af.out] at c4
   have D:∃ y A,g.fs=y::A:=by
    have:=p.out.rows
    rw[ac.out] at this
    cases hh:g.fs with
    | nil=>rw[hh] at this;simp at this
    | cons y A=>exact⟨y,A,Z⟩
   obtain⟨y,A,D⟩:=D
   have PP:=j.out.pop D ac.out (a:=some ⟨gc,0,none⟩) (cap:=cap) (by rw[af.out,ai.out]);rw[ai.out] at PP
   obtain⟨g8,U,T8,t8⟩:=PP
   have U:=Qb U;have T8:=Qb ((p.out.stepB X.out).trans T8)
   have q:Hid ((G.setCell ⟨b,4,none⟩ (.slice (some ⟨gc,0,none⟩) kk cap)).rowIs gl 183 (args.length*4) (Q7 s)):=by
    have h1:=i.out.of_block (W.block gl i.out.lt);exact h1.of_block (Xd _ _ _ _ (fun (e:gl=b)=>by have:=XC p.out.box;have:=au.out;omega))
   clear K H W j V C i t8 D;go_upto_region 6 with fail
   generalize G.setCell ⟨b,4,none⟩ (.slice (some ⟨gc,0,none⟩) kk cap)=w8 at U T8 q |-;have CT:=Qb (Qca U.out (by show rest.length<=1000;have:=av.out;omega));have CM:Hid (∀ B,Below w8.heap.size w8 B->Calls prog 119 #[.pointer (some ⟨g8.t.c,0,none⟩),.slice (some ⟨gl,0,none⟩) args.length args.length] B fun e w'=>e=.returned (.tuple #[])/\XTo g8 B w' b most m (IM.push { M with top:=d,rest:=rest } s) sc sa):=fun B bx=>ZM (U.out.below bx) (l:=s) O.out (Qio O.out (q.out.of_block (bx.block gl q.out.lt))) (by show d.v.length+args.length<=1000000;omega);clear c4 z4;go_wp2_with (go_at_call 68;refine CT.out.mono ?_;rintro Q w9 ⟨rfl,b9⟩)
   refine(CM.out w9 b9).mono ?_
   rintro Q ap ⟨rfl,ae⟩;have R:Hid (XGo g w ap b most m (IM.push { M with top:=d,rest:=rest } s) sc sa):=XGo.then (T8.out.trans (U.out.stepB b9)) ae.go;clear ae CM CT b9;go_wp2
   exact Xz (v:=.tuple #[]) (by simp[results,results109,go_sem]) Z (by rw[r.out];exact .inl ⟨Z,R.out⟩)
end
def TRw (w:World) (O:Nat->Prop) (v:Value) (L:List (TT 6)):Prop :=
 ∃ xs,w.ownsRow 0 92 3 v L.length xs/\(∀ g,v.ownBlock=some g->O g)/\∀ i x,L[i]?=some x->(Lay.tt 6).In w (fun g=>¬ O g) x ((xs.drop (i*3)).take 3)
def TRd (w:World) (Q:Nat->Prop) (a:Option Addr) (L:List (TT 6)):Prop :=
 ∀ i t,L[i]?=some t->∃ g a' c',a=some ⟨g,0,none⟩/\w.cell? ⟨g,i*3,none⟩=some (.int .i64 t.kind)/\w.cell? ⟨g,i*3+1,none⟩=some (.int .i64 t.r)/\w.cell? ⟨g,i*3+2,none⟩=some (.slice a' t.len c')/\TIn w Q t a'/\t.ok
section
variable {w w':World}{O O':Nat->Prop}{v:Value}{L:List (TT 6)}
theorem TRw.keep (h:TRw w O v L) (hb:∀ k,k<w.heap.size->v.ownBlock=some k\/¬ O k->w'.heap[k]?=w.heap[k]?) (n:∀ k,v.ownBlock=some k->O' k) (j:∀ k,¬ O k->k<w.heap.size->¬ O' k):TRw w' O' v L:=by
 obtain⟨l,⟨s,o⟩,t,p⟩:=h
 refine⟨l,⟨s,?_⟩,n,fun i x m=>(Lay.tt 6).keep (fun k b d=>hb k d (.inr b)) (fun k b d=>j k b d) (p i x m)⟩
 rcases o with q | ⟨g,a,c,rfl,f,e,r⟩
 ·exact Or.inl q
 ·exact Or.inr ⟨g,a,c,Z,f,(hb g (XC e) (.inl Z)).trans e,r⟩
theorem TRw.lt (h:TRw w O v L)(a:v.ownBlock=some g):g<w.heap.size:=by
 obtain⟨i,⟨f,b⟩,l,j⟩:=h
 rcases b with ⟨rfl,_⟩|⟨k,e,d,rfl,_,c,r⟩
 ·simp[Value.ownBlock] at a
 ·simp[Value.ownBlock] at a;subst a;exact XC c
theorem TRw.block (h:TRw w O v L)(a:v.ownBlock=some g):∃ c,w.heap[g]?=some (.cells c 92 (0,0)):=by
 obtain⟨j,⟨i,d⟩,m,k⟩:=h
 rcases d with ⟨rfl,_⟩|⟨l,f,b,rfl,_,e,r⟩
 ·simp[Value.ownBlock] at a
 ·simp[Value.ownBlock] at a;subst a;exact⟨b,e⟩
theorem TRw.form (h:TRw w O v L):∃ a cap,v=.slice a L.length cap/\TRd w (fun g=>¬ O g) a L/\∃ xs,w.ownsRow 0 92 3 (.slice a L.length cap) L.length xs:=by
 obtain⟨xs,d,D,m⟩:=h
 obtain⟨E,r⟩:=id d
 rcases r with ⟨rfl,s⟩|⟨g,cap,z,rfl,_,y,B,C,A,k⟩
 ·have:L=[]:=Xf.1 s
  subst this;exact⟨none,0,Z,fun i t c=>by simp at c,xs,d⟩
 ·refine⟨some ⟨g,0,none⟩,cap,Z,fun i t c=>?_,xs,d⟩
  obtain⟨n,o,e,x,p⟩:=m i t c
  have l:i<L.length:=(Zi c).1
  have b:∀ j u,j<3->((xs.drop (i*3)).take 3)[j]?=some u->w.cell? ⟨g,i*3+j,none⟩=some u:=fun j u q f=>by
   rw[XR,Xs q,List.getElem?_drop,<-k,XR,Xs (by omega),Array.getElem?_toList] at f
   exact Qa y _ u f
  rw[e] at b
  exact⟨g,n,o,Z,b 0 _ (by omega) Z,b 1 _ (by omega) Z,b 2 _ (by omega) Z,x,p⟩
theorem TRd.below {Q:Nat->Prop}(h:TRd w Q a L) (b:Below w.heap.size w w'):TRd w' Q a L:=fun i t o=>by
 obtain⟨g,l,f,e,d,n,k,m,j⟩:=h i t o
 have c:g<w.heap.size:=Xi w ⟨g,i*3,none⟩ d;exact⟨g,l,f,e,(b.cell (p:=⟨g,i*3,none⟩) c).trans d,(b.cell (p:=⟨g,i*3+1,none⟩) c).trans n,(b.cell (p:=⟨g,i*3+2,none⟩) c).trans k,m.below b,j⟩
end
def KAt (w:World) (b:Nat) (O:Nat->Prop) (s:JSt):Prop :=
 ∃ pm cm a1 c1 a2 c2 a3 c3 h vL,w.heap[b]?=some (.cells #[.slice pm s.m.length cm,.int .i64 s.f.regs,.slice a1 s.f.params.length c1,.slice a2 s.f.results.length c2,.slice a3 s.f.blocks.length c3,.pointer (some ⟨h,0,none⟩),vL] 155 (0,0)) /\
  (Qam 6).In w (fun g=>¬ O g) s.m [.slice pm s.m.length cm]/\(QaH 6).In w (fun g=>¬ O g) s.f [.int .i64 s.f.regs,.slice a1 s.f.params.length c1,.slice a2 s.f.results.length c2,.slice a3 s.f.blocks.length c3] /\
  QS w h O s.H/\TRw w O vL s.L/\O b
section
variable {w w':World}{b:Nat}{O O':Nat->Prop}{s:JSt}
theorem KAt.keep (h:KAt w b O s) (hb:∀ k,k<w.heap.size->w'.heap[k]?=w.heap[k]?) (d:∀ k,k<w.heap.size->(O k↔O' k)):KAt w' b O' s:=by
 obtain⟨v,A,B,r,n,q,x,z,h,t,l,u,o,m,j,p⟩:=h
 have f:=XC l
 refine⟨v,A,B,r,n,q,x,z,h,t,(hb b f).trans l,(Qam 6).keep (fun k _ a=>hb k a) (fun k c a e=>c ((d k a).2 e)) u,(QaH 6).keep (fun k _ a=>hb k a) (fun k c a e=>c ((d k a).2 e)) o,
  m.keep (fun g _ i=>hb g i) (fun g i a=>(d g a).1 i),j.keep (fun k c _=>hb k c) (fun k c=>?_) (fun k c a e=>c ((d k a).2 e)),(d b f).1 p⟩
 have a:=j.lt c;obtain⟨C,E,y,D⟩:=j
 exact(d k a).1 (y k c)
theorem KAt.below (h:KAt w b O s) (k:Below w.heap.size w w'):KAt w' b O s:=h.keep (fun g a=>k.block g a) (fun _ _=>Iff.rfl)
theorem KAt.drewN (h:KAt w b O s) (n:Nat):KAt (w.drewN n) b O s:=h
theorem KAt.lt (h:KAt w b O s):b<w.heap.size:=by obtain⟨f,q,c,m,g,o,i,p,h,d,a,e,l,j,k,n⟩:=h;exact XC a
structure KRd (w:World) (b:Nat) (O:Nat->Prop) (s:JSt) (pm:Option Addr) (cm:Nat) (a1:Option Addr) (c1:Nat) (a2:Option Addr) (c2:Nat) (a3:Option Addr) (c3:Nat) (h:Nat) (aL:Option Addr) (cL:Nat):Prop where
 blk:w.heap[b]?=some (.cells #[.slice pm s.m.length cm,.int .i64 s.f.regs,.slice a1 s.f.params.length c1,.slice a2 s.f.results.length c2,.slice a3 s.f.blocks.length c3,.pointer (some ⟨h,0,none⟩),.slice aL s.L.length cL] 155 (0,0))
 mod:(Qam 6).In w (fun g=>¬ O g) s.m [.slice pm s.m.length cm]
 fn:(QaH 6).In w (fun g=>¬ O g) s.f [.int .i64 s.f.regs,.slice a1 s.f.params.length c1,.slice a2 s.f.results.length c2,.slice a3 s.f.blocks.length c3]
 holds:QS w h O s.H
 row:TRd w (fun g=>¬ O g) aL s.L
theorem KRd.below {a:Option Addr}{j:Nat}{d:Option Addr}{g:Nat}{c:Option Addr}{l:Nat}{h:Nat}{i:Option Addr}{f:Nat}(k:KRd w b O s pm cm a j d g c l h i f) (e:Below w.heap.size w w'):KRd w' b O s pm cm a j d g c l h i f :=
 ⟨(e.block b (XC k.blk)).trans k.blk,Ya k.mod e,Ya k.fn e,k.holds.below e,k.row.below e⟩
theorem KRd.cells {a:Option Addr}{j:Nat}{d:Option Addr}{g:Nat}{c:Option Addr}{l:Nat}{h:Nat}{i:Option Addr}{e:Nat}(k:KRd w b O s pm cm a j d g c l h i e) :
 w.cell? ⟨b,0,none⟩=some (.slice pm s.m.length cm)/\w.cell? ⟨b,1,none⟩=some (.int .i64 s.f.regs)/\w.cell? ⟨b,2,none⟩=some (.slice a s.f.params.length j)/\w.cell? ⟨b,3,none⟩=some (.slice d s.f.results.length g)/\w.cell? ⟨b,4,none⟩=some (.slice c s.f.blocks.length l)/\w.cell? ⟨b,5,none⟩=some (.pointer (some ⟨h,0,none⟩))/\w.cell? ⟨b,6,none⟩=some (.slice i s.L.length e) :=
 ⟨Qa k.blk 0 _ Z,Qa k.blk 1 _ Z,Qa k.blk 2 _ Z,Qa k.blk 3 _ Z,Qa k.blk 4 _ Z,Qa k.blk 5 _ Z,Qa k.blk 6 _ Z⟩
end
structure QeJ (w:World) (lo:Nat) (v:Value){n:Nat}(l:List (TT n)) (xs:List Value):Prop where
 own:w.ownsRow lo 92 3 v l.length xs
 kids:∀ (i:Nat) (x:TT n),l[i]?=some x->∃ a c,xs[i*3]?=some (.int .i64 x.kind)/\xs[i*3+1]?=some (.int .i64 x.r)/\xs[i*3+2]?=some (.slice a x.len c)/\TIn w (But lo v) x a
theorem QeJ.nil (w:World) (a:Nat):QeJ w a (.slice none 0 0) ([]:List (TT n)) [] :=
 ⟨⟨Z,Or.inl ⟨Z,Z⟩⟩,fun i x h=>by simp at h⟩
theorem QeJ.below {l:List (TT n)}(h:QeJ w lo v l xs) (b:Below w.heap.size w w'):QeJ w' lo v l xs:=by
 obtain⟨⟨m,s⟩,y⟩:=h
 refine⟨⟨m,?_⟩,fun i x o=>?_⟩
 ·rcases s with t | ⟨g,f,d,e,k,j,r⟩
  ·exact Or.inl t
  ·exact Or.inr ⟨g,f,d,e,k,(b.block g (XC j)).trans j,r⟩
 ·obtain⟨a,c,u,z,p,q⟩:=y i x o
  exact⟨a,c,u,z,p,q.below b⟩
theorem QeJ.lo_le {l:List (TT n)}(h:QeJ w lo v l xs)(a:v.ownBlock=some g):lo<=g/\g<w.heap.size:=by
 obtain⟨⟨i,c⟩,m⟩:=h
 rcases c with ⟨rfl,j⟩|⟨k,f,e,rfl,b,d,r⟩
 ·simp[Value.ownBlock] at a
 ·simp[Value.ownBlock] at a;subst a;exact⟨b,XC d⟩
theorem QeJ.push {l:List (TT n)}(h:QeJ w lo v l xs){x:TT n}(B:TIn w (But lo v) x a)
  (u:w.grownBy w' v.ownBlock) (q:v.ownBlock=some g\/g=w.heap.size)
 (A:w'.ownsRow lo 92 3 (.slice (some ⟨g,0,none⟩) (l.length+1) cap) (l.length+1) (xs++[.int .i64 x.kind,.int .i64 x.r,.slice a x.len c])) :
 QeJ w' lo (.slice (some ⟨g,0,none⟩) (l.length+1) cap) (l++[x]) (xs++[.int .i64 x.kind,.int .i64 x.r,.slice a x.len c]):=by
 obtain⟨G,z⟩:=h
 have m:=G.1
 have f:∀ {y:TT n} {b:Option Addr},TIn w (But lo v) y b->TIn w' (But lo (.slice (some ⟨g,0,none⟩) (l.length+1) cap)) y b:=fun j=>by
  refine j.keep (fun k o t=>?_) (fun k o t=>⟨o.1,?_⟩)
  ·exact u.block k t (fun e=>o.2 e.symm)
  ·simp only[Value.ownBlock,ne_eq,Option.some.injEq]
   intro e;subst e;rcases q with s | s
   ·exact o.2 s
   ·omega
 refine⟨by rw[List.length_append];exact A,fun i y j=>?_⟩
 rw[List.getElem?_append] at j
 split at j
 ·rename_i E
  obtain⟨b,d,F,H,C,D⟩:=z i y j
  refine⟨b,d,?_,?_,?_,f D⟩
  ·rw[XP (by omega)];exact F
  ·rw[XP (by omega)];exact H
  ·rw[XP (by omega)];exact C
 ·rename_i E
  have p:i=l.length:=by
   have:=(Zi j).1
   simp at this
   omega
  subst p;simp at j
  subst j;refine⟨a,c,?_,?_,?_,f B⟩
  ·rw[XQ (by omega),m,Nat.sub_self];rfl
  ·rw[XQ (by omega),m,Nat.add_sub_cancel_left];rfl
  ·rw[XQ (by omega),m,Nat.add_sub_cancel_left];rfl
theorem underTs:prog.underlying 67=some (.slice 92):=by kernel_rfl
theorem infoT:(prog.info? 92).map (fun i=>(i.zero,i.size,i.bytes))=some (some (.agg #[.int .i64 0,.int .i64 0,.slice none 0 0]),3,40):=by kernel_rfl
theorem infoT_parts:∃ i,prog.info? 92=some i/\i.zero=some (.agg #[.int .i64 0,.int .i64 0,.slice none 0 0])/\i.size=3/\i.bytes=40:=by
 have h:=infoT
 cases hi:prog.info? 92 with
 | none=>rw[hi] at h;cases h
 | some i=>rw[hi] at h;simp at h;exact⟨i,Z,h.1,h.2.1,h.2.2⟩
structure Bx2 (w wr:World) (k r:Int) (a:Option Addr) (len c:Nat):Prop where
 bel:Below w.heap.size w wr
 box:wr.heap[w.heap.size]?=some (.cells #[.int .i64 k,.int .i64 r,.slice a len c] 92 (0,0))
 res:wr.heap[w.heap.size+1]?=some (.cells #[.int .i64 0,.int .i64 0,.slice none 0 0] 92 (0,0))
theorem Bx2.start (w:World) (k r:Int) (a:Option Addr) (len c:Nat):Bx2 w ((w.alloc (.cells #[.int .i64 k,.int .i64 r,.slice a len c] 92)).alloc (.cells #[.int .i64 0,.int .i64 0,.slice none 0 0] 92)) k r a len c :=
 ⟨((Below.refl _ w).alloc Ze _).alloc (by simp) _,(Below.heap_alloc _ _ _ (by simp)).trans (Qh w _ _),by have:=Qh (w.alloc (.cells #[.int .i64 k,.int .i64 r,.slice a len c] 92)) #[.int .i64 0,.int .i64 0,.slice none 0 0] 92;simpa using this⟩
theorem Bx2.below {k r:Int}{len:Nat}(h:Bx2 w wr k r a len c) (b:Below wr.heap.size wr w'):Bx2 w w' k r a len c :=
 ⟨h.bel.trans (b.mono h.bel.size),Qau h.box b,Qau h.res b⟩
def QlH (w:World) (b:Option Addr) (m:Nat) (nm:Nat->Int):Prop:=∀ i,i<m->∃ g o,b=some ⟨g,o,none⟩/\w.cell? ⟨g,o+i,none⟩=some (.int .i64 (nm i))
theorem QlH.below {b:Option Addr}{c:Nat->Int}(h:QlH w b m c) (k:Below w.heap.size w w'):QlH w' b m c:=fun i d=>by
 obtain⟨g,o,e,a⟩:=h i d
 exact⟨g,o,e,(k.cell (p:=⟨g,o+i,none⟩) (Xi w ⟨g,o+i,none⟩ a)).trans a⟩
structure Qfo (w:World) (G len:Nat){n:Nat}(l:List (TT n)):Prop where
 row:∃ cur,w.heap[G]?=some (.cells cur 92 (0,0))/\cur.size=len*3/\∀ (i:Nat) (x:TT n),l[i]?=some x->∃ a c,cur[i*3]?=some (.int .i64 x.kind)/\cur[i*3+1]?=some (.int .i64 x.r)/\cur[i*3+2]?=some (.slice a x.len c)/\TIn w (Qaq (G+1)) x a
theorem Qfo.below {len:Nat}{l:List (TT n)}(h:Qfo w G len l) (b:Below w.heap.size w w'):Qfo w' G len l:=by
 obtain⟨d,e,k,o⟩:=h.row
 refine⟨d,(b.block G (XC e)).trans e,k,fun i x f=>?_⟩
 obtain⟨a,c,m,p,g,j⟩:=o i x f
 exact⟨a,c,m,p,g,j.below b⟩
theorem Qfo.lt {len:Nat}{l:List (TT n)}(h:Qfo w G len l):G<w.heap.size:=by
 obtain⟨a,b,c,d⟩:=h.row
 exact XC b
theorem Qfo.frozen {len:Nat}{l:List (TT n)}(h:Qfo w G len l) (i:Nat):w.frozen? ⟨G,i,none⟩=false:=by
 obtain⟨a,b,c,d⟩:=h.row
 exact Qf b i
theorem Qfo.has {len:Nat}{l:List (TT n)}(h:Qfo w G len l) (i:Nat) (e:i<len*3):∃ v,w.cell? ⟨G,i,none⟩=some v:=by
 obtain⟨a,b,c,d⟩:=h.row
 exact⟨a[i]'(by omega),Qa b i _ (Xj (by omega))⟩
theorem Qfo.set {len:Nat}{l:List (TT n)}(h:Qfo w G len l) (z:l.length=q) (E:q<len){x:TT n}(p:TIn w (Qaq (G+1)) x a) :
 Qfo (((w.setCell ⟨G,q*3,none⟩ (.int .i64 x.kind)).setCell ⟨G,q*3+1,none⟩ (.int .i64 x.r)).setCell ⟨G,q*3+2,none⟩ (.slice a x.len c)) G len (l++[x]):=by
 obtain⟨v,B,u,C⟩:=h.row
 have m:=Qo B (q*3) (.int .i64 x.kind);have j:=Qo m (q*3+1) (.int .i64 x.r);have o:=Qo j (q*3+2) (.slice a x.len c)
 have f:∀ {y:TT n} {b:Option Addr},TIn w (Qaq (G+1)) y b->TIn (((w.setCell ⟨G,q*3,none⟩ (.int .i64 x.kind)).setCell ⟨G,q*3+1,none⟩ (.int .i64 x.r)).setCell ⟨G,q*3+2,none⟩ (.slice a x.len c)) (Qaq (G+1)) y b :=
  fun e=>((e.setCell (by simp) _).setCell (by simp) _).setCell (by simp) _
 refine⟨_,o,by simp[u],fun i y e=>?_⟩
 rw[List.getElem?_append] at e
 split at e
 ·rename_i D
  obtain⟨b,d,A,k,s,t⟩:=C i y e
  refine⟨b,d,?_,?_,?_,f t⟩
  ·simp only[Array.getElem?_setIfInBounds]
   rw[Xr (by omega),Xr (by omega),Xr (by omega)];exact A
  ·simp only[Array.getElem?_setIfInBounds]
   rw[Xr (by omega),Xr (by omega),Xr (by omega)];exact k
  ·simp only[Array.getElem?_setIfInBounds]
   rw[Xr (by omega),Xr (by omega),Xr (by omega)];exact s
 ·rename_i D
  have g:i=q:=by
   have:=(Zi e).1
   simp at this
   omega
  subst g;simp[z] at e
  subst e;refine⟨a,c,?_,?_,?_,f p⟩
  ·simp only[Array.getElem?_setIfInBounds,Array.size_setIfInBounds]
   rw[Xr (by omega),Xr (by omega),Xs Y,Xs (by omega)]
  ·simp only[Array.getElem?_setIfInBounds,Array.size_setIfInBounds]
   rw[Xr (by omega),Xs Y,Xs (by omega)]
  ·simp only[Array.getElem?_setIfInBounds,Array.size_setIfInBounds]
   rw[Xs Y,Xs (by omega)]
structure RnX (w wr:World) (k r:Int) (a:Option Addr) (len c G:Nat){n:Nat}(l:List (TT n)):Prop where
 bx:Bx2 w wr k r a len c
 row:Qfo wr G len l
 hG:w.heap.size+1<G
section
variable {w wr w':World}{k r:Int}{a:Option Addr}{len c G n:Nat}{l:List (TT n)}
theorem RnX.start (h:Bx2 w wr k r a len c):RnX w (wr.alloc (.cells (madeCells #[.int .i64 0,.int .i64 0,.slice none 0 0] (len*3)) 92)) k r a len c wr.heap.size ([]:List (TT n)) :=
 ⟨h.below ((Below.refl _ wr).alloc Ze _),⟨_,Qh wr _ _,size_madeCells _ _,fun i x b=>by simp at b⟩,XC h.res⟩
theorem RnX.below (h:RnX w wr k r a len c G l) (b:Below wr.heap.size wr w'):RnX w w' k r a len c G l:=⟨h.bx.below b,h.row.below b,h.hG⟩
theorem Bx2.setG (h:Bx2 w wr k r a len c) (b:w.heap.size+1<G) (i:Nat) (v:Value):Bx2 w (wr.setCell ⟨G,i,none⟩ v) k r a len c :=
 ⟨h.bel.setCell (by simp;omega) _,(Xd _ _ _ _ (by simp;omega)).trans h.box,(Xd _ _ _ _ (by simp;omega)).trans h.res⟩
theorem RnX.set (h:RnX w wr k r a len c G l)(d:l.length=q) (e:q<len){x:TT n}{b:Option Addr}{c':Nat}(f:TIn wr (Qaq (G+1)) x b) :
 RnX w (((wr.setCell ⟨G,q*3,none⟩ (.int .i64 x.kind)).setCell ⟨G,q*3+1,none⟩ (.int .i64 x.r)).setCell ⟨G,q*3+2,none⟩ (.slice b x.len c')) k r a len c G (l++[x]) :=
 ⟨((h.bx.setG h.hG _ _).setG h.hG _ _).setG h.hG _ _,h.row.set d e f,h.hG⟩
end
structure RdX (w wr:World) (k r:Int) (a:Option Addr) (len c:Nat) (r':Int) (v:Value){n:Nat}(l:List (TT n)) (xs:List Value):Prop where
 bx:Bx2 w wr k r a len c
 u:wr.heap[w.heap.size+2]?=some (.cells #[.int .i64 k,.int .i64 r',v] 92 (0,0))
 row:QeJ wr (w.heap.size+3) v l xs
section
variable {w wr w':World}{k r r':Int}{a:Option Addr}{len c n:Nat}{v:Value}{l:List (TT n)}{xs:List Value}
theorem RdX.start (w:World) (k r:Int) (a:Option Addr) (len c:Nat) (b:Int):RdX w (((w.alloc (.cells #[.int .i64 k,.int .i64 r,.slice a len c] 92)).alloc (.cells #[.int .i64 0,.int .i64 0,.slice none 0 0] 92)).alloc (.cells #[.int .i64 k,.int .i64 b,.slice none 0 0] 92)) k r a len c b (.slice none 0 0) ([]:List (TT n)) [] :=
 ⟨(Bx2.start w k r a len c).below (Zr.alloc Ze _),by have:=Qh ((w.alloc (.cells #[.int .i64 k,.int .i64 r,.slice a len c] 92)).alloc (.cells #[.int .i64 0,.int .i64 0,.slice none 0 0] 92)) #[.int .i64 k,.int .i64 b,.slice none 0 0] 92;simpa using this,QeJ.nil _ _⟩
theorem RdX.below (h:RdX w wr k r a len c r' v l xs) (b:Below wr.heap.size wr w'):RdX w w' k r a len c r' v l xs:=⟨h.bx.below b,Qau h.u b,h.row.below b⟩
theorem QeJ.setOther (h:QeJ w' (w.heap.size+3) v l xs) (i:Nat) (y:Value):QeJ (w'.setCell ⟨w.heap.size+2,i,none⟩ y) (w.heap.size+3) v l xs:=by
 obtain⟨⟨j,p⟩,u⟩:=h
 refine⟨⟨j,?_⟩,fun i x k=>?_⟩
 ·rcases p with q | ⟨g,d,b,e,f,s,r⟩
  ·exact Or.inl q
  ·exact Or.inr ⟨g,d,b,e,f,(Xd _ _ _ _ (by simp;omega)).trans s,r⟩
 ·obtain⟨a,c,t,z,m,n⟩:=u i x k
  exact⟨a,c,t,z,m,n.setCell (fun o=>by have:=o.1;simp at this) _⟩
theorem RdX.push (h:RdX w wr k r a len c r' v l xs){x:TT n}{m:Option Addr}{c':Nat}(p:TIn wr (But (w.heap.size+3) v) x m)
  (d:wr.grownBy w' v.ownBlock) (f:v.ownBlock=some g\/g=wr.heap.size)
 (s:w'.ownsRow (w.heap.size+3) 92 3 (.slice (some ⟨g,0,none⟩) (l.length+1) cap) (l.length+1) (xs++[.int .i64 x.kind,.int .i64 x.r,.slice m x.len c'])) :
 w'.heap[w.heap.size+2]?=some (.cells #[.int .i64 k,.int .i64 r',v] 92 (0,0)) /\
 RdX w (w'.setCell ⟨w.heap.size+2,2,none⟩ (.slice (some ⟨g,0,none⟩) (l.length+1) cap)) k r a len c r' (.slice (some ⟨g,0,none⟩) (l.length+1) cap) (l++[x]) (xs++[.int .i64 x.kind,.int .i64 x.r,.slice m x.len c']):=by
 have j:∀ i,i<w.heap.size+3->i<wr.heap.size->w'.heap[i]?=wr.heap[i]?:=fun i t q=>d.block i q (fun e=>by have:=(h.row.lo_le e.symm).1;omega);have o:=(j (w.heap.size+2) (by omega) (XC h.u)).trans h.u;have b:Below w.heap.size w w':=h.bx.bel.grown d h.bx.bel.size (fun i e=>by have:=(h.row.lo_le e).1;omega);refine⟨o,⟨⟨b.setCell (by simp) _,?_,?_⟩,?_,QeJ.setOther (h.row.push p d f s) 2 _⟩⟩
 ·exact(Xd _ _ _ _ (by simp)).trans ((j _ (by omega) (XC h.bx.box)).trans h.bx.box)
 ·exact(Xd _ _ _ _ (by simp)).trans ((j _ (by omega) (XC h.bx.res)).trans h.bx.res)
 ·have:=Qo o 2 (.slice (some ⟨g,0,none⟩) (l.length+1) cap)
  simpa using this
end
end Go.Proofs.YtofjjohefamljafGreat
