import Derived.Test.YtacjnejckfhpoadGreatP3
import Derived.Defers
import Derived.Recover
import Derived.Lib.SliceRun
set_option maxHeartbeats 16000000
set_option maxRecDepth 100000
namespace Go.Proofs.YtacjnejckfhpoadGreat
open Go.ChangeShapes Go.WideShapes Go.ChangeAt Go.RowKit
set_option linter.unusedVariables false
def QhH (B:Nat) (w w':World):Prop:=∀ k,k≠B→w'.heap[k]?=w.heap[k]?
theorem Lay.keep1 {α:Type}{A:Lay α}{w w':World}{lo B:Nat}{x:α}{cs:List Value}(h:A.In w (fun g=>lo≤g) x cs) (hk:QhH B w w') (hB:B<lo):A.In w' (fun g=>lo≤g) x cs :=
 A.keep (fun k hl _=>hk k (by omega)) (fun _ h _=>h) h
theorem Qan (w:World) (B j:Nat) (vs:List Value):QhH B w (w.setCells B j vs):=fun k hk=>ZS hk vs j w
section
variable {n:Nat}{a:Act}{L:List (Tmp × Value)}{w0 w:World}{Bs:List (Nat × Array Value × TypeId)}{Q:Exit→Act→World→Prop}{ops:Array Oper}{rest:List Oper}{t:Tmp}{u v:Value}{ty ty2 ty3:TypeId}{pos:String}{aft:Array Edge}{gd:Option (Nat × Bool)}{x y:Operand}
theorem sTk (i:Nat){B j:Nat}{c:Array Value}{bt:TypeId}{cells:List Value}(hW:Wd w0 w Bs)
 (hx:Qo L x=some (.pointer (some ⟨B,j,none⟩))) (hy:Qo L y=some (.agg cells.toArray)) (hi:(Tryz.prog.info? ty2).map (·.size)=some cells.length) (h1:cells.all (·.oneCell')=true)
 (hb:Bs[i]?=some (B,c,bt)) (hs:Nat.ble (j+cells.length) c.size=true)
 (k:∀ w',QhH B w w'→Wd w0 w' (Bs.set i (B,ZG c j cells,bt))→St n L ops Q rest w'):St n L ops Q (⟨none,.store ty2 x y,ty,pos,aft,none⟩::rest) w:=fun a hF=>by
 have hn:j+cells.length≤c.size:=by simpa[Nat.ble_eq] using hs
 refine Qd3 hF rfl rfl (fun K hK=>?_) (k (w.setCells B j cells) (Qan w B j cells) (hW.setAt i hb j cells hs rfl rfl) a hF);have e:=hF.ev hx;have e2:=hF.ev hy
 have:=run_storeAt_mid (P:=Tryz.prog) w B j ty2 cells.toArray (by simpa using QcE (hW.get i hb) j cells.length hn) (by simpa using hi) (by simpa using h1)
 unfold Oper.wp execOp;simp only[e,e2,Sem.run_bind,this,Result.andThen_ok,Sem.run_pure]
 rw[Oper.upon_skip];simpa[Act.put] using hK
theorem s1k (i:Nat){B j:Nat}{c:Array Value}{bt:TypeId}(hi:(Tryz.prog.info? ty2).map (·.size)=some 1) (hW:Wd w0 w Bs)
 (hx:Qo L x=some (.pointer (some ⟨B,j,none⟩))) (hy:Qo L y=some v) (hv:v.cells=#[v]) (h1:v.oneCell'=true)
 (hb:Bs[i]?=some (B,c,bt)) (hs:Nat.ble (j+1) c.size=true)
 (k:∀ w',QhH B w w'→Wd w0 w' (Bs.set i (B,ZG c j [v],bt))→St n L ops Q rest w'):St n L ops Q (⟨none,.store ty2 x y,ty,pos,aft,none⟩::rest) w:=fun a hF=>by
 have hn:j+1≤c.size:=by simpa[Nat.ble_eq] using hs
 refine Qd3 hF rfl rfl (fun K hK=>?_) (k (w.setCells B j [v]) (Qan w B j [v]) (hW.setAt i hb j [v] hs rfl rfl) a hF);have e:=hF.ev hx;have e2:=hF.ev hy;have ht:=QcE (hW.get i hb) j 1 hn;have h2:=run_storeCells_cells (P:=Tryz.prog) B j [v] 0 w (fun k hk=>by simpa using (ht k (by simpa using hk)).1) (fun k hk=>by simpa using (ht k (by simpa using hk)).2) (fun u hu=>by simp at hu;subst hu;exact h1)
 have h3:(Instr.storeAt ty2 (.pointer (some ⟨B,j,none⟩)) v).run Tryz.prog w=.ok () (w.setCells B j [v]):=by
  cases hq:Tryz.prog.info? ty2 with
  | none=>simp[hq] at hi
  | some q =>
   have hs1:q.size=1:=by simpa[hq] using hi
   simp only[Nat.add_zero] at h2
   simp[Instr.storeAt,Instr.sureAddr,storeVar,sizeOf,typeInfo,hq,hv,hs1,h2]
 unfold Oper.wp execOp;simp only[e,e2,Sem.run_bind,h3,Result.andThen_ok,Sem.run_pure]
 rw[Oper.upon_skip];simpa[Act.put] using hK
theorem Qhu {o:Oper}{f:FuncId}{args:Array Value}{R:Value→World→Prop}(hW:Wd w0 w Bs) (hg:Gok ops n L o.guard)
 (hc:Calls Tryz.prog f args w fun e w'=>∃ v,e=.returned v∧R v w'∧Below w.heap.size w w') (hd:o.dst=some t) (ht:Nat.blt t n=true)
 (h:∀ ev:Operand→Value,(∀ x v,Qo L x=some v→ev x=v)→(execOp ev o).run Tryz.prog w=.ok (.enter f args) w)
 (k:∀ v w',R v w'→Below w.heap.size w w'→Wd w0 w' Bs→St n ((t,v)::L) ops Q rest w'):St n L ops Q (o::rest) w:=fun a hF =>
 wpList_step fun K hK=>by
  rw[if_pos (hg.on hF)]
  unfold Oper.wp;rw[h a.eval (fun x v e=>hF.ev e),Oper.upon_enter]
  refine hc.mono ?_;rintro e w9 ⟨v,rfl,hR,hb⟩;rw[hd]
  exact hK _ _ (k _ _ hR hb (hW.below hb) _ (hF.put ht))
theorem QlX {f:FuncId}{ts:Array TypeId}{x0:Operand}{v0:Value}{R:Value→World→Prop}(hcf:CF f) (hW:Wd w0 w Bs) (hc:Calls Tryz.prog f #[v0] w fun e w'=>∃ v,e=.returned v∧R v w'∧Below w.heap.size w w') (hg:Gok ops n L gd) (h0:Qo L x0=some v0) (ht:Nat.blt t n=true)
 (k:∀ v w',R v w'→Below w.heap.size w w'→Wd w0 w' Bs→St n ((t,v)::L) ops Q rest w'):St n L ops Q (⟨some t,.call { callee:=.value (.func f),args:=#[x0],argTypes:=ts },ty,pos,aft,gd⟩::rest) w :=
 Qhu hW hg hc rfl ht (fun ev hev=>by have e0:=hev _ _ h0;have ef:=hev (.func f) _ rfl;have ec:=hcf;unfold CF at ec;simp[go_sem,ef,ec,e0]) k
theorem Qj0 {f:FuncId}{ts:Array TypeId}{x0 x1:Operand}{v0 v1:Value}{R:Value→World→Prop}(hcf:CF f) (hW:Wd w0 w Bs) (hc:Calls Tryz.prog f #[v0,v1] w fun e w'=>∃ v,e=.returned v∧R v w'∧Below w.heap.size w w') (hg:Gok ops n L gd) (h0:Qo L x0=some v0) (h1:Qo L x1=some v1) (ht:Nat.blt t n=true)
 (k:∀ v w',R v w'→Below w.heap.size w w'→Wd w0 w' Bs→St n ((t,v)::L) ops Q rest w'):St n L ops Q (⟨some t,.call { callee:=.value (.func f),args:=#[x0,x1],argTypes:=ts },ty,pos,aft,gd⟩::rest) w :=
 Qhu hW hg hc rfl ht (fun ev hev=>by have e0:=hev _ _ h0;have e1:=hev _ _ h1;have ef:=hev (.func f) _ rfl;have ec:=hcf;unfold CF at ec;simp[go_sem,ef,ec,e0,e1]) k
theorem Qjh {f:FuncId}{ts:Array TypeId}{xf x0:Operand}{v0:Value}{R:Value→World→Prop}(hcf:CF f) (hW:Wd w0 w Bs) (hc:Calls Tryz.prog f #[v0] w fun e w'=>∃ v,e=.returned v∧R v w'∧Below w.heap.size w w') (hg:Gok ops n L gd) (hf:Qo L xf=some (.func (.func f) #[] #[])) (h0:Qo L x0=some v0) (ht:Nat.blt t n=true)
 (k:∀ v w',R v w'→Below w.heap.size w w'→Wd w0 w' Bs→St n ((t,v)::L) ops Q rest w'):St n L ops Q (⟨some t,.call { callee:=.value xf,args:=#[x0],argTypes:=ts },ty,pos,aft,gd⟩::rest) w :=
 Qhu hW hg hc rfl ht (fun ev hev=>by have e0:=hev _ _ h0;have ef:=hev _ _ hf;have ec:=hcf;unfold CF at ec;simp[go_sem,ef,ec,e0]) k
end
end Go.Proofs.YtacjnejckfhpoadGreat
namespace Go.Proofs.YtacjnejckfhpoadGreat
open Go.RowKit
set_option linter.unusedVariables false
theorem QbC {B:Nat}{t:TypeId}:∀ (vs:List Value) (w:World) (c:Array Value) (j:Nat),Blk w B c t→j+vs.length≤c.size→Blk (w.setCells B j vs) B (ZG c j vs) t
 | [],w,c,j,h,hs=>by
  have:ZG c j []=c:=by unfold ZG;simp
  rw[this];exact h
 | v::vs,w,c,j,h,hs=>by
  have:=QbC vs (w.setCell ⟨B,j,none⟩ v) (c.setIfInBounds j v) (j+1) (Qr h j v) (by simp at hs ⊢;omega)
  rw[QcJ _ _ _ _ hs] at this
  exact this
theorem Qam {B b:Nat}(hb:B≤b):∀ (vs:List Value) (w w0:World) (j:Nat),Below B w0 w→Below B w0 (w.setCells b j vs)
 | [],w,w0,j,h=>h
 | v::vs,w,w0,j,h=>Qam hb vs _ _ _ (h.setCell hb v)
theorem Qdw (w:World) (b j:Nat) (vs:List Value):w.grownBy (w.setCells b j vs) (some b):=by
 have h:=Qam (Nat.zero_le b) vs w w j (Below.refl 0 w);exact⟨h.os,h.tape,h.output,h.size,fun k hk hne=>ZS (fun e=>hne (by rw[e])) vs j w⟩
section
variable {α:Type}{A:Lay α}{e:TypeId}{w:World}{lo g n:Nat}{l:List α}{xs:List Value}
theorem Z2.fill (h:Z2 A e w lo (.slice (some ⟨g,0,none⟩) l.length n) l xs){x:α}{ds:List Value}(hx:A.In w (fun k=>lo≤k∧k≠g) x ds) (hq:l.length<n) :
 Z2 A e (w.setCells g (l.length*A.size) ds) lo (.slice (some ⟨g,0,none⟩) (l.length+1) n) (l++[x]) (xs++ds):=by
 have hds:=A.len hx;refine Z2.push h (Lay.mono hx (fun k hk _=>⟨hk.1,fun e=>hk.2 (by simpa[Value.ownBlock] using e.symm)⟩)) (Qdw w g _ ds) (.inl rfl) ?_;obtain⟨hl,h2⟩:=h.own
 rcases h2 with ⟨h',_⟩|⟨g',cap',cur,h',hb,hg,hnc,hcm,hcs,htake⟩
 ·simp at h'
 ·simp only[Value.slice.injEq,Option.some.injEq,Addr.mk.injEq,and_true,true_and] at h'
  obtain⟨rfl,rfl⟩:=h'
  have hm:(l.length+1)*A.size≤n*A.size:=Nat.mul_le_mul_right _ hq;rw[Nat.add_mul,Nat.one_mul] at hm
  refine⟨by rw[List.length_append,hl,hds,Nat.add_mul,Nat.one_mul],.inr ⟨g,n,ZG cur (l.length*A.size) ds,rfl,hb,QbC ds w cur _ hg (by omega),hq,hcm,?_,?_⟩⟩
  ·rw[← hcs];unfold ZG;simp;omega
  ·unfold ZG;rw[htake,Nat.add_mul,Nat.one_mul]
   rw[show l.length*A.size+A.size=(xs++ds).length by rw[List.length_append,hl,hds],List.toList_toArray,← List.append_assoc]
   exact List.take_left' rfl
end
end Go.Proofs.YtacjnejckfhpoadGreat
namespace Go.Proofs.YtacjnejckfhpoadGreat
open Go.RowKit
set_option linter.unusedSimpArgs false
set_option linter.unusedVariables false
section
variable {P:Program}{Q:Exit→Act→World→Prop}
def ZR (l:List Oper) (S:Nat→Bool):Prop:=∀ (j:Nat) (o:Oper),l[j]?=some o→S j=true→∀ e∈o.after,Region.binds .any e=true→S e.on=true
def Qfn (o:Oper) (S:Nat→Bool):Prop:=∀ e∈o.after,Region.binds .any e=true→S e.on=true
theorem Qfn.at {o:Oper}{S:Nat→Bool}(h:Qfn o S) (j:Nat) (hw:QdH o j=true):S j=true:=by
 obtain⟨e,he,hb,rfl⟩:=Qc5 hw
 exact h e he hb
def QaG (i:Nat) (S:Nat→Bool):Nat→Bool:=fun j=>j==i||S j
def Qde (P:Program) (l:List Oper) (I:(Nat→Bool)→Act→World→Prop):Nat→List Oper→Prop
 | _,[]=>True
 | i,o::r=>(∀ (S:Nat→Bool) (a:Act) (w:World),S i=false→Qfn o S→ZR l S→I S a w→∀ K:Act→World→Prop,(∀ a' w',I (QaG i S) a' w'→K a' w')→o.wp P a w K (fun _ _ _=>False))∧Qde P l I (i+1) r
theorem Qgf {l:List Oper}{I:(Nat→Bool)→Act→World→Prop}:∀ (r:List Oper) (k i:Nat) (o:Oper),Qde P l I k r→r[i]?=some o →
 ∀ (S:Nat→Bool) (a:Act) (w:World),S (k+i)=false→Qfn o S→ZR l S→I S a w→∀ K:Act→World→Prop,(∀ a' w',I (QaG (k+i) S) a' w'→K a' w')→o.wp P a w K (fun _ _ _=>False)
 | [],_,_,_,_,h=>by simp at h
 | x::r,k,0,o,h,ho=>by simp at ho;subst ho;exact h.1
 | x::r,k,i+1,o,h,ho=>by
  simp at ho
  have:=Qgf r (k+1) i o h.2 ho
  rwa [show k+1+i=k+(i+1) by omega] at this
theorem Qhz {l:List Oper}(hb:Qa5 0 l=true) (hg:(l.all fun o=>o.guard.isNone)=true) (I:(Nat→Bool)→Act→World→Prop) (hst:Qde P l I 0 l)
 (hend:∀ S a w,(∀ j,j<l.length→S j=true)→I S a w→Q .normal a w) :
 ∀ (fuel:Nat) (listed:Array Bool) (a:Act) (w:World),listed.size=l.length→(listed.toList.filter (·==false)).length≤fuel→ZR l (fun j=>listed.getD j false)→I (fun j=>listed.getD j false) a w →
  wpAny P .any l.toArray Q fuel listed a w:=by
 have fin:∀ (listed:Array Bool) (a:Act) (w:World),listed.size=l.length→Region.ready .any l.toArray listed=[]→I (fun j=>listed.getD j false) a w→Q .normal a w:=by
  intro listed a w hs hr hI;refine hend _ a w ?_ hI;intro j
  induction j using Nat.strongRecOn with
  | _ j ih =>
   intro hj
   cases hc:listed.getD j false with
   | true=>rfl
   | false =>
    exfalso
    have hj':j<listed.size:=by omega
    have hnt:listed.getD j true=false:=by simp[Array.getD,hj'] at hc ⊢;exact hc
    have:j∈Region.ready .any l.toArray listed:=QB.2 ⟨by simpa using hj,hnt,l[j],by simp[hj],fun e he hbd=>by
     have:=back_at l 0 j l[j] hb (by simp[hj]) e he hbd
     exact ih e.on (by omega) (by omega)⟩
    rw[hr] at this;cases this
 intro fuel
 induction fuel with
 | zero =>
  intro listed a w hs hf hcl hI
  have hr:Region.ready .any l.toArray listed=[]:=by
   rw[List.eq_nil_iff_forall_not_mem]
   intro i hi;obtain⟨h1,h2,_⟩:=QB.1 hi
   have hlt:i<l.length:=by simpa using h1
   have:listed[i]'(by omega)=false:=by
    simp[Array.getD,show i<listed.size by omega] at h2;exact h2
   have hm:false∈listed.toList.filter (·==false):=List.mem_filter.2 ⟨by rw[← this];simp,by simp⟩
   have:=List.length_pos_of_mem hm
   omega
  exact⟨hr,fin listed a w hs hr hI⟩
 | succ fuel ih =>
  intro listed a w hs hf hcl hI;refine⟨fun hr=>fin listed a w hs hr hI,fun i hi=>?_⟩
  obtain⟨h1,h2,o,ho,hdep⟩:=QB.1 hi
  have hlt:i<l.length:=by simpa using h1
  have hil:i<listed.size:=by omega
  have hun':listed[i]=false:=by simp[Array.getD,hil] at h2;exact h2
  have hun:listed.getD i false=false:=by simp[Array.getD,hil,hun']
  have hlen:((listed.setIfInBounds i true).toList.filter (·==false)).length≤fuel:=by
   have h3:=filter_set listed.toList i (by simpa using hil) (by simpa using hun');rw[Array.toList_setIfInBounds]
   omega
  have hfun:(fun j=>(listed.setIfInBounds i true).getD j false)=QaG i (fun j=>listed.getD j false):=by
   funext j
   unfold QaG;by_cases e:j=i
   ·subst e;simp[Array.getD,hil]
   ·have hne:i≠j:=fun x=>e x.symm;rw[Array.getD_eq_getD_getElem?,Array.getElem?_setIfInBounds_ne hne,← Array.getD_eq_getD_getElem?]
    simp[e]
  unfold wpOp;rw[ho]
  simp only
  have hgo:o.guard=none:=by
   have:=List.all_eq_true.1 hg o (List.mem_of_getElem? (by simpa using ho))
   simpa using this
  have hw:Region.wanted o (yielded l.toArray a.tmps)=true:=by unfold Region.wanted;rw[hgo]
  rw[hw,if_pos rfl]
  have hst':=Qgf l 0 i o hst (by simpa using ho) (fun j=>listed.getD j false) a w (by rw[Nat.zero_add];exact hun) hdep hcl hI;rw[Nat.zero_add] at hst'
  refine .inl (wpq (fun a' w' hh=>hh) (hst' _ fun a' w' hI'=>?_));refine ih _ _ _ (by simpa using hs) hlen ?_ (by rw[hfun];exact hI');rw[hfun]
  intro j oj hj hS e he hbd;unfold QaG at hS ⊢;by_cases e':j=i
  ·subst e';have hjo:some oj=some o:=by rw[← hj];simpa using ho
   cases hjo
   have:=hdep e he hbd
   simp[this]
  ·have:(j==i)=false:=by simpa using e'
   rw[this,Bool.false_or] at hS
   have:=hcl j oj hj hS e he hbd
   simp only at this
   simp[this]
theorem Qeg {id:Nat}{l:List Oper}{a:Act}{w:World}(I:(Nat→Bool)→Act→World→Prop) (hm:P.follows .mixedOrders=true) (hB:(Qa5 0 l&&(l.all fun o=>o.guard.isNone))=true) (h0:I (fun _=>false) a w.drew) (hst:Qde P l I 0 l)
 (hend:∀ S a w,(∀ j,j<l.length→S j=true)→I S a w→Q .normal a w):(Code.region id l.toArray true).wp P Q a w:=by
 rw[Bool.and_eq_true] at hB
 have e0:(fun j=>(Array.replicate l.length false).getD j false)=fun _=>false:=by
  funext j
  rw[Array.getD_eq_getD_getElem?,Array.getElem?_replicate]
  split<;>rfl
 have key:=Qhz (Q:=Q) hB.1 hB.2 I hst hend l.length (Array.replicate l.length false) a w.drew (by simp) (Nat.le_trans (List.length_filter_le _ _) (by simp)) (by rw[e0];intro j o _ h;cases h) (by rw[e0];exact h0);refine wp_region_any hm ?_;simpa using key
end
structure DI (n:Nat) (a0:Act) (w00:World) (ds:List Tmp) (Ti:List (Nat × Tmp)) (Ai:List (Nat × Tmp × Nat × TypeId)) (Oi:List (Nat × Tmp × Nat × TypeId)) (M:List (Tmp × Value)) (C:List (Tmp × List Value)) (S:Nat→Bool) (a:Act) (w:World):Prop where
 size:a.tmps.size=n
 defers:a.defers=[]
 outer:∀ t,ds.contains t=false→a.tmps.getD t undef=a0.tmps.getD t undef
 bel:Below w00.heap.size w00 w
 vals:∀ x∈Ti,S x.1=true→∀ v,M.lookup x.2=some v→a.tmps.getD x.2 undef=v
 new:∀ x∈Ai,S x.1=true→∃ B,a.tmps.getD x.2.1 undef=.pointer (some ⟨B,0,none⟩)∧w00.heap.size≤B∧∃ c,Blk w B c x.2.2.2∧c.size=x.2.2.1
 ne:∀ x∈Ai,∀ y∈Ai,x.2.1≠y.2.1→S x.1=true→S y.1=true→a.tmps.getD x.2.1 undef≠a.tmps.getD y.2.1 undef
 did:∀ x∈Oi,S x.1=true→∀ c,C.lookup x.2.1=some c→∃ B,a.tmps.getD x.2.1 undef=.pointer (some ⟨B,0,none⟩)∧Blk w B c.toArray x.2.2.2
def diB (l:List Oper) (n:Nat) (Ti:List (Nat × Tmp)) (Ai Oi:List (Nat × Tmp × Nat × TypeId)):Bool :=
 (nodupB (Ti.map (·.1))&&nodupB (Ai.map (·.1))&&nodupB (Oi.map (·.1)))&&(nodupB (Ti.map (·.2)++Ai.map (·.2.1))&&nodupB (Oi.map (·.2.1))&&((Ti.map (·.2)++Ai.map (·.2.1)).all fun t=>decide (t<n)&&(Qn l).contains t) &&
 (Oi.all fun x=>Ai.any fun y=>y.2.1==x.2.1&&y.2.2.1==x.2.2.1&&y.2.2.2==x.2.2.2&&(match l[x.1]? with | some o=>QdH o y.1 | none=>false)))
theorem Qcp {l1 l2:List Tmp}:∀ {t:Tmp},nodupB (l1++l2)=true→t∈l1→t∈l2→False:=by
 induction l1 with
 | nil=>intro t _ h;cases h
 | cons x r ih =>
  intro t h h1 h2;simp only[List.cons_append,nodupB,Bool.and_eq_true,Bool.not_eq_true'] at h
  rcases List.mem_cons.1 h1 with rfl | h1
  ·have:=h.1
   simp at this
   exact this.2 h2
  ·exact ih h.2 h1 h2
theorem Qae {α:Type}{f:α→Tmp}:∀ {l:List α},nodupB (l.map f)=true→∀ x∈l,∀ y∈l,f x=f y→x=y
 | [],_,_,h,_,_,_=>by cases h
 | z::r,h,x,hx,y,hy,e=>by
  simp only[List.map_cons,nodupB,Bool.and_eq_true,Bool.not_eq_true'] at h
  have hz:∀ u∈r,f u≠f z:=fun u hu e=>by
   have:=h.1
   simp at this
   exact this u hu e
  rcases List.mem_cons.1 hx with h1 | h1
  ·rcases List.mem_cons.1 hy with h2 | h2
   ·rw[h1,h2]
   ·exact absurd e.symm (h1 ▸ hz y h2)
  ·rcases List.mem_cons.1 hy with h2 | h2
   ·exact absurd e (h2 ▸ hz x h1)
   ·exact Qae h.2 x h1 y h2 e
theorem Qfa {l1 l2:List Tmp}(h:nodupB (l1++l2)=true):nodupB l2=true:=by
 induction l1 with
 | nil=>exact h
 | cons x r ih =>
  simp only[List.cons_append,nodupB,Bool.and_eq_true,Bool.not_eq_true'] at h
  exact ih h.2
section
variable {n i:Nat}{a0 a:Act}{w00 w w':World}{l:List Oper}{Ti:List (Nat × Tmp)}{Ai Oi:List (Nat × Tmp × Nat × TypeId)}{M:List (Tmp × Value)}{C:List (Tmp × List Value)}{S:Nat→Bool}{t:Tmp}{v:Value}{s:Nat}{ty:TypeId}
theorem Zg {u:Tmp}(h:t<a.tmps.size):(a.put (some t) v).tmps.getD u undef=if u=t then v else a.tmps.getD u undef:=by
 by_cases e:u=t
 ·subst e;simp[Act.put,Array.getD,h]
 ·rw[if_neg e]
  have hne:t≠u:=fun x=>e x.symm;rw[Array.getD_eq_getD_getElem?,Array.getD_eq_getD_getElem?]
  simp only[Act.put]
  rw[Array.getElem?_setIfInBounds_ne hne]
theorem Q9 {j:Nat}(hne:j≠i) (h:QaG i S j=true):S j=true:=by
 have:(j==i)=false:=by simpa using hne
 unfold QaG at h;rwa [this,Bool.false_or] at h
theorem DI.pure (hB:diB l n Ti Ai Oi=true) (hI:DI n a0 w00 (Qn l) Ti Ai Oi M C S a w) (hi:(i,t)∈Ti) (hv:M.lookup t=some v) (hS:S i=false) (hb:Below w.heap.size w w')
 (hiA:(Ai.all fun x=>x.1!=i)=true) (hiO:(Oi.all fun x=>x.1!=i)=true):DI n a0 w00 (Qn l) Ti Ai Oi M C (QaG i S) (a.put (some t) v) w':=by
 simp only[diB,Bool.and_eq_true] at hB
 obtain⟨hix,⟨⟨hnd,hndO⟩,hall⟩,hO⟩:=hB
 have htT:t∈Ti.map (·.2):=List.mem_map.2 ⟨(i,t),hi,rfl⟩;have h9:=List.all_eq_true.1 hall t (List.mem_append_left _ htT);simp only[Bool.and_eq_true,decide_eq_true_eq] at h9
 have htn:t<a.tmps.size:=by rw[hI.size];exact h9.1
 have hneA:∀ x∈Ai,x.2.1≠t:=fun x hx e=>Qcp hnd htT (e ▸ List.mem_map.2 ⟨x,hx,rfl⟩)
 have hneO:∀ x∈Oi,x.2.1≠t:=fun x hx e=>by
  obtain⟨y,hy,hh⟩:=List.any_eq_true.1 (List.all_eq_true.1 hO x hx)
  simp only[Bool.and_eq_true,beq_iff_eq] at hh
  exact hneA y hy (hh.1.1.1.trans e)
 have hA:∀ x∈Ai,QaG i S x.1=true→S x.1=true:=fun x hx h=>Q9 (by have:=List.all_eq_true.1 hiA x hx;simpa using this) h;have hO':∀ x∈Oi,QaG i S x.1=true→S x.1=true:=fun x hx h=>Q9 (by have:=List.all_eq_true.1 hiO x hx;simpa using this) h;refine⟨by rw[← hI.size];simp[Act.put],hI.defers,fun u hu=>?_,Below.andThen hI.bel hb,fun x hx hs u hu=>?_,fun x hx hs=>?_,fun x hx y hy hxy hs1 hs2=>?_,fun x hx hs c hc=>?_⟩
 ·have:u≠t:=fun e=>by subst e;rw[h9.2] at hu;cases hu
  rw[Zg htn,if_neg this];exact hI.outer u hu
 ·rw[Zg htn]
  by_cases e:x.2=t
  ·rw[if_pos e];rw[e,hv] at hu;exact Option.some.inj hu
  ·rw[if_neg e]
   refine hI.vals x hx (Q9 (fun e2=>e ?_) hs) u hu;exact congrArg (·.2) (Qae (f:=fun x:Nat × Tmp=>x.1) hix.1.1 x hx (i,t) hi e2)
 ·obtain⟨B,h1,h2,c,h3,h4⟩:=hI.new x hx (hA x hx hs)
  exact⟨B,by rw[Zg htn,if_neg (hneA x hx)];exact h1,h2,c,h3.below hb,h4⟩
 ·rw[Zg htn,if_neg (hneA x hx),Zg htn,if_neg (hneA y hy)]
  exact hI.ne x hx y hy hxy (hA x hx hs1) (hA y hy hs2)
 ·obtain⟨B,h1,h2⟩:=hI.did x hx (hO' x hx hs) c hc
  exact⟨B,by rw[Zg htn,if_neg (hneO x hx)];exact h1,h2.below hb⟩
theorem DI.alloc (hB:diB l n Ti Ai Oi=true) (hI:DI n a0 w00 (Qn l) Ti Ai Oi M C S a w) (hi:(i,t,s,ty)∈Ai){c:Array Value}(hc:c.size=s) (hS:S i=false) (hcl:ZR l S)
 (hiT:(Ti.all fun x=>x.1!=i)=true) (hiO:(Oi.all fun x=>x.1!=i)=true):DI n a0 w00 (Qn l) Ti Ai Oi M C (QaG i S) (a.put (some t) (.pointer (some ⟨w.heap.size,0,none⟩))) (w.alloc (.cells c ty)):=by
 simp only[diB,Bool.and_eq_true] at hB
 obtain⟨hix,⟨⟨hnd,hndO⟩,hall⟩,hO⟩:=hB
 have hb:Below w.heap.size w (w.alloc (.cells c ty)):=Q5 w _;have htA:t∈Ai.map (·.2.1):=List.mem_map.2 ⟨(i,t,s,ty),hi,rfl⟩;have h9:=List.all_eq_true.1 hall t (List.mem_append_right _ htA);simp only[Bool.and_eq_true,decide_eq_true_eq] at h9
 have htn:t<a.tmps.size:=by rw[hI.size];exact h9.1
 have hneT:∀ x∈Ti,x.2≠t:=fun x hx e=>Qcp hnd (e ▸ List.mem_map.2 ⟨x,hx,rfl⟩) htA;have one:∀ x∈Ai,x.2.1=t→x=(i,t,s,ty):=fun x hx e=>Qae (f:=fun x:Nat × Tmp × Nat × TypeId=>x.2.1) (Qfa hnd) x hx _ hi e;have old:∀ x∈Ai,x.2.1≠t→QaG i S x.1=true→S x.1=true:=fun x hx hne h=>Q9 (fun e=>hne (congrArg (·.2.1) (Qae (f:=fun x:Nat × Tmp × Nat × TypeId=>x.1) hix.1.2 x hx _ hi e))) h;refine⟨by rw[← hI.size];simp[Act.put],hI.defers,fun u hu=>?_,Below.andThen hI.bel hb,fun x hx hs u hu=>?_,fun x hx hs=>?_,fun x hx y hy hxy hs1 hs2=>?_,fun x hx hs c' hc'=>?_⟩
 ·have:u≠t:=fun e=>by subst e;rw[h9.2] at hu;cases hu
  rw[Zg htn,if_neg this];exact hI.outer u hu
 ·rw[Zg htn,if_neg (hneT x hx)]
  exact hI.vals x hx (Q9 (by have:=List.all_eq_true.1 hiT x hx;simpa using this) hs) u hu
 ·by_cases e:x.2.1=t
  ·rw[one x hx e]
   exact⟨w.heap.size,by rw[Zg htn,if_pos rfl],hI.bel.size,c,Blk.new w c ty,hc⟩
  ·obtain⟨B,h1,h2,c',h3,h4⟩:=hI.new x hx (old x hx e hs)
   exact⟨B,by rw[Zg htn,if_neg e];exact h1,h2,c',h3.below hb,h4⟩
 ·have lt:∀ x∈Ai,x.2.1≠t→QaG i S x.1=true→a.tmps.getD x.2.1 undef≠.pointer (some ⟨w.heap.size,0,none⟩):=fun x hx e hs h=>by
   obtain⟨B,h1,h2,c',h3,h4⟩:=hI.new x hx (old x hx e hs)
   rw[h1] at h
   simp at h
   have:=h3.lt
   omega
  by_cases e1:x.2.1=t
  ·by_cases e2:y.2.1=t
   ·exact absurd (e1.trans e2.symm) hxy
   ·rw[Zg htn,if_pos e1,Zg htn,if_neg e2]
    exact fun h=>lt y hy e2 hs2 h.symm
  ·by_cases e2:y.2.1=t
   ·rw[Zg htn,if_neg e1,Zg htn,if_pos e2]
    exact lt x hx e1 hs1
   ·rw[Zg htn,if_neg e1,Zg htn,if_neg e2]
    exact hI.ne x hx y hy hxy (old x hx e1 hs1) (old y hy e2 hs2)
 ·have hs':S x.1=true:=Q9 (by have:=List.all_eq_true.1 hiO x hx;simpa using this) hs
  have hne:x.2.1≠t:=fun e=>by
   obtain⟨y,hy,hh⟩:=List.any_eq_true.1 (List.all_eq_true.1 hO x hx)
   simp only[Bool.and_eq_true,beq_iff_eq] at hh
   have hyt:=one y hy (hh.1.1.1.trans e)
   cases ho:l[x.1]? with
   | none=>rw[ho] at hh;simp at hh
   | some o =>
    rw[ho] at hh
    have:=Qfn.at (hcl x.1 o ho hs') y.1 hh.2
    rw[hyt] at this
    simp only at this
    rw[hS] at this
    cases this
  obtain⟨B,h1,h2⟩:=hI.did x hx hs' c' hc'
  exact⟨B,by rw[Zg htn,if_neg hne];exact h1,h2.below hb⟩
theorem DI.box (hI:DI n a0 w00 (Qn l) Ti Ai Oi M C S a w) (hi:(i,t,s,ty)∈Ai) (hs:S i=true):∃ B,a.tmps.getD t undef=.pointer (some ⟨B,0,none⟩)∧w00.heap.size≤B∧∃ c,Blk w B c ty∧c.size=s:=hI.new _ hi hs
theorem QjI {w:World}{B:Nat}{c:Array Value}{ty:TypeId}{cs:List Value}(h:Blk w B c ty) (hs:c.size=cs.length):Blk (w.setCells B 0 cs) B cs.toArray ty:=by
 have:=QbC cs w c 0 h (by omega)
 have e:ZG c 0 cs=cs.toArray:=by
  unfold ZG;have h9:c.toList.drop (0+cs.length)=[]:=List.drop_of_length_le (by simp[hs]);rw[h9];simp
 rwa [e] at this
theorem DI.store (hB:diB l n Ti Ai Oi=true) (hI:DI n a0 w00 (Qn l) Ti Ai Oi M C S a w) (hi:(i,t,s,ty)∈Oi){B j:Nat}{c:Array Value}{cs:List Value}(hj:(j,t,s,ty)∈Ai) (hsj:S j=true) (hv:a.tmps.getD t undef=.pointer (some ⟨B,0,none⟩)) (hBk:Blk w B c ty) (hcs:c.size=s) (hlo:w00.heap.size≤B) (hC:C.lookup t=some cs) (hln:cs.length=s) (hS:S i=false) (hcl:ZR l S)
 (hiT:(Ti.all fun x=>x.1!=i)=true) (hiA:(Ai.all fun x=>x.1!=i)=true):DI n a0 w00 (Qn l) Ti Ai Oi M C (QaG i S) a (w.setCells B 0 cs):=by
 simp only[diB,Bool.and_eq_true] at hB
 obtain⟨hix,⟨⟨hnd,hndO⟩,hall⟩,hO⟩:=hB
 have hk:=Qan w B 0 cs;have hnew:=QjI (cs:=cs) hBk (by omega);have hA:∀ x∈Ai,QaG i S x.1=true→S x.1=true:=fun x hx h=>Q9 (by have:=List.all_eq_true.1 hiA x hx;simpa using this) h;refine⟨hI.size,hI.defers,hI.outer,Qam hlo cs w w00 0 hI.bel,fun x hx hs u hu=>?_,fun x hx hs=>?_,fun x hx y hy hxy hs1 hs2=>hI.ne x hx y hy hxy (hA x hx hs1) (hA y hy hs2),fun x hx hs c' hc'=>?_⟩
 ·exact hI.vals x hx (Q9 (by have:=List.all_eq_true.1 hiT x hx;simpa using this) hs) u hu
 ·obtain⟨B',h1,h2,c',h3,h4⟩:=hI.new x hx (hA x hx hs)
  by_cases e:B'=B
  ·subst e
   have:some (Obj.cells c' x.2.2.2 (0,0))=some (Obj.cells c ty (0,0)):=by rw[← h3,← hBk]
   simp at this
   obtain⟨rfl,hty⟩:=this
   exact⟨B',h1,h2,_,by rw[hty];exact hnew,by simp;omega⟩
  ·exact⟨B',h1,h2,c',(hk B' e).trans h3,h4⟩
 ·by_cases e:x.2.1=t
  ·have hx':=Qae (f:=fun x:Nat × Tmp × Nat × TypeId=>x.2.1) hndO x hx _ hi e;subst hx';simp only at hc' ⊢
   rw[hC] at hc'
   cases hc'
   exact⟨B,hv,hnew⟩
  ·have hs':S x.1=true:=Q9 (fun e'=>e (congrArg (·.2.1) (Qae (f:=fun x:Nat × Tmp × Nat × TypeId=>x.1) hix.2 x hx _ hi e'))) hs;obtain⟨B',h1,h2⟩:=hI.did x hx hs' c' hc'
   have hne:B'≠B:=fun e'=>by
    obtain⟨y,hy,hh⟩:=List.any_eq_true.1 (List.all_eq_true.1 hO x hx)
    simp only[Bool.and_eq_true,beq_iff_eq] at hh
    cases ho:l[x.1]? with
    | none=>rw[ho] at hh;simp at hh
    | some o =>
     rw[ho] at hh
     exact hI.ne y hy _ hj (by rw[hh.1.1.1];exact e) (Qfn.at (hcl x.1 o ho hs') y.1 hh.2) hsj (by rw[hh.1.1.1,h1,e'];exact hv.symm)
   exact⟨B',h1,(hk B' hne).trans h2⟩
theorem Qkt {Q:Exit→Act→World→Prop}{K:Act→World→Prop}{B:Nat}{c:Array Value}{bt ty2 ty3:TypeId}{cells:List Value}{x y:Tmp}{pos:String}{aft:Array Edge}(hB:Blk w B c bt)
 (hx:a.tmps.getD x undef=.pointer (some ⟨B,0,none⟩)) (hy:a.tmps.getD y undef=.agg cells.toArray) (hi:(Tryz.prog.info? ty2).map (·.size)=some cells.length) (h1:cells.all (·.oneCell')=true) (hs:cells.length=c.size)
 (hK:K a (w.setCells B 0 cells)):Oper.wp Tryz.prog ⟨none,.store ty2 (.tmp x) (.tmp y),ty3,pos,aft,none⟩ a w K Q:=by
 have e:a.eval (.tmp x)=.pointer (some ⟨B,0,none⟩):=hx;have e2:a.eval (.tmp y)=.agg cells.toArray:=hy
 have:=run_storeAt_mid (P:=Tryz.prog) w B 0 ty2 cells.toArray (by simpa using QcE hB 0 cells.length (by omega)) (by simpa using hi) (by simpa using h1)
 unfold Oper.wp execOp;simp only[e,e2,Sem.run_bind,this,Result.andThen_ok,Sem.run_pure]
 rw[Oper.upon_skip];simpa[Act.put] using hK
end
theorem Qb2 (b:Nat):∀ (vs:List Value) (w:World) (j:Nat),(w.setCells b j vs).heap.size=w.heap.size
 | [],w,j=>rfl
 | v::vs,w,j=>(Qb2 b vs _ _).trans (by simp)
abbrev Qku (Z:Type):=List (Nat × (Z→World→(Nat→Prop)→Prop))
def Qct {Z:Type}(D:Qku Z):Prop:=∀ x∈D,∀ z w w' O,(∀ k,O k→k<w.heap.size→w'.heap[k]?=w.heap[k]?)→x.2 z w O→x.2 z w' O
def Qi2 (w00:World) (Ai:List (Nat × Tmp × Nat × TypeId)) (S:Nat→Bool) (a:Act) (w:World) (O:Nat→Prop):Prop :=
 (∀ k,O k→w00.heap.size≤k∧k<w.heap.size)∧∀ y∈Ai,S y.1=true→∀ B,a.tmps.getD y.2.1 undef=.pointer (some ⟨B,0,none⟩)→¬ O B
def DMz (n:Nat) (a0:Act) (w00:World) (ds:List Tmp) (Ti:List (Nat × Tmp)) (Ai Oi:List (Nat × Tmp × Nat × TypeId)){Z:Type}(M:Z→List (Tmp × Value)) (C:Z→List (Tmp × List Value)) (D:Qku Z) (z:Z) (S:Nat→Bool) (a:Act) (w:World):Prop :=
 DI n a0 w00 ds Ti Ai Oi (M z) (C z) S a w∧∀ x∈D,S x.1=true→∃ O,x.2 z w O∧Qi2 w00 Ai S a w O
def DM (n:Nat) (a0:Act) (w00:World) (ds:List Tmp) (Ti:List (Nat × Tmp)) (Ai Oi:List (Nat × Tmp × Nat × TypeId)){Z:Type}(M:Z→List (Tmp × Value)) (C:Z→List (Tmp × List Value)) (D:Qku Z) (S:Nat→Bool) (a:Act) (w:World):Prop :=
 ∃ z,DMz n a0 w00 ds Ti Ai Oi M C D z S a w
section
variable {n i:Nat}{a0 a:Act}{w00 w w':World}{l:List Oper}{Ti:List (Nat × Tmp)}{Ai Oi:List (Nat × Tmp × Nat × TypeId)}{Z:Type}{M:Z→List (Tmp × Value)}{C:Z→List (Tmp × List Value)}{D:Qku Z}{z z':Z}{S:Nat→Bool}{t:Tmp}{v:Value}{s:Nat}{ty:TypeId}
theorem Qj3 (h:((D.map (·.1)).all fun j=>j!=i)=true):∀ x∈D,x.1≠i:=fun x hx=>by
 have:=List.all_eq_true.1 h x.1 (List.mem_map.2 ⟨x,hx,rfl⟩)
 simpa using this
theorem Qca (hB:diB l n Ti Ai Oi=true) (hi:(i,t)∈Ti):∀ x∈Ai,x.2.1≠t:=by
 simp only[diB,Bool.and_eq_true] at hB
 obtain⟨hix,⟨⟨hnd,hndO⟩,hall⟩,hO⟩:=hB
 exact fun x hx e=>Qcp hnd (List.mem_map.2 ⟨(i,t),hi,rfl⟩) (e ▸ List.mem_map.2 ⟨x,hx,rfl⟩)
theorem Qd2 (hB:diB l n Ti Ai Oi=true) (ht:t∈Ti.map (·.2)++Ai.map (·.2.1)):t<n:=by
 simp only[diB,Bool.and_eq_true] at hB
 have h9:=List.all_eq_true.1 hB.2.1.2 t ht;simp only[Bool.and_eq_true,decide_eq_true_eq] at h9
 exact h9.1
theorem Qi2.pure {O:Nat→Prop}(hne:∀ x∈Ai,x.2.1≠t) (htn:t<a.tmps.size) (hiA:(Ai.all fun x=>x.1!=i)=true) (hb:w.heap.size≤w'.heap.size) (h:Qi2 w00 Ai S a w O):Qi2 w00 Ai (QaG i S) (a.put (some t) v) w' O :=
 ⟨fun k hk=>⟨(h.1 k hk).1,Nat.lt_of_lt_of_le (h.1 k hk).2 hb⟩,fun y hy hs B hB=>by
  rw[Zg htn,if_neg (hne y hy)] at hB
  exact h.2 y hy (Q9 (by have:=List.all_eq_true.1 hiA y hy;simpa using this) hs) B hB⟩
theorem DMz.pure (hst:Qct D) (hB:diB l n Ti Ai Oi=true) (hI:DMz n a0 w00 (Qn l) Ti Ai Oi M C D z S a w) (hi:(i,t)∈Ti) (hv:(M z).lookup t=some v) (hS:S i=false) (hb:Below w.heap.size w w')
 (hiA:(Ai.all fun x=>x.1!=i)=true) (hiO:(Oi.all fun x=>x.1!=i)=true) (hiD':((D.map (·.1)).all fun j=>j!=i)=true):DM n a0 w00 (Qn l) Ti Ai Oi M C D (QaG i S) (a.put (some t) v) w':=by
 have hiD:=Qj3 hiD';refine⟨z,DI.pure hB hI.1 hi hv hS hb hiA hiO,fun x hx hs=>?_⟩
 obtain⟨O,h1,h2⟩:=hI.2 x hx (Q9 (hiD x hx) hs)
 exact⟨O,hst x hx z w w' O (fun k _ hk=>hb.block k hk) h1,h2.pure (Qca hB hi) (by rw[hI.1.size];exact Qd2 hB (List.mem_append_left _ (List.mem_map.2 ⟨(i,t),hi,rfl⟩))) hiA hb.size⟩
theorem DMz.alloc (hst:Qct D) (hB:diB l n Ti Ai Oi=true) (hI:DMz n a0 w00 (Qn l) Ti Ai Oi M C D z S a w) (hi:(i,t,s,ty)∈Ai){c:Array Value}(hc:c.size=s) (hS:S i=false) (hcl:ZR l S)
 (hiT:(Ti.all fun x=>x.1!=i)=true) (hiO:(Oi.all fun x=>x.1!=i)=true) (hiD':((D.map (·.1)).all fun j=>j!=i)=true):DM n a0 w00 (Qn l) Ti Ai Oi M C D (QaG i S) (a.put (some t) (.pointer (some ⟨w.heap.size,0,none⟩))) (w.alloc (.cells c ty)):=by
 have hb:Below w.heap.size w (w.alloc (.cells c ty)):=Q5 w _;have hiD:=Qj3 hiD';refine⟨z,DI.alloc hB hI.1 hi hc hS hcl hiT hiO,fun x hx hs=>?_⟩
 obtain⟨O,h1,h2⟩:=hI.2 x hx (Q9 (hiD x hx) hs)
 have htn:t<a.tmps.size:=by rw[hI.1.size];exact Qd2 hB (List.mem_append_right _ (List.mem_map.2 ⟨(i,t,s,ty),hi,rfl⟩))
 refine⟨O,hst x hx z w _ O (fun k _ hk=>hb.block k hk) h1,fun k hk=>⟨(h2.1 k hk).1,Nat.lt_of_lt_of_le (h2.1 k hk).2 hb.size⟩,fun y hy hs' B hB' hO=>?_⟩
 rw[Zg htn] at hB'
 by_cases e:y.2.1=t
 ·rw[if_pos e] at hB'
  simp at hB'
  subst hB'
  have:=(h2.1 _ hO).2
  omega
 ·rw[if_neg e] at hB'
  refine h2.2 y hy (Q9 (fun e'=>e ?_) hs') B hB' hO;simp only[diB,Bool.and_eq_true] at hB
  exact congrArg (·.2.1) (Qae (f:=fun x:Nat × Tmp × Nat × TypeId=>x.1) hB.1.1.2 y hy _ hi e')
theorem DMz.store (hst:Qct D) (hB:diB l n Ti Ai Oi=true) (hI:DMz n a0 w00 (Qn l) Ti Ai Oi M C D z S a w) (hi:(i,t,s,ty)∈Oi){B j:Nat}{c:Array Value}{cs:List Value}(hj:(j,t,s,ty)∈Ai) (hsj:S j=true) (hv:a.tmps.getD t undef=.pointer (some ⟨B,0,none⟩)) (hBk:Blk w B c ty) (hcs:c.size=s) (hlo:w00.heap.size≤B) (hC:(C z).lookup t=some cs) (hln:cs.length=s) (hS:S i=false) (hcl:ZR l S)
 (hiT:(Ti.all fun x=>x.1!=i)=true) (hiA:(Ai.all fun x=>x.1!=i)=true) (hiD':((D.map (·.1)).all fun j=>j!=i)=true):DM n a0 w00 (Qn l) Ti Ai Oi M C D (QaG i S) a (w.setCells B 0 cs):=by
 have hiD:=Qj3 hiD';refine⟨z,DI.store hB hI.1 hi hj hsj hv hBk hcs hlo hC hln hS hcl hiT hiA,fun x hx hs=>?_⟩
 obtain⟨O,h1,h2⟩:=hI.2 x hx (Q9 (hiD x hx) hs)
 have hk:=Qan w B 0 cs;have hsz:(w.setCells B 0 cs).heap.size=w.heap.size:=Qb2 B cs w 0;refine⟨O,hst x hx z w _ O (fun k hk' _=>hk k fun e=>?_) h1,fun k hk'=>by rw[hsz];exact h2.1 k hk',fun y hy hs' B' hB' hO=>?_⟩
 ·subst e;exact h2.2 _ hj hsj k hv hk'
 ·exact h2.2 y hy (Q9 (by have:=List.all_eq_true.1 hiA y hy;simpa using this) hs') B' hB' hO
theorem DMz.call (hst:Qct D) (hB:diB l n Ti Ai Oi=true) (hI:DMz n a0 w00 (Qn l) Ti Ai Oi M C D z S a w) (hi:(i,t)∈Ti) (hv:(M z').lookup t=some v) (hS:S i=false) (hcl:ZR l S) (hb:Below w.heap.size w w')
 (hiA:(Ai.all fun x=>x.1!=i)=true) (hiO:(Oi.all fun x=>x.1!=i)=true)
 (dp:List Nat) (hdp:(dp.all fun j=>match l[j]? with | some o=>QdH o i | none=>false)=true)
 (hM:∀ x∈Ti,x.1∈dp∨x.1=i∨(M z).lookup x.2=(M z').lookup x.2) (hC:∀ x∈Oi,x.1∈dp∨(C z).lookup x.2.1=(C z').lookup x.2.1)
 (hD:∀ x∈D,(x.1=i∧∃ O,x.2 z' w' O∧∀ k,O k→w.heap.size≤k∧k<w'.heap.size)∨(x.1≠i∧∀ w O,x.2 z w O→x.2 z' w O)):DM n a0 w00 (Qn l) Ti Ai Oi M C D (QaG i S) (a.put (some t) v) w':=by
 have hno:∀ j∈dp,S j=true→False:=fun j hj hs=>by
  have:=List.all_eq_true.1 hdp j hj
  cases ho:l[j]? with
  | none=>rw[ho] at this;simp at this
  | some o =>
   rw[ho] at this
   have:=Qfn.at (hcl j o ho hs) i this
   rw[hS] at this
   cases this
 have hI':DI n a0 w00 (Qn l) Ti Ai Oi (M z') (C z') S a w:=by
  refine⟨hI.1.size,hI.1.defers,hI.1.outer,hI.1.bel,fun x hx hs u hu=>?_,hI.1.new,hI.1.ne,fun x hx hs c hc=>?_⟩
  ·rcases hM x hx with h | h | h
   ·exact(hno _ h hs).elim
   ·rw[h,hS] at hs;cases hs
   ·exact hI.1.vals x hx hs u (h.trans hu)
  ·rcases hC x hx with h | h
   ·exact(hno _ h hs).elim
   ·exact hI.1.did x hx hs c (h.trans hc)
 have htn:t<a.tmps.size:=by rw[hI.1.size];exact Qd2 hB (List.mem_append_left _ (List.mem_map.2 ⟨(i,t),hi,rfl⟩))
 refine⟨z',DI.pure hB hI' hi hv hS hb hiA hiO,fun x hx hs=>?_⟩
 rcases hD x hx with ⟨_,O,h1,h2⟩|⟨hne,h1⟩
 ·refine⟨O,h1,fun k hk=>⟨Nat.le_trans hI.1.bel.size (h2 k hk).1,(h2 k hk).2⟩,fun y hy hs' B hB' hO=>?_⟩
  rw[Zg htn,if_neg (Qca hB hi y hy)] at hB'
  have hs2:S y.1=true:=Q9 (by have:=List.all_eq_true.1 hiA y hy;simpa using this) hs';obtain⟨B',h3,h4,c,h5,h6⟩:=hI.1.new y hy hs2
  rw[h3] at hB'
  simp at hB'
  subst hB'
  have:=h5.lt
  have:=(h2 _ hO).1
  omega
 ·obtain⟨O,h3,h4⟩:=hI.2 x hx (Q9 hne hs)
  exact⟨O,hst x hx z' w w' O (fun k _ hk=>hb.block k hk) (h1 w O h3),h4.pure (Qca hB hi) htn hiA hb.size⟩
end
end Go.Proofs.YtacjnejckfhpoadGreat
namespace Go.Proofs.YtacjnejckfhpoadGreat
open Go.ChangeShapes Go.WideShapes Go.ChangeAt Go.RowKit
set_option linter.unusedSimpArgs false
set_option linter.unusedVariables false
section
variable {n i:Nat}{a0 a:Act}{w00 w w':World}{l:List Oper}{Ti:List (Nat × Tmp)}{Ai Oi:List (Nat × Tmp × Nat × TypeId)}{Z:Type}{M:Z→List (Tmp × Value)}{C:Z→List (Tmp × List Value)}{D:Qku Z}{z z':Z}{S:Nat→Bool}{t:Tmp}{v:Value}{s:Nat}{ty:TypeId}
theorem DMz.call2 (hst:Qct D) (hB:diB l n Ti Ai Oi=true) (hI:DMz n a0 w00 (Qn l) Ti Ai Oi M C D z S a w) (hi:(i,t)∈Ti) (hv:(M z').lookup t=some v) (hS:S i=false) (hcl:ZR l S) (hb:Below w.heap.size w w')
 (hiA:(Ai.all fun x=>x.1!=i)=true) (hiO:(Oi.all fun x=>x.1!=i)=true)
 (dp:List Nat) (hno:∀ j∈dp,S j=true→False)
 (hM:∀ x∈Ti,x.1∈dp∨x.1=i∨(M z).lookup x.2=(M z').lookup x.2) (hC:∀ x∈Oi,x.1∈dp∨(C z).lookup x.2.1=(C z').lookup x.2.1)
 (hD:∀ x∈D,(x.1=i∧∃ O,x.2 z' w' O∧∀ k,O k→w.heap.size≤k∧k<w'.heap.size)∨(x.1≠i∧∀ w O,x.2 z w O→x.2 z' w O)):DM n a0 w00 (Qn l) Ti Ai Oi M C D (QaG i S) (a.put (some t) v) w':=by
 have hI':DI n a0 w00 (Qn l) Ti Ai Oi (M z') (C z') S a w:=by
  refine⟨hI.1.size,hI.1.defers,hI.1.outer,hI.1.bel,fun x hx hs u hu=>?_,hI.1.new,hI.1.ne,fun x hx hs c hc=>?_⟩
  ·rcases hM x hx with h | h | h
   ·exact(hno _ h hs).elim
   ·rw[h,hS] at hs;cases hs
   ·exact hI.1.vals x hx hs u (h.trans hu)
  ·rcases hC x hx with h | h
   ·exact(hno _ h hs).elim
   ·exact hI.1.did x hx hs c (h.trans hc)
 have htn:t<a.tmps.size:=by rw[hI.1.size];exact Qd2 hB (List.mem_append_left _ (List.mem_map.2 ⟨(i,t),hi,rfl⟩))
 refine⟨z',DI.pure hB hI' hi hv hS hb hiA hiO,fun x hx hs=>?_⟩
 rcases hD x hx with ⟨_,O,h1,h2⟩|⟨hne,h1⟩
 ·refine⟨O,h1,fun k hk=>⟨Nat.le_trans hI.1.bel.size (h2 k hk).1,(h2 k hk).2⟩,fun y hy hs' B hB' hO=>?_⟩
  rw[Zg htn,if_neg (Qca hB hi y hy)] at hB'
  have hs2:S y.1=true:=Q9 (by have:=List.all_eq_true.1 hiA y hy;simpa using this) hs';obtain⟨B',h3,h4,c,h5,h6⟩:=hI.1.new y hy hs2
  rw[h3] at hB'
  simp at hB'
  subst hB'
  have:=h5.lt
  have:=(h2 _ hO).1
  omega
 ·obtain⟨O,h3,h4⟩:=hI.2 x hx (Q9 hne hs)
  exact⟨O,hst x hx z' w w' O (fun k _ hk=>hb.block k hk) (h1 w O h3),h4.pure (Qca hB hi) htn hiA hb.size⟩
end
theorem Qf4 {a a0:Act}{ds:List Tmp}(hs:a.tmps.size=a0.tmps.size) (hd:a.defers=a0.defers) (ho:∀ t,ds.contains t=false→a.tmps.getD t undef=a0.tmps.getD t undef):a=Ze a0 (fun t=>a.tmps.getD t undef) ds:=by
 have e1:a.tmps=(Ze a0 (fun t=>a.tmps.getD t undef) ds).tmps:=by
  refine Array.ext (by rw[Qaq,hs]) fun t h1 h2=>?_;have h3:t<a0.tmps.size:=by rw[← hs];exact h1
  have:=QbE (fun t=>a.tmps.getD t undef) ds a0 t h3
  rw[Array.getElem?_eq_getElem h2] at this
  by_cases hm:t∈ds
  ·rw[if_pos hm] at this
   simp only[Option.some.injEq] at this
   rw[this];simp[Array.getD,h1]
  ·rw[if_neg hm] at this
   have ho':=ho t (by simpa using hm);simp only[Array.getD,h1,h3,dite_true] at ho'
   rw[Array.getElem?_eq_getElem h3] at this
   simp only[Option.some.injEq] at this
   rw[this];exact ho'
 have e2:a.defers=(Ze a0 (fun t=>a.tmps.getD t undef) ds).defers:=by rw[Qag,hd]
 cases a with
 | mk t d =>
  simp only at e1 e2
  generalize hp:Ze a0 (fun x=>t.getD x undef) ds=p at e1 e2 ⊢
  cases p;simp only at e1 e2;rw[e1,e2]
theorem Qlp {P:Program}{Q:Exit→Act→World→Prop}{id n:Nat}{l:List Oper}{a:Act}{w:World}{Z:Type}(Ti:List (Nat × Tmp)) (Ai Oi:List (Nat × Tmp × Nat × TypeId)) (M:Z→List (Tmp × Value)) (C:Z→List (Tmp × List Value)) (D:Qku Z) (z0:Z)
 (hm:P.follows .mixedOrders=true) (hn:a.tmps.size=n) (hdf:a.defers=[]) (hB:((Qa5 0 l&&(l.all fun o=>o.guard.isNone))&&diB l n Ti Ai Oi)=true)
 (hst:diB l n Ti Ai Oi=true→Qde P l (DM n a w (Qn l) Ti Ai Oi M C D) 0 l)
 (hend:∀ z S a' w',(∀ j,j<l.length→S j=true)→DMz n a w (Qn l) Ti Ai Oi M C D z S a' w'→Q .normal a' w'):(Code.region id l.toArray true).wp P Q a w:=by
 rw[Bool.and_eq_true] at hB
 refine Qeg (DM n a w (Qn l) Ti Ai Oi M C D) hm hB.1 ?_ (hst hB.2) (fun S a' w' hS ⟨z,hI⟩=>hend z S a' w' hS hI);exact⟨z0,⟨hn,hdf,fun _ _=>rfl,Qi (Below.refl _ _) 1,fun _ _ h=>(by cases h),fun _ _ h=>(by cases h),fun _ _ _ _ _ h=>(by cases h),fun _ _ h=>(by cases h)⟩,fun _ _ h=>by cases h⟩
theorem infTy:(Tryz.prog.info? 79).map (·.size)=some 3:=by kernel_rfl
theorem Qma {w2:World}{X FB gR oR nR cR k kn xc tc:Nat}{y u:TT 6}{ta xg:Option Addr}{nm:Nat→Int}{Q:Nat→Prop}(r2:w2.cell? ⟨FB,2,none⟩=some (.slice (some ⟨gR,oR,none⟩) nR cR)) (t0:w2.cell? ⟨gR,oR+k*3,none⟩=some (.int .i64 y.kind)) (t1:w2.cell? ⟨gR,oR+k*3+1,none⟩=some (.int .i64 y.r)) (t2:w2.cell? ⟨gR,oR+k*3+2,none⟩=some (.slice ta y.len tc)) (x6:w2.cell? ⟨X,6,none⟩=some (.slice xg kn xc)) (hkn:(k:Int)<nR) (HT:Hid (TIn w2 Q y ta)) (HCNT:Hid (y.count≤2000)) (HRN:Hid (Qhe w2 xg kn nm)) (HREN:Hid (y.ren kn nm=some u))
 (a:Act) (hn:a.tmps.size=365) (hdf:a.defers=[]) (h3:a.tmps.getD 3 undef=.pointer (some ⟨X,0,none⟩)) (h14:a.tmps.getD 14 undef=.pointer (some ⟨FB,0,none⟩)) (h18:a.tmps.getD 18 undef=.int .i64 (k:Int)) :
 Code.wp Tryz.prog ((Tryz.f73.body.bind (Ql 76)).getD .skip) (fun e a' w'=>e=.normal∧∃ vs,a'=Ze a vs [350,351,352,353,354,355,356,357,349,358,359,19,20]∧∃ ua uc B,vs 19=.pointer (some ⟨B,0,none⟩)∧vs 20=.bool true∧Blk w' B #[.int .i64 u.kind,.int .i64 u.r,.slice ua u.len uc] 79∧TIn w' (fun g=>w2.heap.size≤g) u ua∧Below w2.heap.size w2 w') a w2:=by
 conv=>arg 2;whnf
 have hDS:Qct (Z:=Option Addr × Nat) [(7,fun z w O=>TIn w O u z.1)]:=by
  intro x hx;simp only[List.mem_cons,List.not_mem_nil,or_false] at hx
  rcases hx with rfl
  intro z w w9 O hk h;exact h.keep hk (fun _ h _=>h)
 refine Qlp (Z:=Option Addr × Nat) [(0,350),(1,351),(2,352),(3,353),(4,354),(5,355),(6,356),(7,357),(8,349),(9,358),(10,359),(13,20)] [(11,19,3,79)] [(12,19,3,79)] (fun z=>[(350,.pointer (some ⟨FB,2,none⟩)),(351,.slice (some ⟨gR,oR,none⟩) nR cR),(352,.int .i64 (k:Int)),(353,.pointer (some ⟨gR,oR+k*3,none⟩)),(354,.agg #[.int .i64 y.kind,.int .i64 y.r,.slice ta y.len tc]),(355,.pointer (some ⟨X,6,none⟩)),(356,.slice xg kn xc),(357,.tuple #[.agg #[.int .i64 u.kind,.int .i64 u.r,.slice z.1 u.len z.2],.bool true]),(349,.tuple #[.agg #[.int .i64 u.kind,.int .i64 u.r,.slice z.1 u.len z.2],.bool true]),(358,.agg #[.int .i64 u.kind,.int .i64 u.r,.slice z.1 u.len z.2]),(359,.bool true),(20,.bool true)]) (fun z=>[(19,[.int .i64 u.kind,.int .i64 u.r,.slice z.1 u.len z.2])]) [(7,fun z w O=>TIn w O u z.1)] (none,0) (by kernel_rfl) hn hdf (by kernel_rfl) (fun hDB=>?hst) ?hend
 case hend =>
  rintro ⟨ua,uc⟩ S a' w' hS hI;have hS':∀ j,j<14→S j=true:=hS;obtain⟨B,hB,hBk⟩:=hI.1.did (12,19,3,79) (by decide) (hS' 12 (by decide)) _ rfl
  obtain⟨O,h7,hA⟩:=hI.2 (7,fun z w O=>TIn w O u z.1) (by simp) (hS' 7 (by decide))
  refine⟨rfl,_,Qf4 (by rw[hI.1.size,hn]) (by rw[hI.1.defers,hdf]) hI.1.outer,ua,uc,B,hB,hI.1.vals (13,20) (by decide) (hS' 13 (by decide)) _ rfl,hBk,h7.mono (fun k hk _=>(hA.1 k hk).1),hI.1.bel⟩
 case hst =>
  refine⟨fun S a1 w1 hS hd hcl hI0 K hK=>?_,?_⟩
  ·obtain⟨⟨ua,uc⟩,hI⟩:=hI0
   have k0:a1.tmps.getD 14 undef=.pointer (some ⟨FB,0,none⟩):=(hI.1.outer 14 (by kernel_rfl)).trans h14;go_simp;exact hK _ _ (DMz.pure hDS hDB hI (i:=0) (t:=350) (by decide) rfl hS (Below.refl _ _) (by kernel_rfl) (by kernel_rfl) rfl)
  refine⟨fun S a1 w1 hS hd hcl hI0 K hK=>?_,?_⟩
  ·obtain⟨⟨ua,uc⟩,hI⟩:=hI0
   have k0:a1.tmps.getD 350 undef=.pointer (some ⟨FB,2,none⟩):=hI.1.vals (0,350) (by decide) (hd.at 0 (by kernel_rfl)) _ rfl;have c0:=Qk r2 hI.1.bel;go_simp;exact hK _ _ (DMz.pure hDS hDB hI (i:=1) (t:=351) (by decide) rfl hS (Below.refl _ _) (by kernel_rfl) (by kernel_rfl) rfl)
  refine⟨fun S a1 w1 hS hd hcl hI0 K hK=>?_,?_⟩
  ·obtain⟨⟨ua,uc⟩,hI⟩:=hI0
   have k0:a1.tmps.getD 18 undef=.int .i64 (k:Int):=(hI.1.outer 18 (by kernel_rfl)).trans h18;go_simp;exact hK _ _ (DMz.pure hDS hDB hI (i:=2) (t:=352) (by decide) rfl hS (Below.refl _ _) (by kernel_rfl) (by kernel_rfl) rfl)
  refine⟨fun S a1 w1 hS hd hcl hI0 K hK=>?_,?_⟩
  ·obtain⟨⟨ua,uc⟩,hI⟩:=hI0
   have k0:a1.tmps.getD 351 undef=.slice (some ⟨gR,oR,none⟩) nR cR:=hI.1.vals (1,351) (by decide) (hd.at 1 (by kernel_rfl)) _ rfl;have k1:a1.tmps.getD 352 undef=.int .i64 (k:Int):=hI.1.vals (2,352) (by decide) (hd.at 2 (by kernel_rfl)) _ rfl;go_simp;exact hK _ _ (DMz.pure hDS hDB hI (i:=3) (t:=353) (by decide) rfl hS (Below.refl _ _) (by kernel_rfl) (by kernel_rfl) rfl)
  refine⟨fun S a1 w1 hS hd hcl hI0 K hK=>?_,?_⟩
  ·obtain⟨⟨ua,uc⟩,hI⟩:=hI0
   have k0:a1.tmps.getD 353 undef=.pointer (some ⟨gR,oR+k*3,none⟩):=hI.1.vals (3,353) (by decide) (hd.at 3 (by kernel_rfl)) _ rfl;have c0:=Qk t0 hI.1.bel;have c1:=Qk t1 hI.1.bel;have c2:=Qk t2 hI.1.bel;go_simp;exact hK _ _ (DMz.pure hDS hDB hI (i:=4) (t:=354) (by decide) rfl hS (Below.refl _ _) (by kernel_rfl) (by kernel_rfl) rfl)
  refine⟨fun S a1 w1 hS hd hcl hI0 K hK=>?_,?_⟩
  ·obtain⟨⟨ua,uc⟩,hI⟩:=hI0
   have k0:a1.tmps.getD 3 undef=.pointer (some ⟨X,0,none⟩):=(hI.1.outer 3 (by kernel_rfl)).trans h3;go_simp;exact hK _ _ (DMz.pure hDS hDB hI (i:=5) (t:=355) (by decide) rfl hS (Below.refl _ _) (by kernel_rfl) (by kernel_rfl) rfl)
  refine⟨fun S a1 w1 hS hd hcl hI0 K hK=>?_,?_⟩
  ·obtain⟨⟨ua,uc⟩,hI⟩:=hI0
   have k0:a1.tmps.getD 355 undef=.pointer (some ⟨X,6,none⟩):=hI.1.vals (5,355) (by decide) (hd.at 5 (by kernel_rfl)) _ rfl;have c0:=Qk x6 hI.1.bel;go_simp;exact hK _ _ (DMz.pure hDS hDB hI (i:=6) (t:=356) (by decide) rfl hS (Below.refl _ _) (by kernel_rfl) (by kernel_rfl) rfl)
  refine⟨fun S a1 w1 hS hd hcl hI0 K hK=>?_,?_⟩
  ·obtain⟨⟨ua,uc⟩,hI⟩:=hI0
   have k0:a1.tmps.getD 354 undef=.agg #[.int .i64 y.kind,.int .i64 y.r,.slice ta y.len tc]:=hI.1.vals (4,354) (by decide) (hd.at 4 (by kernel_rfl)) _ rfl;have k1:a1.tmps.getD 356 undef=.slice xg kn xc:=hI.1.vals (6,356) (by decide) (hd.at 6 (by kernel_rfl)) _ rfl;go_simp;refine(renamedT_any 6 y ta tc xg kn xc nm w1 (HT.out.below hI.1.bel).all HCNT.out (HRN.out.below hI.1.bel)).mono ?_
   rw[HREN.out]
   rintro e w9 ⟨uan,ucn,rfl,h9,hb⟩;refine hK _ _ (DMz.call2 hDS hDB hI (z':=(uan,ucn)) (i:=7) (t:=357) (by decide) rfl hS hcl hb (by kernel_rfl) (by kernel_rfl) [8,9,12,13] ?_ ?_ ?_ ?_)
   ·have n8:S 8=true→False:=fun hs=>by have:=Qfn.at (hcl 8 _ rfl hs) 7 (by kernel_rfl);rw[hS] at this;cases this
    intro j hj hs;simp only[List.mem_cons,List.not_mem_nil,or_false] at hj;rcases hj with rfl | rfl | rfl | rfl
    ·exact n8 hs
    ·exact n8 (Qfn.at (hcl 9 _ rfl hs) 8 (by kernel_rfl))
    ·exact n8 (Qfn.at (hcl 12 _ rfl hs) 8 (by kernel_rfl))
    ·exact n8 (Qfn.at (hcl 13 _ rfl hs) 8 (by kernel_rfl))
   ·intro x hx;simp only[List.mem_cons,List.not_mem_nil,or_false] at hx;rcases hx with rfl | rfl | rfl | rfl | rfl | rfl | rfl | rfl | rfl | rfl | rfl | rfl
    all_goals first | exact .inr (.inr rfl) | exact .inl (by decide) | exact .inr (.inl rfl)
   ·intro x hx;simp only[List.mem_cons,List.not_mem_nil,or_false] at hx;rcases hx with rfl
    all_goals exact .inl (by decide)
   ·intro x hx;simp only[List.mem_cons,List.not_mem_nil,or_false] at hx;rcases hx with rfl
    exact .inl ⟨rfl,fun k=>w1.heap.size≤k∧k<w9.heap.size,h9.mono (fun k hk hl=>⟨hk,hl⟩),fun k hk=>hk⟩
  refine⟨fun S a1 w1 hS hd hcl hI0 K hK=>?_,?_⟩
  ·obtain⟨⟨ua,uc⟩,hI⟩:=hI0
   have k0:a1.tmps.getD 357 undef=.tuple #[.agg #[.int .i64 u.kind,.int .i64 u.r,.slice ua u.len uc],.bool true]:=hI.1.vals (7,357) (by decide) (hd.at 7 (by kernel_rfl)) _ rfl;go_simp;exact hK _ _ (DMz.pure hDS hDB hI (i:=8) (t:=349) (by decide) rfl hS (Below.refl _ _) (by kernel_rfl) (by kernel_rfl) rfl)
  refine⟨fun S a1 w1 hS hd hcl hI0 K hK=>?_,?_⟩
  ·obtain⟨⟨ua,uc⟩,hI⟩:=hI0
   have k0:a1.tmps.getD 349 undef=.tuple #[.agg #[.int .i64 u.kind,.int .i64 u.r,.slice ua u.len uc],.bool true]:=hI.1.vals (8,349) (by decide) (hd.at 8 (by kernel_rfl)) _ rfl;go_simp;exact hK _ _ (DMz.pure hDS hDB hI (i:=9) (t:=358) (by decide) rfl hS (Below.refl _ _) (by kernel_rfl) (by kernel_rfl) rfl)
  refine⟨fun S a1 w1 hS hd hcl hI0 K hK=>?_,?_⟩
  ·obtain⟨⟨ua,uc⟩,hI⟩:=hI0
   have k0:a1.tmps.getD 349 undef=.tuple #[.agg #[.int .i64 u.kind,.int .i64 u.r,.slice ua u.len uc],.bool true]:=hI.1.vals (8,349) (by decide) (hd.at 8 (by kernel_rfl)) _ rfl;go_simp;exact hK _ _ (DMz.pure hDS hDB hI (i:=10) (t:=359) (by decide) rfl hS (Below.refl _ _) (by kernel_rfl) (by kernel_rfl) rfl)
  refine⟨fun S a1 w1 hS hd hcl hI0 K hK=>?_,?_⟩
  ·obtain⟨⟨ua,uc⟩,hI⟩:=hI0
   go_simp;exact hK _ _ (DMz.alloc hDS hDB hI (i:=11) (t:=19) (s:=3) (ty:=79) (by decide) rfl hS hcl (by kernel_rfl) (by kernel_rfl) rfl)
  refine⟨fun S a1 w1 hS hd hcl hI0 K hK=>?_,?_⟩
  ·obtain⟨⟨ua,uc⟩,hI⟩:=hI0
   have k0:a1.tmps.getD 358 undef=.agg #[.int .i64 u.kind,.int .i64 u.r,.slice ua u.len uc]:=hI.1.vals (9,358) (by decide) (hd.at 9 (by kernel_rfl)) _ rfl;obtain⟨B,kB,hlo,c0,hBk,hcs⟩:=hI.1.box (i:=11) (t:=19) (s:=3) (ty:=79) (by decide) (hd.at 11 (by kernel_rfl))
   exact Qkt hBk kB k0 infTy rfl hcs.symm (hK _ _ (DMz.store hDS hDB hI (i:=12) (t:=19) (s:=3) (ty:=79) (j:=11) (by decide) (by decide) (hd.at 11 (by kernel_rfl)) kB hBk hcs hlo rfl rfl hS hcl (by kernel_rfl) (by kernel_rfl) rfl))
  refine⟨fun S a1 w1 hS hd hcl hI0 K hK=>?_,?_⟩
  ·obtain⟨⟨ua,uc⟩,hI⟩:=hI0
   have k0:a1.tmps.getD 359 undef=.bool true:=hI.1.vals (10,359) (by decide) (hd.at 10 (by kernel_rfl)) _ rfl;go_simp;exact hK _ _ (DMz.pure hDS hDB hI (i:=13) (t:=20) (by decide) rfl hS (Below.refl _ _) (by kernel_rfl) (by kernel_rfl) rfl)
  trivial
theorem Qel {m:Nat}{too:Nat→Int}(ht:∀ i,i<m→-9223372036854775808≤too i∧too i≤9223372036854775807):{n:Nat}→{t u:TT n}→t.ok→t.ren m too=some u→u.ok
 | 0,t,_,_,_=>Empty.elim t
 | n+1,t,u,hok,h=>by
  simp only[TT.ren] at h
  cases e1:QaE m too t.1 t.2.1 with
  | none=>simp[e1] at h
  | some r1 =>
   simp only[e1] at h
   cases e2:QcI (TT.ren m too) t.2.2 with
   | none=>simp[e2] at h
   | some l1 =>
    simp only[e2] at h
    have h:=Option.some.inj h;subst h;refine⟨?_,fun x hx=>?_⟩
    ·show -9223372036854775808≤r1∧r1≤9223372036854775807;unfold QaE at e1;split at e1
     ·cases e1;exact hok.1
     split at e1
     ·cases e1
     rename_i h1 h2
     split at e1
     ·cases e1
     ·cases e1;exact ht _ (by omega)
    ·obtain⟨a1,a2⟩:=QaK.1 e2
     obtain⟨i,hi⟩:=List.getElem?_of_mem hx
     have hil:i<t.2.2.length:=by rw[← a1];exact(List.getElem?_eq_some_iff.1 hi).1
     have:=a2 i t.2.2[i] (List.getElem?_eq_getElem hil)
     rw[hi] at this
     exact Qel ht (hok.2 _ (List.getElem_mem hil)) this
theorem Qd9 {H:List Bool}{l:List Int}{k:Nat}{x:Int}(hx:l[k]?=some x) :
 QD H (l.take k) (l.drop k)=if hHas H x then (if inB (l.take k) x then 13 else QD H (l.take (k+1)) (l.drop (k+1))) else 10:=by
 obtain⟨hk,e⟩:=List.getElem?_eq_some_iff.1 hx
 rw[List.drop_eq_getElem_cons hk,e,QD,List.take_add_one,hx]
 rfl
theorem Qey {H:List Bool}{l:List Int}{k:Nat}(hk:l.length≤k):QD H (l.take k) (l.drop k)=0:=by
 rw[List.drop_of_length_le hk,QD]
theorem QeE {w:World}{Q:Nat→Prop}{l:List Int}{a:Option Addr}{m c:Nat}(h:intsL.In w Q l [.slice a m c]):∀ x∈l,-9223372036854775808≤x∧x≤9223372036854775807:=fun x hx=>by
 obtain⟨i,hi⟩:=List.getElem?_of_mem hx
 obtain⟨g,o,ds,_,_,_,_,_,hr⟩:=Lay.list_at h hi
 exact hr
theorem Qcq {w:World}{Q:Nat→Prop}{m:List (Qe 6)}{p:Option Addr}{n c:Nat}(h:(QaF 6).In w Q m [.slice p n c]){k:Nat}{g:Qe 6}(hg:m[k]?=some g) :
 ∃ mg mo a1 c1 a2 c2 a3 c3,p=some ⟨mg,mo,none⟩∧w.cell? ⟨mg,mo+k*4,none⟩=some (.int .i64 g.regs)∧w.cell? ⟨mg,mo+k*4+1,none⟩=some (.slice a1 g.params.length c1)∧w.cell? ⟨mg,mo+k*4+2,none⟩=some (.slice a2 g.results.length c2)∧w.cell? ⟨mg,mo+k*4+3,none⟩=some (.slice a3 g.blocks.length c3) ∧
  (Qp 6).In w Q g.params [.slice a1 g.params.length c1]∧(Qp 6).In w Q g.results [.slice a2 g.results.length c2]:=by
 obtain⟨mg,mo,ds,e1,e2,e3,hc,hd⟩:=Lay.list_at h hg
 obtain⟨a1,c1,a2,c2,a3,c3,rfl,h1,h2,h3,h4⟩:=ZM hd
 exact⟨mg,mo,a1,c1,a2,c2,a3,c3,e1,hc 0 (by decide),hc 1 (by decide),hc 2 (by decide),hc 3 (by decide),h1,h2⟩
def Qk1 (w2:World) (b X mg mo nm cm k n1 d1 n2 d2 n3 d3:Nat) (fr:Int) (p1 p2 p3:Option Addr) (t:Tmp) (v:Value) (w:World):Prop :=
 match ([(14,fun v w=>∃ B,v=.pointer (some ⟨B,0,none⟩)∧w2.heap.size≤B∧Blk w B #[.int .i64 0,.slice none 0 0,.slice none 0 0,.slice none 0 0] 55)]:List (Tmp × (Value→World→Prop))).lookup t with
 | some p=>p v w
 | none=>v=(([(0,.pointer (some ⟨b,0,none⟩)),(3,.pointer (some ⟨X,0,none⟩)),(288,.pointer (some ⟨b,0,none⟩)),(289,.pointer (some ⟨b,0,none⟩)),(290,.pointer (some ⟨b,0,none⟩)),(291,.pointer (some ⟨b,0,none⟩)),(292,.slice (some ⟨mg,mo,none⟩) nm cm),(293,.pointer (some ⟨X,4,none⟩)),(294,.int .i64 (k:Int)),(295,.pointer (some ⟨mg,mo+k*4,none⟩)),(296,.agg #[.int .i64 fr,.slice p1 n1 d1,.slice p2 n2 d2,.slice p3 n3 d3])]:List (Tmp × Value)).lookup t).getD undef
theorem Ql3 {w w2:World}{b X:Nat}{O:Nat→Prop}{s:JSt}{x:Qv}{rg ag:Option Addr}{rc ac:Nat}{na:Option Addr}(HS:Hid (MkS w w2 b X O s x rg ag rc ac na)){mg mo nm cm k n1 d1 n2 d2 n3 d3:Nat}{fr:Int}{p1 p2 p3:Option Addr}(y0:w2.cell? ⟨b,0,none⟩=some (.slice (some ⟨mg,mo,none⟩) nm cm)) (f0:w2.cell? ⟨mg,mo+k*4,none⟩=some (.int .i64 fr)) (f1:w2.cell? ⟨mg,mo+k*4+1,none⟩=some (.slice p1 n1 d1)) (f2:w2.cell? ⟨mg,mo+k*4+2,none⟩=some (.slice p2 n2 d2)) (f3:w2.cell? ⟨mg,mo+k*4+3,none⟩=some (.slice p3 n3 d3)) (hkn:(k:Int)<nm) (hxk:x.k=(k:Int)){Q:Exit→Act→World→Prop}
 (a:Act) (m:Nat) (hn:a.tmps.size=m) (hn':365≤m) (h0:a.tmps.getD 0 undef=.pointer (some ⟨b,0,none⟩)) (h3:a.tmps.getD 3 undef=.pointer (some ⟨X,0,none⟩))
 (hend:∀ ops vs w',vs 296=.agg #[.int .i64 fr,.slice p1 n1 d1,.slice p2 n2 d2,.slice p3 n3 d3]→(fun v w=>∃ B,v=.pointer (some ⟨B,0,none⟩)∧w2.heap.size≤B∧Blk w B #[.int .i64 0,.slice none 0 0,.slice none 0 0,.slice none 0 0] 55) (vs 14) w'→Below w2.heap.size w2 w'→wpList Tryz.prog ops Q (Qc8 10 ((Tryz.f73.body.bind (Ql 59)).getD .skip)) (Ze a vs [288,289,290,291,292,293,294,295,296,14]) w') :
 Code.wp Tryz.prog ((Tryz.f73.body.bind (Ql 59)).getD .skip) Q a w2:=by
 conv=>arg 2;whnf
 refine Qw 10 (Qk1 w2 b X mg mo nm cm k n1 d1 n2 d2 n3 d3 fr p1 p2 p3) (fun w=>Below w2.heap.size w2 w) (fun w w'=>Below w.heap.size w w') (outs:=[0,3]) (gs:=[]) (bs:=[true,true,true,true,true,true,true,true,true,true]) (by kernel_rfl) (n:=365) hn hn' (by kernel_rfl) (by kernel_rfl) ?hR ?hG (Qi (Below.refl _ _) 1) ⟨h0,h3,trivial⟩ ?hA ?hend
 case hR =>
  intro t v w w' hr h;unfold Qk1 at h ⊢;split at h
  ·rename_i p hp
   simp only[List.lookup_cons,List.lookup_nil] at hp
   split at hp
   ·cases hp;exact(by obtain⟨B,e,h1,h2⟩:=h;exact⟨B,e,h1,(hr.block B (lt_of_block h2)).trans h2⟩)
   ·cases hp
  ·exact h
 case hG=>exact trivial
 case hend=>exact fun ops vs w' hW hk=>hend ops vs w' (hk 296 (by kernel_rfl)) (hk 14 (by kernel_rfl)) hW
 case hA =>
  refine⟨fun a w hW hk K hK=>?_,?_⟩
  ·obtain⟨k0,-⟩:=hk
   have k0:a.tmps.getD 0 undef=.pointer (some ⟨b,0,none⟩):=k0;go_simp;exact hK _ _ (Below.refl _ _) hW rfl
  refine⟨fun a w hW hk K hK=>?_,?_⟩
  ·obtain⟨k0,-⟩:=hk
   have k0:a.tmps.getD 288 undef=.pointer (some ⟨b,0,none⟩):=k0;go_simp;exact hK _ _ (Below.refl _ _) hW rfl
  refine⟨fun a w hW hk K hK=>?_,?_⟩
  ·obtain⟨k0,-⟩:=hk
   have k0:a.tmps.getD 289 undef=.pointer (some ⟨b,0,none⟩):=k0;go_simp;exact hK _ _ (Below.refl _ _) hW rfl
  refine⟨fun a w hW hk K hK=>?_,?_⟩
  ·obtain⟨k0,-⟩:=hk
   have k0:a.tmps.getD 290 undef=.pointer (some ⟨b,0,none⟩):=k0;go_simp;exact hK _ _ (Below.refl _ _) hW rfl
  refine⟨fun a w hW hk K hK=>?_,?_⟩
  ·obtain⟨k0,-⟩:=hk
   have k0:a.tmps.getD 291 undef=.pointer (some ⟨b,0,none⟩):=k0;have c0:=Qk y0 hW;go_simp;exact hK _ _ (Below.refl _ _) hW rfl
  refine⟨fun a w hW hk K hK=>?_,?_⟩
  ·obtain⟨k0,-⟩:=hk
   have k0:a.tmps.getD 3 undef=.pointer (some ⟨X,0,none⟩):=k0;go_simp;exact hK _ _ (Below.refl _ _) hW rfl
  refine⟨fun a w hW hk K hK=>?_,?_⟩
  ·obtain⟨k0,-⟩:=hk
   have k0:a.tmps.getD 293 undef=.pointer (some ⟨X,4,none⟩):=k0;have c0:=(HS.out.below hW).cells.2.2.2.2.1;rw[hxk] at c0
   go_simp;exact hK _ _ (Below.refl _ _) hW rfl
  refine⟨fun a w hW hk K hK=>?_,?_⟩
  ·obtain⟨k0,k1,-⟩:=hk
   have k0:a.tmps.getD 292 undef=.slice (some ⟨mg,mo,none⟩) nm cm:=k0;have k1:a.tmps.getD 294 undef=.int .i64 (k:Int):=k1;go_simp;exact hK _ _ (Below.refl _ _) hW rfl
  refine⟨fun a w hW hk K hK=>?_,?_⟩
  ·obtain⟨k0,-⟩:=hk
   have k0:a.tmps.getD 295 undef=.pointer (some ⟨mg,mo+k*4,none⟩):=k0;have c0:=Qk f0 hW;have c1:=Qk f1 hW;have c2:=Qk f2 hW;have c3:=Qk f3 hW;go_simp;exact hK _ _ (Below.refl _ _) hW rfl
  refine⟨fun a w hW hk K hK=>?_,?_⟩
  ·clear hk;go_simp;exact hK _ _ (Q5 _ _) (hW.alloc hW.size _) ⟨_,rfl,hW.size,Qj _ _ _⟩
  trivial
theorem QfU {w:World}{b:Nat}{O:Nat→Prop}{s:JSt}{x:Qv}{rg ag:Option Addr}{rc ac:Nat}(hO:∀ k,O k→k<w.heap.size) (hJ:JOk s) (h:KAt w b O s){QR QA:Nat→Prop}(hregs:intsL.In w QR x.regs [.slice rg x.regs.length rc]) (hargs:intsL.In w QA x.args [.slice ag x.args.length ac]) (hrc:x.regs.length≤rc) (hr6:x.regs.length≤6) (ha8:x.args.length≤8) (hk0:0≤x.k∧x.k<s.m.length) (hop:x.op=14) :
 Calls Tryz.prog 73 #[.pointer (some ⟨b,0,none⟩),QaR x rg ag rc ac] w fun e w'=>QY w O (s.makes x).1 (s.makes x).2 e w':=by
 have HREGS:=Qa hregs;have HARGS:=Qa hargs;clear hregs hargs
 have E:Hid (s.makes x=(match s.m[x.k.toNat]? with
  | none=>(0,[])
  | some g=>if (x.regs.length:Int)=g.regs then
   (code2 (QD s.H [] x.regs) (s.args x.args g.params x.regs),g.results.map (Qar x.regs))
   else (2,[]))):=QbK hop
 have S0:=Qa (MkS.start x rg ag rc ac hO hJ h);obtain⟨xop,xa,xb,xc,xk,xn,xr,xs⟩:=x
 simp only at hop
 subst hop;clear h;go_enter Tryz.func73,Tryz.ntmps73
 go_upto_region 59 with fail
 obtain⟨w2,hw2⟩:∃ w2,(w.alloc (.cells #[.int .i64 14,.int .i64 xa,.int .i64 xb,.int .i64 xc,.int .i64 xk,.int .i64 xn,.slice rg xr.length rc,.slice ag xs.length ac] 59)).alloc (.cells #[.int .i64 1,.int .i64 0,.slice none 0 0] 79)=w2:=⟨_,rfl⟩
 obtain⟨X,hX⟩:∃ X,w.heap.size=X:=⟨_,rfl⟩
 have S2:Hid (MkS w w2 b X O s ⟨14,xa,xb,xc,xk,xn,xr,xs⟩ rg ag rc ac (some ⟨X+1,0,none⟩)):=by rw[← hw2,← hX];exact S0.out
 rw[hw2,hX]
 clear hw2 hX S0;obtain⟨x0,x1,x2,x3,x4,x6,x7⟩:=S2.out.cells
 have hH16:=S2.out.ok.regs;have hL80:=S2.out.ok.vals;simp only at x0 x1 x2 x3 x4 x6 x7 hrc hr6 ha8 hk0
 have HR2:Hid (intsL.In w2 QR xr [.slice rg xr.length rc]):=Lay.below HREGS.out S2.out.bel;have HA2:Hid (intsL.In w2 QA xs [.slice ag xs.length ac]):=Lay.below HARGS.out S2.out.bel;clear HREGS HARGS;obtain⟨k,rfl⟩:=Int.eq_ofNat_of_zero_le hk0.1
 have hkm:k<s.m.length:=by omega
 have hgk:s.m[k]?=some s.m[k]:=List.getElem?_eq_getElem hkm;generalize s.m[k]=g at hgk;obtain⟨pm,cm,a1,c1,a2,c2,a3,c3,hh,aL,cL,R⟩:=S2.out.known.read
 obtain⟨q0,-,-,-,-,-,-⟩:=R.cells
 obtain⟨mg,mo,p1,d1,p2,d2,p3,d3,rfl,f0,f1,f2,f3,hP,hRs⟩:=Qcq R.mod hgk
 have HPA:Hid ((Qp 6).In w2 (fun g=>¬ O g) g.params [.slice p1 g.params.length d1]):=hP;have HRE:Hid ((Qp 6).In w2 (fun g=>¬ O g) g.results [.slice p2 g.results.length d2]):=hRs;have HGM:Hid (g∈s.m):=List.mem_of_getElem? hgk
 have E2:Hid (s.makes ⟨14,xa,xb,xc,(k:Int),xn,xr,xs⟩=if (xr.length:Int)=g.regs then (code2 (QD s.H [] xr) (s.args xs g.params xr),g.results.map (Qar xr)) else (2,[])):=by
  show _=_;rw[E.out]
  simp only[Int.toNat_natCast,hgk]
 have hkn:(k:Int)<s.m.length:=by omega
 clear E R hP hRs hgk hk0;generalize s.m.length=nm at q0 hkm hkn;generalize hfr:g.regs=fr at f0 E2;have HFR:Hid (g.regs=fr):=hfr;generalize hn1:g.params.length=n1 at f1 HPA;have HN1:Hid (g.params.length=n1):=hn1;generalize hn2:g.results.length=n2 at f2 HRE;have HN2:Hid (g.results.length=n2):=hn2;generalize g.blocks.length=n3 at f3;clear hfr hn1 hn2;refine Ql3 S2 q0 f0 f1 f2 f3 hkn rfl _ _ rfl (Nat.le_of_ble_eq_true (by kernel_rfl)) rfl rfl ?_;rintro ops vs w5 hv296 ⟨B,hv14,hB,hBb⟩ b5;show wpList _ ops _ [_] (Ze _ vs [288,289,290,291,292,293,294,295,296,14]) w5;simp only[Ze,Act.put,List.setIfInBounds_toArray,List.set_cons_zero,List.set_cons_succ,hv296,hv14]
 have e0:=Qb hBb 0 _ rfl;have e1:=Qb hBb 1 _ rfl;have e2:=Qb hBb 2 _ rfl;have e3:=Qb hBb 3 _ rfl;have ef:∀ i,w5.frozen? ⟨B,i,none⟩=false:=fun i=>Qt hBb i
 have B6:Hid (Blk ((((w5.setCell ⟨B,0,none⟩ (.int .i64 fr)).setCell ⟨B,1,none⟩ (.slice p1 n1 d1)).setCell ⟨B,2,none⟩ (.slice p2 n2 d2)).setCell ⟨B,3,none⟩ (.slice p3 n3 d3)) B #[.int .i64 fr,.slice p1 n1 d1,.slice p2 n2 d2,.slice p3 n3 d3] 55):=by
  have h3:=Qr (Qr (Qr (Qr hBb 0 (.int .i64 fr)) 1 (.slice p1 n1 d1)) 2 (.slice p2 n2 d2)) 3 (.slice p3 n3 d3);exact h3
 have b6:Hid (Below w2.heap.size w2 ((((w5.setCell ⟨B,0,none⟩ (.int .i64 fr)).setCell ⟨B,1,none⟩ (.slice p1 n1 d1)).setCell ⟨B,2,none⟩ (.slice p2 n2 d2)).setCell ⟨B,3,none⟩ (.slice p3 n3 d3))) :=
  (((b5.setCell (p:=⟨B,0,none⟩) hB _).setCell (p:=⟨B,1,none⟩) hB _).setCell (p:=⟨B,2,none⟩) hB _).setCell (p:=⟨B,3,none⟩) hB _
 clear hBb hB b5 hv296 hv14 q0 f0 f1 f2 f3;go_upto_region 60 with fail
 generalize ((((w5.setCell ⟨B,0,none⟩ (.int .i64 fr)).setCell ⟨B,1,none⟩ (.slice p1 n1 d1)).setCell ⟨B,2,none⟩ (.slice p2 n2 d2)).setCell ⟨B,3,none⟩ (.slice p3 n3 d3))=w6 at B6 b6 ⊢;have S6:=Qa (S2.out.below b6.out);have HR6:Hid (intsL.In w6 QR xr [.slice rg xr.length rc]):=Lay.below HR2.out b6.out;have HA6:Hid (intsL.In w6 QA xs [.slice ag xs.length ac]):=Lay.below HA2.out b6.out;have HPA6:Hid ((Qp 6).In w6 (fun g=>¬ O g) g.params [.slice p1 n1 d1]):=Lay.below HPA.out b6.out;have HRE6:Hid ((Qp 6).In w6 (fun g=>¬ O g) g.results [.slice p2 n2 d2]):=Lay.below HRE.out b6.out;clear e0 e1 e2 e3 ef x0 x1 x2 x3 x4 x6 x7 S2 HR2 HA2 HPA HRE b6 hh aL cL a1 c1 a2 c2 a3 c3;have S2:=S6;clear S6;obtain⟨x0,x1,x2,x3,x4,x6,x7⟩:=S2.out.cells
 simp only at x0 x1 x2 x3 x4 x6 x7
 have e0:=Qb B6.out 0 _ rfl;have e1:=Qb B6.out 1 _ rfl;have e2:=Qb B6.out 2 _ rfl;generalize hKK:xr.length=K at x6 hrc hr6 HR6 E2;have HKK:Hid (xr.length=K):=hKK;generalize hNN:xs.length=N at x7 ha8 HA6;have HNN:Hid (xs.length=N):=hNN;clear hKK hNN;by_cases hfk:(K:Int)=fr
 ·have hfk':((K:Int)!=fr)=false:=bne_eq_false_iff_eq.2 hfk;have E3:Hid (s.makes ⟨14,xa,xb,xc,(k:Int),xn,xr,xs⟩=(code2 (QD s.H [] xr) (s.args xs g.params xr),g.results.map (Qar xr))):=by show _=_;rw[E2.out,if_pos hfk]
  have HFK:=Qa hfk;clear E2 hfk;obtain⟨pm',cm',a1,c1,a2,c2,a3,c3,hh,aL,cL,R⟩:=S2.out.known.read
  obtain⟨-,-,-,-,-,q5,-⟩:=R.cells
  have HHO:Hid (Qm w6 hh O s.H):=R.holds;clear R;go_wp2_with fail
  go_loopw [15] (fun u wr=>∃ j,u=.int .i64 (j:Nat)∧j≤K∧Below w6.heap.size w6 wr∧QD s.H [] xr=QD s.H (xr.take j) (xr.drop j)) (fun u _=>K - (intOf u).toNat)
  case atStart=>exact⟨0,rfl,Nat.zero_le _,Below.refl _ _,rfl⟩
  case round =>
   obtain⟨j,rfl,hj,hB,hC⟩:=hrel
   have HB:=Qa hB;have HC:=Qa hC;have S7:=Qa (S2.out.below hB);have x6':=Qk x6 hB;have x7':=Qk x7 hB;have q5':=Qk q5 hB;have HHO7:Hid (Qm wr hh O s.H):=HHO.out.below hB;have HR7:Hid (intsL.In wr QR xr [.slice rg K rc]):=Lay.below HR6.out hB;clear hB hC;by_cases hlt:j<K
   ·obtain⟨lg,lo,rfl,-,-,z0⟩:=ZK HR7.out (i:=j) (by rw[HKK.out];exact hlt)
    have hxi:xr[j]?=some (xr[j]'(by rw[HKK.out];exact hlt)):=List.getElem?_eq_getElem _;have ex:xr.getD j 0=xr[j]'(by rw[HKK.out];exact hlt):=by simp[List.getD,hxi]
    rw[ex] at z0
    generalize xr[j]'(by rw[HKK.out];exact hlt)=r at hxi z0;have hst:=Qd9 (H:=s.H) hxi;rw[← HC.out] at hst
    have hjK:(j:Int)<K:=by omega
    have hj0:(0:Int)≤j:=by omega
    have hjc:(j:Int)≤rc:=by omega
    have CH:Hid (∀ n,Calls Tryz.prog 34 #[.pointer (some ⟨hh,0,none⟩),.int .i64 r] (wr.drewN n) fun e w'=>e=.returned (.bool (hHas s.H r))∧w'=wr.drewN n):=fun n=>Qb8 r (by omega) (show Qm (wr.drewN n) hh O s.H from HHO7.out);clear ex
    cases hq:hHas s.H r with
    | false =>
     rw[hq] at CH hst
     have E4:Hid ((s.makes ⟨14,xa,xb,xc,(k:Int),xn,xr,xs⟩).1=10):=by
      show _=_;have h1:QD s.H [] xr=10:=by simpa using hst
      rw[E3.out,h1];rfl
     have HBW:=Qa S7.out.bel;clear E3 hst hq hxi;go_wp2_with fail
     go_quiet ((go_at_call 34;exact Calls.quiet_of_same (CH.out _)))
     go_wp2
     go_ret2;rw[E4.out]
     exact QY.bad (by decide) (Qi HBW.out _) _ _ _
    | true =>
     rw[hq] at CH hst
     clear hq;go_wp2_with fail
     go_quiet ((go_at_call 34;exact Calls.quiet_of_same (CH.out _)))
     have b8:Below wr.heap.size wr (wr.drewN nq):=Qi (Below.refl _ _) nq;have S8:=Qa (S7.out.below b8);have HB8:=Qa (HB.out.trans (b8.mono HB.out.size));have x6'':=Qk x6' b8;have z0':=Qk z0 b8;have HR8:Hid (intsL.In (wr.drewN nq) QR xr [.slice (some ⟨lg,lo,none⟩) K rc]):=Lay.below HR7.out b8;clear b8;generalize wr.drewN nq=w8 at S8 HB8 x6'' z0' HR8 ⊢;clear x6' x7' q5' z0 HR7 HHO7 CH
     have CI:Hid (∀ n,Calls Tryz.prog 128 #[.slice (some ⟨lg,lo,none⟩) j rc,.int .i64 r] (w8.drewN n) fun e w'=>e=.returned (.bool (inB (xr.take j) r))∧w'=w8.drewN n):=fun n =>
      Qfy r (by simp;rw[HKK.out];omega) (by omega) (Lay.drewN (Qdg HR8.out (by rw[HKK.out];omega) rc) n)
     cases hq:inB (xr.take j) r with
     | true =>
      rw[hq] at CI hst
      have E4:Hid ((s.makes ⟨14,xa,xb,xc,(k:Int),xn,xr,xs⟩).1=13):=by
       show _=_;have h1:QD s.H [] xr=13:=by simpa using hst
       rw[E3.out,h1];rfl
      have HBW:=Qa S8.out.bel;clear E3 hst hq hxi;go_wp2_with fail
      go_quiet ((go_at_call 128;exact Calls.quiet_of_same (CI.out _)))
      go_wp2
      go_ret2;rw[E4.out]
      exact QY.bad (by decide) (Qi HBW.out _) _ _ _
     | false =>
      rw[hq] at CI hst
      have E5:Hid (QD s.H [] xr=QD s.H (xr.take (j+1)) (xr.drop (j+1))):=by show _=_;simpa using hst
      clear hst hq hxi;go_wp2_with fail
      go_quiet ((go_at_call 128;exact Calls.quiet_of_same (CI.out _)))
      go_wp2
      go_roundw
      case rel=>exact⟨j+1,by go_num,by omega,Qi HB8.out _,E5.out⟩
      case measure=>simp[intOf];omega
   ·have hz:QD s.H [] xr=0:=by
     rw[HC.out]
     exact Qey (by rw[HKK.out];omega)
    have hlt':¬ (j:Int)<K:=by omega
    have HZ:=Qa hz;have E4:Hid (s.makes ⟨14,xa,xb,xc,(k:Int),xn,xr,xs⟩=(s.args xs g.params xr,g.results.map (Qar xr))):=by show _=_;rw[E3.out,hz];rfl
    have g0:=Qk e0 HB.out;have g1:=Qk e1 HB.out;have g2:=Qk e2 HB.out;have HA7:Hid (intsL.In wr QA xs [.slice ag N ac]):=Lay.below HA6.out HB.out;have HPA7:Hid ((Qp 6).In wr (fun g=>¬ O g) g.params [.slice p1 n1 d1]):=Lay.below HPA6.out HB.out;have HRE7:Hid ((Qp 6).In wr (fun g=>¬ O g) g.results [.slice p2 n2 d2]):=Lay.below HRE6.out HB.out;have HGR:=Qa (S2.out.ok.mod.2 g HGM.out);have hp8:n1≤8:=by rw[← HN1.out];exact HGR.out.params.1
    have hr8:n2≤8:=by rw[← HN2.out];exact HGR.out.results.1
    have HNG:Hid (¬ Qe.great g):=fun hg=>S2.out.ok.tiny (.inr ⟨g,HGM.out,hg⟩);have HCP:Hid (∀ t∈g.params,t.count≤2000):=fun t ht=>Nat.le_of_not_lt fun hlt=>HNG.out (.inr (.inl (.inr ⟨t,ht,hlt⟩)));have HCR:Hid (∀ t∈g.results,t.count≤2000):=fun t ht=>Nat.le_of_not_lt fun hlt=>HNG.out (.inr (.inr (.inl (.inr ⟨t,ht,hlt⟩))));clear E3 hz e0 e1 e2 HHO7 q5' HC;go_wp2_with fail
    refine(Qda HNN.out HN1.out HKK.out (by omega) (by omega) S7.out.ok.vals HA7.out HPA7.out HR7.out HCP.out S7.out.known).mono ?_
    rintro e w9 ⟨rfl,b9⟩;have S9:=Qa (S7.out.below b9);by_cases hc:s.args xs g.params xr=0
    ·rw[hc]
     have E5:Hid (s.makes ⟨14,xa,xb,xc,(k:Int),xn,xr,xs⟩=(0,g.results.map (Qar xr))):=by show _=_;rw[E4.out,hc]
     have y6:=Qk x6' b9;have g2':=Qk g2 b9;have HR9:Hid (intsL.In w9 QR xr [.slice rg K rc]):=Lay.below HR7.out b9;have HRE9:Hid ((Qp 6).In w9 (fun g=>¬ O g) g.results [.slice p2 n2 d2]):=Lay.below HRE7.out b9;clear E4 hc b9 x6' x7' g0 g1 g2 S7 HR7 HA7 HPA7 HRE7 HB;obtain⟨i0,hi,hz0,hz1,hz2⟩:=pInfoT
     have HRG:=Qa (QeE HR9.out);go_wp2_with fail
     go_loopw [17,18] (fun v u wr=>∃ j l cs,u=.int .i64 (j:Nat)∧j≤n2∧Z2 (Lay.tt 6) 79 wr w9.heap.size v l cs∧l=(g.results.take j).map (Qar xr)∧Below w9.heap.size w9 wr) (fun _ u _=>n2 - (intOf u).toNat)
     case atStart=>exact⟨0,[],[],rfl,Nat.zero_le _,Z2.nil _ _ _ _,by simp,Below.refl _ _⟩
     case round =>
      obtain⟨j2,l,cs,rfl,hj2,hA,hl,hB⟩:=hrel
      obtain⟨oa,oc,rfl⟩:=hA.formP
      have HAR:=Qa hA;have HLL:=Qa hl;have HB:=Qa hB;have y6':=Qk y6 hB;have r2:=Qk g2' hB;have hlen:l.length=j2:=by rw[hl];simp;rw[HN2.out];omega
      have hsz:w9.heap.size≤wr.heap.size:=hB.size;have HLEN:=Qa hlen;clear hA hl hB;by_cases hlt2:j2<n2
      ·obtain⟨tl,tok⟩:=QM (Lay.below HRE9.out HB.out)
       have hti:g.results[j2]?=some (g.results[j2]'(by rw[HN2.out];exact hlt2)):=List.getElem?_eq_getElem _;generalize g.results[j2]'(by rw[HN2.out];exact hlt2)=t at hti;obtain⟨gR,oR,ta,tc,rfl,-,t0,t1,t2,t3⟩:=LIn.at tl hti
       have htm:=List.mem_of_getElem? hti;obtain⟨u,hu,huc⟩:=QfJ (m:=xr.length) (too:=fun i=>xr.getD i 0) (a:=g.regs) (b:=s.H.length) (by rw[HKK.out,HFR.out,← HFK.out];omega) (fun i hi=>ZY (Qas HZ.out (xr.getD i 0) (by simp[List.getD,hi]))) (HGR.out.results.2 t htm)
       have hrd:Qar xr t=u:=by unfold Qar;rw[hu];rfl
       have huk:u.ok:=Qel (fun i hi=>HRG.out (xr.getD i 0) (by simp[List.getD,hi])) (tok t htm) hu;have HREN:Hid (t.ren K (fun i=>xr.getD i 0)=some u):=by rw[← HKK.out];exact hu
       have HTI:Hid (TIn wr (fun g=>¬ O g) t ta):=t3;have HCT:Hid (t.count≤2000):=HCR.out t htm;have HRN:Hid (Qhe wr rg K (fun i=>xr.getD i 0)):=QkX HKK.out (Lay.below HR9.out HB.out)
       have HL2:Hid (l++[u]=(g.results.take (j2+1)).map (Qar xr)):=by
        show _=_;rw[List.take_add_one,hti,Option.toList_some,List.map_append,← HLL.out]
        simp[hrd]
       have HUK:=Qa huk;have hjn:(j2:Int)<n2:=by omega
       clear tl tok hti htm hu huc hrd huk t3;go_upto_region 76 with fail
       refine Code.wp_mono ?_ (Qma r2 t0 t1 t2 y6' hjn HTI HCT HRN HREN _ (by rfl) rfl rfl rfl rfl);rintro ee aa w10 ⟨rfl,vs2,rfl,ua,uc,B2,hv19,hv20,hBk,hTu,b10⟩;simp only[Ze,Act.put,List.setIfInBounds_toArray,List.set_cons_zero,List.set_cons_succ,hv19,hv20]
       have A10:Hid (Z2 (Lay.tt 6) 79 w10 w9.heap.size (.slice oa l.length oc) l cs):=HAR.out.below b10;have c0:=Qb hBk 0 _ rfl;have c1:=Qb hBk 1 _ rfl;have c2:=Qb hBk 2 _ rfl;have HB10:=Qa (HB.out.trans (b10.mono hsz));have hsz10:w9.heap.size≤w10.heap.size:=Nat.le_trans hsz b10.size;have HTU:Hid (TIn w10 (fun g=>wr.heap.size≤g) u ua):=hTu;have hl8:l.length≤8:=by rw[HLEN.out];omega
       have PU:Hid (∀ gg cap w11,w11.ownsRow w9.heap.size 79 3 (.slice (some ⟨gg,0,none⟩) (l.length+1) cap) (l.length+1) (cs++[.int .i64 u.kind,.int .i64 u.r,.slice ua u.len uc])→(w10.alloc (.cells #[.int .i64 u.kind,.int .i64 u.r,.slice ua u.len uc] 79)).grownBy w11 (Value.slice oa l.length oc).ownBlock→((Value.slice oa l.length oc).ownBlock=some gg∨gg=w10.heap.size+1) →
        Z2 (Lay.tt 6) 79 w11 w9.heap.size (.slice (some ⟨gg,0,none⟩) (l.length+1) cap) (l++[u]) (cs++[.int .i64 u.kind,.int .i64 u.r,.slice ua u.len uc])∧Below w9.heap.size w9 w11):=by
        intro gg cap w11 s1 s2 s3;have b11:=Q5 w10 (.cells #[.int .i64 u.kind,.int .i64 u.r,.slice ua u.len uc] 79);have A11:=A10.out.below b11
        have T11:(Lay.tt 6).In (w10.alloc (.cells #[.int .i64 u.kind,.int .i64 u.r,.slice ua u.len uc] 79)) (fun g=>w9.heap.size≤g∧(Value.slice oa l.length oc).ownBlock≠some g) u [.int .i64 u.kind,.int .i64 u.r,.slice ua u.len uc] :=
         ⟨ua,uc,rfl,(HTU.out.below b11).mono (fun k hk _=>⟨Nat.le_trans hsz hk,fun e=>by have:=(HAR.out.lo_le e).2;omega⟩),HUK.out⟩
        exact⟨Z2.push A11 T11 s2 (by simpa using s3) s1,((HB10.out.alloc hsz10 _).grown s2 (by simp;omega) (fun k hk=>(A11.lo_le hk).1))⟩
       have HOWN:Hid (w10.ownsRow w9.heap.size 79 3 (.slice oa l.length oc) l.length cs):=A10.out.own;clear A10 HB10 HTU hTu hBk b10 hv19 hv20 t0 t1 t2 r2 y6' HAR HB HTI HRN HREN;generalize hlk:l.length=lk at HOWN PU HLEN hl8 ⊢;clear hlk;go_wp2_with (at_builtin;refine wpList_append_lies _ rfl (.tmp 360) (.tmp 362) 52 rfl w9.heap.size 79 i0 (.agg #[.int .i64 0,.int .i64 0,.slice none 0 0]) 3 40 pUnderT hi hz0 hz1 hz2 rfl (by decide) _ _ _ rfl (HOWN.out.alloc _) ⟨w10.heap.size,0,none⟩ 1 1 [.int .i64 u.kind,.int .i64 u.r,.slice ua u.len uc] rfl rfl (QgL _ [_,_,_] _) (QeF _ _ _ _ _) (by decide) (by unfold maxLen;omega) (by omega) (by simp;omega) (w10.heap.size+1) (by simp) ?_)
       intro g3 cap3 w11 s1 s2 s3 s4;obtain⟨q1,q2⟩:=PU.out g3 cap3 w11 s1 s2 s3
       have A12:=Qa q1;have B12:=Qa q2;clear s1 s2 s3 s4 PU HOWN q1 q2;go_wp2
       go_roundw
       case rel=>exact⟨j2+1,l++[u],_,by go_num,by omega,A12.out,HL2.out,B12.out⟩
       case measure=>simp[intOf];omega
      ·have hje:j2=n2:=by omega
       have hlt2':¬ (j2:Int)<n2:=by omega
       have Z:Hid (QY w O 0 (g.results.map (Qar xr)) (.returned (.tuple #[.slice oa l.length oc,.int .i64 0])) wr):=by
        have hl3:l=g.results.map (Qar xr):=by
         rw[HLL.out,List.take_of_length_le (by rw[HN2.out];omega)]
        rw[← hl3]
        refine⟨oa,l.length,oc,rfl,fun _=>⟨rfl,?_,Lay.mono HAR.out.lay (fun k hk _ ho=>by have h8:=S9.out.lt k ho;have:w9.heap.size≤k:=hk;omega)⟩,S9.out.bel.trans (HB.out.mono S9.out.bel.size)⟩
        obtain⟨-,q2⟩:=HAR.out.own
        rcases q2 with ⟨e,e'⟩|⟨g',cap',cur,e,hg',hh',hn',q⟩
        ·rw[e'];exact Nat.zero_le _
        ·simp only[Value.slice.injEq] at e
         omega
       clear HAR HB hje;generalize hlk:l.length=lk at Z HLEN;clear hlk;go_wp2
       go_ret2;rw[E5.out]
       exact Z.out
    ·have hc':(s.args xs g.params xr==0)=false:=beq_eq_false_iff_ne.2 hc;have E5:Hid ((s.makes ⟨14,xa,xb,xc,(k:Int),xn,xr,xs⟩).1=s.args xs g.params xr):=by show _=_;rw[E4.out]
     have HC2:=Qa hc;clear E4 hc;generalize s.args xs g.params xr=c at E5 hc' HC2 ⊢;go_wp2
     go_ret2;rw[E5.out]
     exact QY.bad HC2.out S9.out.bel _ _ _
 ·have hfk':((K:Int)==fr)=false:=beq_eq_false_iff_ne.2 hfk;have E3:Hid (s.makes ⟨14,xa,xb,xc,(k:Int),xn,xr,xs⟩=(2,[])):=by show _=_;rw[E2.out,if_neg hfk]
  clear E2 hfk;go_wp2
  go_ret2;rw[E3.out]
  exact QY.nil S2.out.bel
theorem Qki {regs:List Int}(h:∀ x∈regs,-9223372036854775808≤x∧x≤9223372036854775807){t:TT 6}(ht:t.ok):(Qar regs t).ok:=by
 unfold Qar
 cases e:t.ren regs.length (fun i=>regs.getD i 0) with
 | none=>exact⟨⟨by decide,by decide⟩,fun x hx=>by simp[zeroTT] at hx⟩
 | some u=>exact Qel (fun i hi=>h (regs.getD i 0) (by simp[List.getD,hi])) ht e
theorem Qc1.types {w:World}{G M:Nat}{A:Nat→Prop}{l:List (TT 6)}(h:Qc1 w G M l) (hl:l.length=M) (hok:∀ x∈l,x.ok) (hA:∀ k,G≤k→¬ A k):(Qp 6).In w (fun g=>¬ A g) l [.slice (some ⟨G,0,none⟩) M M]:=by
 obtain⟨cur,h1,h2,h3⟩:=h.row
 subst hl;refine⟨_,_,rfl,fun i x hx=>?_⟩
 obtain⟨a,c,q0,q1,q2,q3⟩:=h3 i x hx
 refine⟨G,0,[.int .i64 x.kind,.int .i64 x.r,.slice a x.len c],rfl,hA G (Nat.le_refl _),lt_of_block h1,fun j hj=>?_,a,c,rfl,q3.mono (fun k hk _=>hA k (by omega)),hok x (List.mem_of_getElem? hx)⟩
 have hj:j<3:=hj;show w.cell? ⟨G,0+i*3+j,none⟩=_;rw[Nat.zero_add]
 match j,hj with
 | 0,_=>exact Qb h1 _ _ q0
 | 1,_=>exact Qb h1 _ _ q1
 | 2,_=>exact Qb h1 _ _ q2
 | j+3,h=>exact absurd h (by omega)
noncomputable def JSt.callC (s:JSt) (x:Qv):Int:=match s.m[x.k.toNat]? with
 | none=>0
 | some g=>code2 (Qcw s.H x.regs g.regs) (code2 (s.handC x.args (g.params.map (Qar x.regs))) (Zp s.L.length g.results.length))
def JSt.callS (s:JSt) (x:Qv):JSt:={ s with L:=s.L++(match s.m[x.k.toNat]? with | none=>[] | some g=>g.results.map (Qar x.regs)) }
def QlC (w2:World) (b X mg mo nm cm k n1 d1 n2 d2 n3 d3:Nat) (fr:Int) (p1 p2 p3:Option Addr) (t:Tmp) (v:Value) (w:World):Prop :=
 match ([(4,fun v w=>∃ B,v=.pointer (some ⟨B,0,none⟩)∧w2.heap.size≤B∧Blk w B #[.int .i64 0,.slice none 0 0,.slice none 0 0,.slice none 0 0] 55)]:List (Tmp × (Value→World→Prop))).lookup t with
 | some p=>p v w
 | none=>v=(([(0,.pointer (some ⟨b,0,none⟩)),(3,.pointer (some ⟨X,0,none⟩)),(5,.pointer (some ⟨b,0,none⟩)),(6,.pointer (some ⟨b,0,none⟩)),(7,.pointer (some ⟨b,0,none⟩)),(8,.pointer (some ⟨b,0,none⟩)),(9,.slice (some ⟨mg,mo,none⟩) nm cm),(10,.pointer (some ⟨X,4,none⟩)),(11,.int .i64 (k:Int)),(12,.pointer (some ⟨mg,mo+k*4,none⟩)),(13,.agg #[.int .i64 fr,.slice p1 n1 d1,.slice p2 n2 d2,.slice p3 n3 d3])]:List (Tmp × Value)).lookup t).getD undef
theorem jc1 {w2:World}{b X mg mo nm cm k n1 d1 n2 d2 n3 d3:Nat}{fr:Int}{p1 p2 p3:Option Addr}(y0:w2.cell? ⟨b,0,none⟩=some (.slice (some ⟨mg,mo,none⟩) nm cm)) (x4:w2.cell? ⟨X,4,none⟩=some (.int .i64 (k:Int))) (f0:w2.cell? ⟨mg,mo+k*4,none⟩=some (.int .i64 fr)) (f1:w2.cell? ⟨mg,mo+k*4+1,none⟩=some (.slice p1 n1 d1)) (f2:w2.cell? ⟨mg,mo+k*4+2,none⟩=some (.slice p2 n2 d2)) (f3:w2.cell? ⟨mg,mo+k*4+3,none⟩=some (.slice p3 n3 d3)) (hkn:(k:Int)<nm){Q:Exit→Act→World→Prop}
 (a:Act) (m:Nat) (hn:a.tmps.size=m) (hn':36≤m) (h0:a.tmps.getD 0 undef=.pointer (some ⟨b,0,none⟩)) (h3:a.tmps.getD 3 undef=.pointer (some ⟨X,0,none⟩))
 (hend:∀ ops vs w',vs 13=.agg #[.int .i64 fr,.slice p1 n1 d1,.slice p2 n2 d2,.slice p3 n3 d3]→(fun v w=>∃ B,v=.pointer (some ⟨B,0,none⟩)∧w2.heap.size≤B∧Blk w B #[.int .i64 0,.slice none 0 0,.slice none 0 0,.slice none 0 0] 55) (vs 4) w'→Below w2.heap.size w2 w'→wpList Tryz.prog ops Q (Qc8 10 ((Tryz.f125.body.bind (Ql 1)).getD .skip)) (Ze a vs [5,6,7,8,9,10,11,12,13,4]) w') :
 Code.wp Tryz.prog ((Tryz.f125.body.bind (Ql 1)).getD .skip) Q a w2:=by
 conv=>arg 2;whnf
 refine Qw 10 (QlC w2 b X mg mo nm cm k n1 d1 n2 d2 n3 d3 fr p1 p2 p3) (fun w=>Below w2.heap.size w2 w) (fun w w'=>Below w.heap.size w w') (outs:=[0,3]) (gs:=[]) (bs:=[true,true,true,true,true,true,true,true,true,true]) (by kernel_rfl) (n:=36) hn hn' (by kernel_rfl) (by kernel_rfl) ?hR ?hG (Qi (Below.refl _ _) 1) ⟨h0,h3,trivial⟩ ?hA ?hend
 case hR =>
  intro t v w w' hr h;unfold QlC at h ⊢;split at h
  ·rename_i p hp
   simp only[List.lookup_cons,List.lookup_nil] at hp
   split at hp
   ·cases hp;exact(by obtain⟨B,e,h1,h2⟩:=h;exact⟨B,e,h1,(hr.block B (lt_of_block h2)).trans h2⟩)
   ·cases hp
  ·exact h
 case hG=>exact trivial
 case hend=>exact fun ops vs w' hW hk=>hend ops vs w' (hk 13 (by kernel_rfl)) (hk 4 (by kernel_rfl)) hW
 case hA =>
  refine⟨fun a w hW hk K hK=>?_,?_⟩
  ·obtain⟨k0,-⟩:=hk
   have k0:a.tmps.getD 0 undef=.pointer (some ⟨b,0,none⟩):=k0;go_simp;exact hK _ _ (Below.refl _ _) hW rfl
  refine⟨fun a w hW hk K hK=>?_,?_⟩
  ·obtain⟨k0,-⟩:=hk
   have k0:a.tmps.getD 5 undef=.pointer (some ⟨b,0,none⟩):=k0;go_simp;exact hK _ _ (Below.refl _ _) hW rfl
  refine⟨fun a w hW hk K hK=>?_,?_⟩
  ·obtain⟨k0,-⟩:=hk
   have k0:a.tmps.getD 6 undef=.pointer (some ⟨b,0,none⟩):=k0;go_simp;exact hK _ _ (Below.refl _ _) hW rfl
  refine⟨fun a w hW hk K hK=>?_,?_⟩
  ·obtain⟨k0,-⟩:=hk
   have k0:a.tmps.getD 7 undef=.pointer (some ⟨b,0,none⟩):=k0;go_simp;exact hK _ _ (Below.refl _ _) hW rfl
  refine⟨fun a w hW hk K hK=>?_,?_⟩
  ·obtain⟨k0,-⟩:=hk
   have k0:a.tmps.getD 8 undef=.pointer (some ⟨b,0,none⟩):=k0;have c0:=Qk y0 hW;go_simp;exact hK _ _ (Below.refl _ _) hW rfl
  refine⟨fun a w hW hk K hK=>?_,?_⟩
  ·obtain⟨k0,-⟩:=hk
   have k0:a.tmps.getD 3 undef=.pointer (some ⟨X,0,none⟩):=k0;go_simp;exact hK _ _ (Below.refl _ _) hW rfl
  refine⟨fun a w hW hk K hK=>?_,?_⟩
  ·obtain⟨k0,-⟩:=hk
   have k0:a.tmps.getD 10 undef=.pointer (some ⟨X,4,none⟩):=k0;have c0:=Qk x4 hW;go_simp;exact hK _ _ (Below.refl _ _) hW rfl
  refine⟨fun a w hW hk K hK=>?_,?_⟩
  ·obtain⟨k0,k1,-⟩:=hk
   have k0:a.tmps.getD 9 undef=.slice (some ⟨mg,mo,none⟩) nm cm:=k0;have k1:a.tmps.getD 11 undef=.int .i64 (k:Int):=k1;go_simp;exact hK _ _ (Below.refl _ _) hW rfl
  refine⟨fun a w hW hk K hK=>?_,?_⟩
  ·obtain⟨k0,-⟩:=hk
   have k0:a.tmps.getD 12 undef=.pointer (some ⟨mg,mo+k*4,none⟩):=k0;have c0:=Qk f0 hW;have c1:=Qk f1 hW;have c2:=Qk f2 hW;have c3:=Qk f3 hW;go_simp;exact hK _ _ (Below.refl _ _) hW rfl
  refine⟨fun a w hW hk K hK=>?_,?_⟩
  ·clear hk;go_simp;exact hK _ _ (Q5 _ _) (hW.alloc hW.size _) ⟨_,rfl,hW.size,Qj _ _ _⟩
  trivial
def QlG (w2:World) (b X C N ac n1 d1 Kn rc:Nat) (ag rg p1:Option Addr) (ps:List (TT 6)) (regs:List Int) (t:Tmp) (v:Value) (w:World):Prop :=
 match ([(27,fun v w=>∃ g,v=.slice (some ⟨g,0,none⟩) n1 n1∧w2.heap.size≤g∧Qc1 w g n1 (ps.map (Qar regs)))]:List (Tmp × (Value→World→Prop))).lookup t with
 | some p=>p v w
 | none=>v=(([(0,.pointer (some ⟨b,0,none⟩)),(3,.pointer (some ⟨X,0,none⟩)),(4,.pointer (some ⟨C,0,none⟩)),(20,.pointer (some ⟨b,0,none⟩)),(21,.pointer (some ⟨X,7,none⟩)),(22,.slice ag N ac),(23,.pointer (some ⟨C,1,none⟩)),(24,.slice p1 n1 d1),(25,.pointer (some ⟨X,6,none⟩)),(26,.slice rg Kn rc)]:List (Tmp × Value)).lookup t).getD undef
theorem jc3 {w2:World}{b X C N ac n1 d1 Kn rc:Nat}{ag rg p1:Option Addr}{ps:List (TT 6)}{regs:List Int}{Q R:Nat→Prop}(x6:w2.cell? ⟨X,6,none⟩=some (.slice rg Kn rc)) (x7:w2.cell? ⟨X,7,none⟩=some (.slice ag N ac)) (e1:w2.cell? ⟨C,1,none⟩=some (.slice p1 n1 d1)) (HK:Hid (regs.length=Kn)) (HN1:Hid (ps.length=n1)) (hn1:n1≤1000) (HR:Hid (intsL.In w2 Q regs [.slice rg Kn rc])) (HP:Hid (LIn w2 R ps p1)) (HC:Hid (∀ x∈ps,x.count≤2000)){Q:Exit→Act→World→Prop}
 (a:Act) (m:Nat) (hn:a.tmps.size=m) (hn':36≤m) (h0:a.tmps.getD 0 undef=.pointer (some ⟨b,0,none⟩)) (h3:a.tmps.getD 3 undef=.pointer (some ⟨X,0,none⟩)) (h4:a.tmps.getD 4 undef=.pointer (some ⟨C,0,none⟩))
 (hend:∀ ops vs w',vs 22=.slice ag N ac→vs 20=.pointer (some ⟨b,0,none⟩)→(fun v w=>∃ g,v=.slice (some ⟨g,0,none⟩) n1 n1∧w2.heap.size≤g∧Qc1 w g n1 (ps.map (Qar regs))) (vs 27) w'→Below w2.heap.size w2 w'→wpList Tryz.prog ops Q (Qc8 8 ((Tryz.f125.body.bind (Ql 3)).getD .skip)) (Ze a vs [20,21,22,23,24,25,26,27]) w') :
 Code.wp Tryz.prog ((Tryz.f125.body.bind (Ql 3)).getD .skip) Q a w2:=by
 conv=>arg 2;whnf
 refine Qw 8 (QlG w2 b X C N ac n1 d1 Kn rc ag rg p1 ps regs) (fun w=>Below w2.heap.size w2 w) (fun w w'=>Below w.heap.size w w') (outs:=[0,3,4]) (gs:=[]) (bs:=[true,true,true,true,true,true,true,true]) (by kernel_rfl) (n:=36) hn hn' (by kernel_rfl) (by kernel_rfl) ?hR ?hG (Qi (Below.refl _ _) 1) ⟨h0,h3,h4,trivial⟩ ?hA ?hend
 case hR =>
  intro t v w w' hr h;unfold QlG at h ⊢;split at h
  ·rename_i p hp
   simp only[List.lookup_cons,List.lookup_nil] at hp
   split at hp
   ·cases hp;exact(by obtain⟨g,e,h1,h2⟩:=h;exact⟨g,e,h1,h2.below hr⟩)
   ·cases hp
  ·exact h
 case hG=>exact trivial
 case hend=>exact fun ops vs w' hW hk=>hend ops vs w' (hk 22 (by kernel_rfl)) (hk 20 (by kernel_rfl)) (hk 27 (by kernel_rfl)) hW
 case hA =>
  refine⟨fun a w hW hk K hK=>?_,?_⟩
  ·obtain⟨k0,-⟩:=hk
   have k0:a.tmps.getD 0 undef=.pointer (some ⟨b,0,none⟩):=k0;go_simp;exact hK _ _ (Below.refl _ _) hW rfl
  refine⟨fun a w hW hk K hK=>?_,?_⟩
  ·obtain⟨k0,-⟩:=hk
   have k0:a.tmps.getD 3 undef=.pointer (some ⟨X,0,none⟩):=k0;go_simp;exact hK _ _ (Below.refl _ _) hW rfl
  refine⟨fun a w hW hk K hK=>?_,?_⟩
  ·obtain⟨k0,-⟩:=hk
   have k0:a.tmps.getD 21 undef=.pointer (some ⟨X,7,none⟩):=k0;have c0:=Qk x7 hW;go_simp;exact hK _ _ (Below.refl _ _) hW rfl
  refine⟨fun a w hW hk K hK=>?_,?_⟩
  ·obtain⟨k0,-⟩:=hk
   have k0:a.tmps.getD 4 undef=.pointer (some ⟨C,0,none⟩):=k0;go_simp;exact hK _ _ (Below.refl _ _) hW rfl
  refine⟨fun a w hW hk K hK=>?_,?_⟩
  ·obtain⟨k0,-⟩:=hk
   have k0:a.tmps.getD 23 undef=.pointer (some ⟨C,1,none⟩):=k0;have c0:=Qk e1 hW;go_simp;exact hK _ _ (Below.refl _ _) hW rfl
  refine⟨fun a w hW hk K hK=>?_,?_⟩
  ·obtain⟨k0,-⟩:=hk
   have k0:a.tmps.getD 3 undef=.pointer (some ⟨X,0,none⟩):=k0;go_simp;exact hK _ _ (Below.refl _ _) hW rfl
  refine⟨fun a w hW hk K hK=>?_,?_⟩
  ·obtain⟨k0,-⟩:=hk
   have k0:a.tmps.getD 25 undef=.pointer (some ⟨X,6,none⟩):=k0;have c0:=Qk x6 hW;go_simp;exact hK _ _ (Below.refl _ _) hW rfl
  refine⟨fun a w hW hk K hK=>?_,?_⟩
  ·obtain⟨k0,k1,-⟩:=hk
   have k0:a.tmps.getD 24 undef=.slice p1 n1 d1:=k0;have k1:a.tmps.getD 26 undef=.slice rg Kn rc:=k1;go_simp;refine Calls.mono (QbD HK.out HN1.out hn1 (Lay.below HR.out hW) (HP.out.below hW) HC.out) ?_;rintro r7 w7 ⟨g7,rfl,hg7,hm7,b7⟩;go_simp;exact hK _ _ b7 (hW.trans (b7.mono hW.size)) ⟨g7,rfl,Nat.le_trans hW.size hg7,hm7⟩
  trivial
theorem Qij {w:World}{b:Nat}{O A Q:Nat→Prop}{s:JSt}{x:Qv}{rg ag:Option Addr}{rc ac:Nat}(hA:∀ k,A k→k<w.heap.size) (hJ:JOk s) (h:SAt w b O A s) (hregs:intsL.In w Q x.regs [.slice rg x.regs.length rc]) (hargs:intsL.In w Q x.args [.slice ag x.args.length ac]) (hrc:x.regs.length≤rc) (hr6:x.regs.length≤6) (ha8:x.args.length≤8) (hk0:0≤x.k∧x.k<s.m.length) :
 Calls Tryz.prog 125 #[.pointer (some ⟨b,0,none⟩),QaR x rg ag rc ac] w fun e w'=>Zd w b O A s (s.callS x) (s.callC x) e w':=by
 obtain⟨op,xa,xb,xc,xk,xn,xr,xs⟩:=x
 simp only at hregs hargs hrc hr6 ha8 hk0
 have HJ:=Qa hJ;have H0:=Qa h;have HA:=Qa hA;have hL:=hJ.vals;have b1:=Q5 w (.cells #[.int .i64 op,.int .i64 xa,.int .i64 xb,.int .i64 xc,.int .i64 xk,.int .i64 xn,.slice rg xr.length rc,.slice ag xs.length ac] 59);have H:=Qa (h.below b1);have HR:Hid (intsL.In _ Q xr [.slice rg xr.length rc]):=Lay.below hregs b1;have HG:Hid (intsL.In _ Q xs [.slice ag xs.length ac]):=Lay.below hargs b1;have HB:=Qa b1;have X1:Hid (Blk (w.alloc (.cells #[.int .i64 op,.int .i64 xa,.int .i64 xb,.int .i64 xc,.int .i64 xk,.int .i64 xn,.slice rg xr.length rc,.slice ag xs.length ac] 59)) w.heap.size #[.int .i64 op,.int .i64 xa,.int .i64 xb,.int .i64 xc,.int .i64 xk,.int .i64 xn,.slice rg xr.length rc,.slice ag xs.length ac] 59):=Blk.new _ _ _;clear h hA hJ b1 hregs hargs;obtain⟨k,rfl⟩:=Int.eq_ofNat_of_zero_le hk0.1
 have hkm:k<s.m.length:=by omega
 have hgk:s.m[k]?=some s.m[k]:=List.getElem?_eq_getElem hkm;generalize s.m[k]=g at hgk;have HGM:Hid (g∈s.m):=List.mem_of_getElem? hgk
 have E:Hid (s.callC ⟨op,xa,xb,xc,(k:Int),xn,xr,xs⟩=code2 (Qcw s.H xr g.regs) (code2 (s.handC xs (g.params.map (Qar xr))) (Zp s.L.length g.results.length))):=by
  show _=_;unfold JSt.callC;simp only[Int.toNat_natCast,hgk]
 have ES:Hid (s.callS ⟨op,xa,xb,xc,(k:Int),xn,xr,xs⟩={ s with L:=s.L++g.results.map (Qar xr) }):=by
  show _=_;unfold JSt.callS;simp only[Int.toNat_natCast,hgk]
 have HGR:=Qa (HJ.out.mod.2 g HGM.out);have HNG:Hid (¬ Qe.great g):=fun hg=>HJ.out.tiny (.inr ⟨g,HGM.out,hg⟩);have HCP:Hid (∀ t∈g.params,t.count≤2000):=fun t ht=>Nat.le_of_not_lt fun hlt=>HNG.out (.inr (.inl (.inr ⟨t,ht,hlt⟩)));have HCR:Hid (∀ t∈g.results,t.count≤2000):=fun t ht=>Nat.le_of_not_lt fun hlt=>HNG.out (.inr (.inr (.inl (.inr ⟨t,ht,hlt⟩))));have HCV:Hid (∀ t∈s.L,t.count≤100000):=fun t ht=>Nat.le_trans (Q8 (HJ.out.types t ht)) (by omega);have hkn:(k:Int)<s.m.length:=by omega
 go_enter Tryz.func125,Tryz.ntmps125
 go_upto_region 1 with fail
 generalize w.alloc (.cells #[.int .i64 op,.int .i64 xa,.int .i64 xb,.int .i64 xc,.int .i64 (k:Int),.int .i64 xn,.slice rg xr.length rc,.slice ag xs.length ac] 59)=w1 at H HR HG HB X1 ⊢;obtain⟨X,hX⟩:∃ X,w.heap.size=X:=⟨_,rfl⟩
 rw[hX] at X1 ⊢
 clear hX;have x4:=Qb X1.out 4 _ rfl;have x6:=Qb X1.out 6 _ rfl;have x7:=Qb X1.out 7 _ rfl;obtain⟨pm,cm,hh,a1,c1,a2,c2,a3,c3,aL,cL,RR⟩:=H.out.read
 obtain⟨q0,-⟩:=RR.cells
 obtain⟨mg,mo,p1,d1,p2,d2,p3,d3,rfl,f0,f1,f2,f3,hP,hRs⟩:=Qcq RR.mod hgk
 have HPA:Hid ((Qp 6).In w1 (fun g=>¬ A g) g.params [.slice p1 g.params.length d1]):=hP;have HRE:Hid ((Qp 6).In w1 (fun g=>¬ A g) g.results [.slice p2 g.results.length d2]):=hRs;clear RR hP hRs hgk hk0;generalize s.m.length=nm at q0 hkm hkn;generalize hfr:g.regs=fr at f0 E;generalize hn1:g.params.length=n1 at f1 HPA;have HN1:=Qa hn1;generalize hn2:g.results.length=n2 at f2 HRE E;have HN2:=Qa hn2;generalize g.blocks.length=n3 at f3;have hn18:n1≤8:=by rw[← hn1];exact HGR.out.params.1
 have hn28:n2≤8:=by rw[← hn2];exact HGR.out.results.1
 clear hn1 hn2 hfr;refine jc1 q0 x4 f0 f1 f2 f3 hkn _ _ rfl (Nat.le_of_ble_eq_true (by kernel_rfl)) rfl rfl ?_;rintro ops vs w5 hv13 ⟨C,hv4,hC,hCb⟩ b5;show wpList _ ops _ [_] (Ze _ vs [5,6,7,8,9,10,11,12,13,4]) w5;simp only[Ze,Act.put,List.setIfInBounds_toArray,List.set_cons_zero,List.set_cons_succ,hv13,hv4]
 have e0:=Qb hCb 0 _ rfl;have e1:=Qb hCb 1 _ rfl;have e2:=Qb hCb 2 _ rfl;have e3:=Qb hCb 3 _ rfl;have ef:∀ i,w5.frozen? ⟨C,i,none⟩=false:=fun i=>Qt hCb i
 have B6:Hid (Blk ((((w5.setCell ⟨C,0,none⟩ (.int .i64 fr)).setCell ⟨C,1,none⟩ (.slice p1 n1 d1)).setCell ⟨C,2,none⟩ (.slice p2 n2 d2)).setCell ⟨C,3,none⟩ (.slice p3 n3 d3)) C #[.int .i64 fr,.slice p1 n1 d1,.slice p2 n2 d2,.slice p3 n3 d3] 55):=by
  have h3:=Qr (Qr (Qr (Qr hCb 0 (.int .i64 fr)) 1 (.slice p1 n1 d1)) 2 (.slice p2 n2 d2)) 3 (.slice p3 n3 d3);exact h3
 have b6:Hid (Below w1.heap.size w1 ((((w5.setCell ⟨C,0,none⟩ (.int .i64 fr)).setCell ⟨C,1,none⟩ (.slice p1 n1 d1)).setCell ⟨C,2,none⟩ (.slice p2 n2 d2)).setCell ⟨C,3,none⟩ (.slice p3 n3 d3))) :=
  (((b5.setCell (p:=⟨C,0,none⟩) hC _).setCell (p:=⟨C,1,none⟩) hC _).setCell (p:=⟨C,2,none⟩) hC _).setCell (p:=⟨C,3,none⟩) hC _
 clear hCb hC b5 hv13 hv4 q0 f0 f1 f2 f3;go_upto_region 2 with fail
 generalize ((((w5.setCell ⟨C,0,none⟩ (.int .i64 fr)).setCell ⟨C,1,none⟩ (.slice p1 n1 d1)).setCell ⟨C,2,none⟩ (.slice p2 n2 d2)).setCell ⟨C,3,none⟩ (.slice p3 n3 d3))=w6 at B6 b6 ⊢;clear e0 e1 e2 e3 ef;obtain⟨e0,e1,e2,e3⟩:=Qky B6.out
 have x6:=Qk x6 b6.out;have x7:=Qk x7 b6.out;have H6:=Qa (H.out.below b6.out);have HB6:=Qa (HB.out.trans (b6.out.mono HB.out.size));have HR6:Hid (intsL.In w6 Q xr [.slice rg xr.length rc]):=Lay.below HR.out b6.out;have HG6:Hid (intsL.In w6 Q xs [.slice ag xs.length ac]):=Lay.below HG.out b6.out;have HP6:Hid ((Qp 6).In w6 (fun g=>¬ A g) g.params [.slice p1 n1 d1]):=Lay.below HPA.out b6.out;have HE6:Hid ((Qp 6).In w6 (fun g=>¬ A g) g.results [.slice p2 n2 d2]):=Lay.below HRE.out b6.out;clear H HB HR HG HPA HRE b6 B6 X1 x4;obtain⟨K,hK⟩:∃ K,xr.length=K:=⟨_,rfl⟩
 have HK:=Qa hK;rw[hK] at x6 HR6 hrc hr6
 clear hK;obtain⟨N,hN⟩:∃ N,xs.length=N:=⟨_,rfl⟩
 have HN:=Qa hN;rw[hN] at x7 HG6 ha8
 clear hN;have CL:=Qa (Qea fr HK.out (by omega) hrc HR6.out H6.out);go_wp2_with fail
 refine CL.out.mono ?_;rintro e' w' ⟨hO,hw⟩;have hw:=hw.symm;subst hw;rcases hO with ⟨hc,y,rfl,hy⟩|⟨hc,rfl⟩
 rotate_left
 ·exact⟨rfl,Zd.bad (by rw[E.out,Qx hc]) hc (STo.of_below H0.out HB6.out)⟩
 subst hy;have E2:Hid (s.callC ⟨op,xa,xb,xc,(k:Int),xn,xr,xs⟩=code2 (s.handC xs (g.params.map (Qar xr))) (Zp s.L.length n2)):=by show _=_;rw[E.out,QK hc]
 clear hc CL E;go_upto_region 3 with fail
 refine jc3 x6 x7 e1 HK HN1 (by omega) HR6 (Qa (QM HP6.out).1) HCP _ _ rfl (Nat.le_of_ble_eq_true (by kernel_rfl)) rfl rfl rfl ?_;rintro ops vs w7 hv22 hv20 ⟨gP,hv27,hgP,hmP⟩ b7;show wpList _ ops _ [_] (Ze _ vs [20,21,22,23,24,25,26,27]) w7;simp only[Ze,Act.put,List.setIfInBounds_toArray,List.set_cons_zero,List.set_cons_succ,hv22,hv20,hv27]
 have H7:=Qa (H6.out.below b7);have HB7:=Qa (HB6.out.trans (b7.mono HB6.out.size))
 have CH:Hid (Calls Tryz.prog 132 #[.pointer (some ⟨b,0,none⟩),.slice ag N ac,.slice (some ⟨gP,0,none⟩) n1 n1] w7 fun e w'=>Qab (s.handC xs (g.params.map (Qar xr))) VNone e∧Below w7.heap.size w7 w') :=
  Qa9 HN.out (by omega) (by rw[List.length_map,HN1.out]) (by omega) (Lay.below HG6.out b7) hmP.lin hL HCV.out (fun k hk=>Nat.lt_of_lt_of_le (HA.out k (H0.out.sub k hk)) HB7.out.size) H7.out
 have HE7:Hid ((Qp 6).In w7 (fun g=>¬ A g) g.results [.slice p2 n2 d2]):=Lay.below HE6.out b7;have HR7:Hid (intsL.In w7 Q xr [.slice rg K rc]):=Lay.below HR6.out b7;have e2':=Qk e2 b7;have x6':=Qk x6 b7;clear hmP hgP b7 hv22 hv20 hv27 H6 HB6 HR6 HG6 HP6 HE6 e0 e1 e2 e3 x6 x7;go_wp2_with fail
 refine CH.out.mono ?_;rintro e' w8 ⟨hO,b8⟩;have H8:=Qa (H7.out.below b8);have HB8:=Qa (HB7.out.trans (b8.mono HB7.out.size));rcases hO with ⟨hc,y,rfl,hy⟩|⟨hc,rfl⟩
 rotate_left
 ·exact⟨rfl,Zd.bad (by rw[E2.out,Qx hc]) hc (STo.of_below H0.out HB8.out)⟩
 subst hy;have E3:Hid (s.callC ⟨op,xa,xb,xc,(k:Int),xn,xr,xs⟩=Zp s.L.length n2):=by show _=_;rw[E2.out,QK hc]
 have HE8:Hid ((Qp 6).In w8 (fun g=>¬ A g) g.results [.slice p2 n2 d2]):=Lay.below HE7.out b8;have HR8:Hid (intsL.In w8 Q xr [.slice rg K rc]):=Lay.below HR7.out b8;have e2'':=Qk e2' b8;have x6'':=Qk x6' b8;clear hc CH E2 b8 HE7 HR7 e2' x6' H7 HB7;have CR:=Qa (QbD (d:=d2) (c:=rc) HK.out HN2.out (by omega) HR8.out (QM HE8.out).1 HCR.out);go_wp2_with fail
 refine CR.out.mono ?_;rintro e' w9 ⟨gR,rfl,hgR,hmR,b9⟩;have HB9:=Qa (HB8.out.trans (b9.mono HB8.out.size))
 have CM:Hid (Calls Tryz.prog 120 #[.pointer (some ⟨b,0,none⟩),.slice (some ⟨gR,0,none⟩) n2 n2] w9 fun e w'=>Zd w b O A s (s.callS ⟨op,xa,xb,xc,(k:Int),xn,xr,xs⟩) (s.callC ⟨op,xa,xb,xc,(k:Int),xn,xr,xs⟩) e w'):=by
  rw[ES.out,E3.out]
  have hlen:(g.results.map (Qar xr)).length=n2:=by rw[List.length_map,HN2.out]
  refine(QaY hlen (by omega) (hmR.types hlen (fun y hy=>?_) (fun k hk e=>?_)) hL (fun k hk=>Nat.lt_of_lt_of_le (HA.out k hk) HB9.out.size) (H8.out.below b9)).mono (fun e w' hd=>hd.after HB9.out)
  ·obtain⟨t,ht,rfl⟩:=List.mem_map.1 hy
   exact Qki (QeE HR8.out) ((QM HE8.out).2 t ht)
  ·have h1:=HA.out k e;have h2:=HB8.out.size;omega
 clear hmR hgR b9 CR HE8 HR8 e2'' x6'' H8 HB8 E3;go_wp2_with fail
 refine CM.out.mono ?_;rintro e' w10 hd;have FF:=Qa hd;rcases hd with ⟨h1,rfl,h3⟩|⟨h1,rfl,h3⟩
 rotate_left
 ·exact⟨rfl,FF.out⟩
 clear h1 h3 CM;go_wp2
 exact bodyPost_end (v:=.tuple #[]) (by simp[results,Tryz.results125,go_sem]) rfl FF.out
def passC (H:List Bool) (kept:Int) (l:List Int) (asked:Int):Int:=if (l.length:Int)=asked then code2 (Qce kept.toNat l) (hPass H [] l) else 2
theorem QiW {n:Nat}{l:List Int}{k:Nat}(hk:k<n) (h:l.getD k 0≠(k:Int)):Qce n l=11:=by
 unfold Qce;rw[if_neg]
 intro e;rw[List.all_eq_true] at e
 have:=e k (List.mem_range.2 hk)
 exact h (by simpa using this)
theorem Qi4 {n:Nat}{l:List Int}(h:∀ k,k<n→l.getD k 0=(k:Int)):Qce n l=0:=by
 unfold Qce;rw[if_pos]
 rw[List.all_eq_true]
 intro k hk;exact decide_eq_true (h k (List.mem_range.1 hk))
theorem Qd8 {w:World}{b:Nat}{O A Q:Nat→Prop}{s:JSt}{l:List Int}{p:Option Addr}{N c:Nat}(asked:Int) (hN:l.length=N) (hN2:N≤100000) (hl:intsL.In w Q l [.slice p N c]) (hr0:0≤s.f.regs) (hra:s.f.regs≤asked) (h:SAt w b O A s) :
 Calls Tryz.prog 169 #[.pointer (some ⟨b,0,none⟩),.slice p N c,.int .i64 asked] w fun e w'=>Qab (passC s.H s.f.regs l asked) VNone e∧Below w.heap.size w w':=by
 have HL:=Qa hl;have HN:=Qa hN;obtain⟨pm,cm,hh,a1,c1,a2,c2,a3,c3,aL,cL,RR⟩:=h.read
 obtain⟨-,q1,q2,-⟩:=RR.cells
 have HH:=Qa RR.held;clear h hl hN RR;by_cases hNM:(N:Int)=asked
 rotate_left
 ·have hNM':((N:Int)==asked)=false:=by simpa using hNM
  have E:Hid (passC s.H s.f.regs l asked=2):=by show _=_;unfold passC;rw[HN.out,if_neg hNM]
  go_enter Tryz.func169,Tryz.ntmps169
  go_wp2_with fail
  refine(Zw _ 2).mono ?_
  rintro e' w' ⟨rfl,hw⟩;subst hw;exact⟨rfl,Qab.bad E.out (by decide),Below.refl _ _⟩
 subst hNM;have hNM':((N:Int)==(N:Int))=true:=by simp
 obtain⟨M,hM⟩:∃ M:Nat,s.f.regs=(M:Int):=Int.eq_ofNat_of_zero_le hr0
 have E:Hid (passC s.H s.f.regs l N=code2 (Qce M l) (hPass s.H [] l)):=by show _=_;unfold passC;rw[HN.out,if_pos rfl,hM];rfl
 rw[hM] at q2 hra
 have hMN:M≤N:=by omega
 have HMM:Hid (passC s.H s.f.regs l N=passC s.H s.f.regs l N):=rfl;clear hr0 hra HMM;generalize passC s.H s.f.regs l N=pc at E ⊢;clear hM;go_enter Tryz.func169,Tryz.ntmps169
 go_wp2_with (go_at_call 162;refine(Zu _ _).mono ?_;rintro e' w' ⟨rfl,hw⟩;have hw:=hw.symm;subst hw)
 go_loop [18] (fun i=>∃ k:Nat,k≤M∧i=.int .i64 k∧∀ j,j<k→l.getD j 0=(j:Int)) (fun i=>M - (intOf i).toNat)
 case atStart=>exact⟨0,Nat.zero_le _,rfl,fun j hj=>by omega⟩
 case round =>
  obtain⟨k,hk,rfl,hz⟩:=hrel
  have HZ:=Qa hz;clear hz;by_cases hlt:k<M
  ·have hlt':(k:Int)<M:=by omega
   have hlt2:(k:Int)<N:=by omega
   have hk2:k<l.length:=by rw[HN.out];omega
   obtain⟨g,o,rfl,-,hg,hc0⟩:=ZK HL.out hk2
   clear hk2;by_cases hy:l.getD k 0=(k:Int)
   ·have HY:=Qa hy;rw[hy] at hc0
    have hkk:((k:Int)==(k:Int))=true:=by simp
    clear hy;go_wp2_with (go_at_call 162;refine(Zu _ _).mono ?_;rintro e' w' ⟨rfl,hw⟩;have hw:=hw.symm;subst hw)
    go_round
    case rel =>
     refine⟨k+1,hlt,by go_num,fun j hj=>?_⟩
     rcases Nat.lt_or_ge j k with h | h
     ·exact HZ.out j h
     ·have:j=k:=by omega
      subst this;exact HY.out
    case measure=>simp[intOf];omega
   ·have E9:Hid (pc=11):=by show _=_;rw[E.out,QiW hlt hy];rfl
    have hyk:(l.getD k 0==(k:Int))=false:=by simpa using hy
    generalize l.getD k 0=y at hc0 hy hyk;clear hy;go_wp2_with fail
    refine(Zw _ 11).mono ?_
    rintro e' w' ⟨rfl,hw⟩;subst hw;exact⟨rfl,Qab.bad E9.out (by decide),Below.refl _ _⟩
  ·have hlt':¬ (k:Int)<M:=by omega
   have hkM:k=M:=by omega
   have E9:Hid (pc=hPass s.H [] l):=by show _=_;rw[E.out,Qi4 (fun j hj=>HZ.out j (by omega))];rfl
   have C:=Qa (Qih HN.out hN2 HL.out HH.out);generalize hPass s.H [] l=hp at E9 C;clear HZ hkM;by_cases h0:hp=0
   ·have h0':(hp==0)=true:=by simpa using h0
    subst h0;go_wp2_with (first | (go_at_call 203;refine(C.out).mono ?_;rintro e' w2 ⟨rfl,b2⟩;have BB:=Qa b2;clear b2) | (go_at_call 162;refine(Zu _ _).mono ?_;rintro e' w' ⟨rfl,hw⟩;have hw:=hw.symm;subst hw))
    exact bodyPost_end (v:=.tuple #[]) (by simp[results,Tryz.results169,go_sem]) rfl ⟨Qab.good E9.out rfl,BB.out⟩
   ·have h0':(hp==0)=false:=by simpa using h0
    have H0:=Qa h0;clear h0;go_wp2_with (go_at_call 203;refine(C.out).mono ?_;rintro e' w2 ⟨rfl,b2⟩;have BB:=Qa b2;clear b2)
    refine(Zw _ hp).mono ?_
    rintro e' w' ⟨rfl,hw⟩;subst hw;exact⟨rfl,Qab.bad E9.out H0.out,BB.out⟩
end Go.Proofs.YtacjnejckfhpoadGreat
namespace Go.Proofs.YtacjnejckfhpoadGreat
set_option linter.unusedSimpArgs false
set_option linter.unusedVariables false
theorem Qgt {s:JSt}{regs:List Int}{r:Int}(hz:∀ x∈regs,hHas s.H x=true) (hl:(regs.length:Int)=r){t:TT 6}(ht:t.check r=0):t.ren regs.length (fun i=>regs.getD i 0)=some (Qar regs t):=by
 obtain⟨u,hu,-⟩:=QfJ (m:=regs.length) (too:=fun i=>regs.getD i 0) (a:=r) (b:=s.H.length) (by omega) (fun i hi=>ZY (hz (regs.getD i 0) (by simp[List.getD,hi]))) ht
 unfold Qar;rw[hu]
 rfl
theorem QdG {s:JSt}{regs l:List Int}{ts us:List (TT 6)}(hl2:us.length=ts.length) (h:∀ (i:Nat) t u,ts[i]?=some t→us[i]?=some u→t.ren regs.length (fun i=>regs.getD i 0)=some u):s.handC l us=s.args l ts regs:=by
 unfold JSt.handC JSt.args;rw[hl2]
 by_cases hl:l.length=ts.length
 ·rw[if_pos hl,if_pos hl]
  refine Qbu (by rw[List.length_zip,List.length_zip,hl2]) (fun i p q hp hq=>?_);rw[List.getElem?_zip_eq_some] at hp hq
  obtain⟨h1,h2⟩:=hp
  obtain⟨h3,h4⟩:=hq
  rw[h1] at h3
  injection h3 with h3
  have hm:=h i q.2 p.2 h4 h2;show s.beC p.1 p.2=s.arg regs q.1 q.2;unfold JSt.beC JSt.arg;rw[← h3]
  cases s.at p.1 with
  | none=>rfl
  | some u =>
   show (if bdec (u=p.2) then (0:Int) else 9)=if bdec (q.2.ren regs.length (fun i=>regs.getD i 0)=some u) then 0 else 9
   rw[hm]
   have:bdec (u=p.2)=bdec (some p.2=some u):=Qen (by rw[ZC];exact⟨fun e=>by rw[e],fun e=>(Option.some.inj e).symm⟩)
   rw[this]
 ·rw[if_neg hl,if_neg hl]
theorem QeS {s:JSt}{regs l:List Int}{ts:List (TT 6)}(h:∀ t∈ts,t.ren regs.length (fun i=>regs.getD i 0)=some (Qar regs t)):s.handC l (ts.map (Qar regs))=s.args l ts regs :=
 QdG (by rw[List.length_map]) (fun i t u ht hu=>by
  rw[List.getElem?_map,ht] at hu
  injection hu with hu
  rw[← hu]
  exact h t (List.mem_of_getElem? ht))
theorem Qf8 {m:Nat}{too:Nat→Int}{a:Int}(ham:a≤m) (htoo:∀ i,i<m→too i=(i:Int)):{n:Nat}→{t:TT n}→t.fault a=0→t.ren m too=some t
 | 0,t,_=>Empty.elim t
 | n+1,t,h=>by
  obtain⟨h1,h2⟩:=TT.fault_zero h
  have hown:QaE m too t.1 t.2.1=some t.2.1:=by
   unfold ownC at h1;split at h1
   ·cases h1
   split at h1
   ·cases h1
   split at h1
   ·cases h1
   split at h1
   ·cases h1
   split at h1
   ·cases h1
   rename_i q1 q2 q3 q4 q5
   by_cases hk:t.1=1
   ·rw[QaE,if_pos hk]
   ·have:=htoo t.2.1.toNat (by omega)
    rw[QaE,if_neg hk,if_neg (by omega),if_neg (by omega),this]
    congr 1
    omega
  have hl:QcI (TT.ren m too) t.2.2=some t.2.2:=by
   generalize t.2.2=l at h2
   induction l with
   | nil=>rfl
   | cons x xs ih =>
    have hx:=Qf8 ham htoo (h2 x (by simp));have hxs:=ih (fun y hy=>h2 y (by simp[hy]));simp[QcI,hx,hxs]
  simp only[TT.ren,hown,hl]
  rfl
theorem Qex {H:List Bool}:∀ {rest ahead:List Int},hPass H ahead rest=0→∀ x∈rest,hHas H x=true
 | [],ahead,h,x,hx=>by cases hx
 | r::rest,ahead,h,x,hx=>by
  simp only[hPass] at h
  split at h
  ·rename_i hr
   split at h
   ·cases h
   ·rcases List.mem_cons.1 hx with rfl | hx
    ·exact hr
    ·exact Qex h x hx
  ·cases h
theorem Qlh {s:JSt}{k:Nat}{g:Qh 6}{xr xs:List Int}(hg:s.f.blocks[k]?=some g) (hp:∀ t∈g.params,t.check g.regs=0):s.to ⟨(k:Int),xr,xs⟩=code2 (passC s.H s.f.regs xr g.regs) (s.handC xs (g.params.map (Qar xr))):=by
 unfold JSt.to passC;simp only[Int.toNat_natCast,hg]
 by_cases hl:(xr.length:Int)=g.regs
 ·rw[if_pos hl,if_pos hl]
  by_cases h1:Qce s.f.regs.toNat xr=0
  ·rw[QK h1,QK h1]
   by_cases h2:hPass s.H [] xr=0
   ·rw[QK h2,QK h2,QeS (fun t ht=>Qgt (s:=s) (Qex h2) hl (hp t ht))]
   ·rw[Qx h2,Qx h2]
  ·rw[Qx h1,Qx h1];rw[Qx h1]
 ·rw[if_neg hl,if_neg hl];rfl
theorem QkM {s:JSt}{l:List Int}{n:Nat}(hn:s.f.regs=(n:Int)) (hr:∀ t∈s.f.results,t.check s.f.regs=0):s.handC l s.f.results=s.args l s.f.results (Qbo s.f.regs.toNat) :=
 QdG rfl (fun i t u ht hu=>by
  rw[ht] at hu
  injection hu with hu
  rw[← hu,hn,Int.toNat_natCast]
  have:=hr t (List.mem_of_getElem? ht)
  refine Qf8 (a:=s.f.regs) (by rw[hn];unfold Qbo;simp) (fun i hi=>?_) (Zl.1 this).2;unfold Qbo at hi ⊢;simp at hi
  simp[List.getD,hi])
end Go.Proofs.YtacjnejckfhpoadGreat
namespace Go.Proofs.YtacjnejckfhpoadGreat
open Go.ChangeShapes Go.WideShapes Go.ChangeAt Go.RowKit
set_option linter.unusedSimpArgs false
set_option linter.unusedVariables false
theorem QiQ {w:World}{b:Nat}{O A Q:Nat→Prop}{s:JSt}{x:Qv}{rg ag:Option Addr}{rc ac:Nat}(hA:∀ k,A k→k<w.heap.size) (hJ:JOk s) (h:SAt w b O A s) (hregs:intsL.In w Q x.regs [.slice rg x.regs.length rc]) (hargs:intsL.In w Q x.args [.slice ag x.args.length ac]) (hrc:x.regs.length≤rc) (hrng:ZE x) (hf:x.form s.m.length=0) (hop:x.op=14) :
 Calls Tryz.prog 71 #[.pointer (some ⟨b,0,none⟩),QaR x rg ag rc ac] w fun e w'=>Zd w b O A s (s.next x) (s.goC x) e w':=by
 have hE:=QbK (s:=s) hop;obtain⟨op,xa,xb,xc,xk,xn,xr,xs⟩:=x
 have hop:op=14:=hop;subst hop;have HE:=Qa hE;obtain⟨f1,f2,f3,-⟩:=Zh hf
 have HF:=Qa (And.intro f1 (And.intro f2 f3));obtain⟨ra,rb,rcc⟩:=hrng
 have HI:=Qa (And.intro ra (And.intro rb rcc));have HJ:=Qa hJ;have H0:=Qa h;have HA0:=Qa hA;have hL:=hJ.vals;have b1:=Q5 w (.cells #[.int .i64 14,.int .i64 xa,.int .i64 xb,.int .i64 xc,.int .i64 xk,.int .i64 xn,.slice rg xr.length rc,.slice ag xs.length ac] 59);have H:=Qa (h.below b1);have HR:Hid (intsL.In _ Q xr [.slice rg xr.length rc]):=Lay.below hregs b1;have HG:Hid (intsL.In _ Q xs [.slice ag xs.length ac]):=Lay.below hargs b1;have HB:=Qa b1;have HA:=Qa (fun k hk=>Nat.lt_of_lt_of_le (hA k hk) b1.size);have HO:=Qa (fun k hk=>Nat.lt_of_lt_of_le (hA k (h.sub k hk)) b1.size);have X1:Hid (Blk (w.alloc (.cells #[.int .i64 14,.int .i64 xa,.int .i64 xb,.int .i64 xc,.int .i64 xk,.int .i64 xn,.slice rg xr.length rc,.slice ag xs.length ac] 59)) w.heap.size #[.int .i64 14,.int .i64 xa,.int .i64 xb,.int .i64 xc,.int .i64 xk,.int .i64 xn,.slice rg xr.length rc,.slice ag xs.length ac] 59):=Blk.new _ _ _;have HRC:Hid (xr.length≤rc):=hrc;clear h hA hJ b1 hregs hargs hE hf f1 f2 f3 ra rb rcc hrc;go_enter Tryz.func71,Tryz.ntmps71
 go_upto_region 1 with fail
 generalize w.alloc (.cells #[.int .i64 14,.int .i64 xa,.int .i64 xb,.int .i64 xc,.int .i64 xk,.int .i64 xn,.slice rg xr.length rc,.slice ag xs.length ac] 59)=w1 at H HR HG HB HA HO X1 ⊢;obtain⟨X,hX⟩:∃ X,w.heap.size=X:=⟨_,rfl⟩
 rw[hX] at X1 ⊢
 clear hX;have x0:=Qb X1.out 0 _ rfl;have x1:=Qb X1.out 1 _ rfl;have x2:=Qb X1.out 2 _ rfl;have x3:=Qb X1.out 3 _ rfl;have x4:=Qb X1.out 4 _ rfl;have x6:=Qb X1.out 6 _ rfl;have x7:=Qb X1.out 7 _ rfl
 have HE2:Hid (∀ e w9,Zd w b O A s (s.callS ⟨14,xa,xb,xc,xk,xn,xr,xs⟩) (s.callC ⟨14,xa,xb,xc,xk,xn,xr,xs⟩) e w9→Zd w b O A s (s.next ⟨14,xa,xb,xc,xk,xn,xr,xs⟩) (s.goC ⟨14,xa,xb,xc,xk,xn,xr,xs⟩) e w9):=fun e w9 hd=>(by
  have hk:=HF.out.2.1 rfl;obtain⟨k,hxk⟩:=Int.eq_ofNat_of_zero_le hk.1
  have hxk:xk=(k:Int):=hxk;subst hxk;have hkl:k<s.m.length:=by have:=hk.2.1;omega
  have hgk:s.m[k]?=some s.m[k]:=List.getElem?_eq_getElem hkl;generalize s.m[k]=g at hgk;have hgm:g∈s.m:=List.mem_of_getElem? hgk;have hgr:=HJ.out.mod.2 g hgm;have e1:s.callC ⟨14,xa,xb,xc,(k:Int),xn,xr,xs⟩=code2 (Qcw s.H xr g.regs) (code2 (s.handC xs (g.params.map (Qar xr))) (Zp s.L.length g.results.length)):=by unfold JSt.callC;simp only[Int.toNat_natCast,hgk]
  have e2:s.makes ⟨14,xa,xb,xc,(k:Int),xn,xr,xs⟩=if (xr.length:Int)=g.regs then (code2 (QD s.H [] xr) (s.args xs g.params xr),g.results.map (Qar xr)) else (2,[]):=by rw[HE.out];simp only[Int.toNat_natCast,hgk]
  have key:s.goC ⟨14,xa,xb,xc,(k:Int),xn,xr,xs⟩=s.callC ⟨14,xa,xb,xc,(k:Int),xn,xr,xs⟩:=by
   rw[e1]
   unfold JSt.goC Qcw;rw[e2]
   by_cases hl:(xr.length:Int)=g.regs
   ·rw[if_pos hl,if_pos hl]
    by_cases hz:QD s.H [] xr=0
    ·rw[QeS (fun t ht=>Qgt (s:=s) (Qas hz) hl (hgr.params.2 t ht)),QK hz,List.length_map,QK hz]
    ·rw[Qx hz,Qx hz,Qx hz]
   ·rw[if_neg hl,if_neg hl];rfl
  refine hd.to key (fun h0=>?_);rw[Zk (by simp) (by simp),e2]
  unfold JSt.callS;simp only[Int.toNat_natCast,hgk]
  rw[e1] at h0
  unfold Qcw at h0;by_cases hl:(xr.length:Int)=g.regs
  ·rw[if_pos hl]
  ·rw[if_neg hl] at h0;cases h0)
 have CM:=Qa (Qij (x:=⟨14,xa,xb,xc,xk,xn,xr,xs⟩) HA.out HJ.out H.out HR.out HG.out HRC.out (HF.out.2.1 rfl).2.2.1 (HF.out.2.1 rfl).2.2.2 ⟨(HF.out.2.1 rfl).1,(HF.out.2.1 rfl).2.1⟩);have x5:=Qb X1.out 5 _ rfl;go_wp2_with fail
 refine CM.out.mono ?_;rintro e' w9 hd;have FF:Hid (Zd w b O A s (s.next ⟨14,xa,xb,xc,xk,xn,xr,xs⟩) (s.goC ⟨14,xa,xb,xc,xk,xn,xr,xs⟩) e' w9):=HE2.out _ _ (hd.after HB.out);rcases hd with ⟨h1,rfl,h3⟩|⟨h1,rfl,h3⟩
 rotate_left
 ·exact⟨rfl,FF.out⟩
 clear h1 h3 CM;go_wp2
 exact bodyPost_end (v:=.tuple #[]) (by simp[results,Tryz.results71,go_sem]) rfl FF.out
theorem Qkl {w:World}{b:Nat}{O A Q:Nat→Prop}{s:JSt}{x:Qv}{rg ag:Option Addr}{rc ac:Nat}(hA:∀ k,A k→k<w.heap.size) (hJ:JOk s) (h:SAt w b O A s) (hregs:intsL.In w Q x.regs [.slice rg x.regs.length rc]) (hargs:intsL.In w Q x.args [.slice ag x.args.length ac]) (hrc:x.regs.length≤rc) (hrng:ZE x) (hf:x.form s.m.length=0) (hop:x.op=6) :
 Calls Tryz.prog 71 #[.pointer (some ⟨b,0,none⟩),QaR x rg ag rc ac] w fun e w'=>Zd w b O A s (s.next x) (s.goC x) e w':=by
 have hE:=QbZ (s:=s) hop;obtain⟨op,xa,xb,xc,xk,xn,xr,xs⟩:=x
 have hop:op=6:=hop;subst hop;have HE:=Qa hE;obtain⟨f1,f2,f3,-⟩:=Zh hf
 have HF:=Qa (And.intro f1 (And.intro f2 f3));obtain⟨ra,rb,rcc⟩:=hrng
 have HI:=Qa (And.intro ra (And.intro rb rcc));have HJ:=Qa hJ;have H0:=Qa h;have HA0:=Qa hA;have hL:=hJ.vals;have b1:=Q5 w (.cells #[.int .i64 6,.int .i64 xa,.int .i64 xb,.int .i64 xc,.int .i64 xk,.int .i64 xn,.slice rg xr.length rc,.slice ag xs.length ac] 59);have H:=Qa (h.below b1);have HR:Hid (intsL.In _ Q xr [.slice rg xr.length rc]):=Lay.below hregs b1;have HG:Hid (intsL.In _ Q xs [.slice ag xs.length ac]):=Lay.below hargs b1;have HB:=Qa b1;have HA:=Qa (fun k hk=>Nat.lt_of_lt_of_le (hA k hk) b1.size);have HO:=Qa (fun k hk=>Nat.lt_of_lt_of_le (hA k (h.sub k hk)) b1.size);have X1:Hid (Blk (w.alloc (.cells #[.int .i64 6,.int .i64 xa,.int .i64 xb,.int .i64 xc,.int .i64 xk,.int .i64 xn,.slice rg xr.length rc,.slice ag xs.length ac] 59)) w.heap.size #[.int .i64 6,.int .i64 xa,.int .i64 xb,.int .i64 xc,.int .i64 xk,.int .i64 xn,.slice rg xr.length rc,.slice ag xs.length ac] 59):=Blk.new _ _ _;have HRC:Hid (xr.length≤rc):=hrc;clear h hA hJ b1 hregs hargs hE hf f1 f2 f3 ra rb rcc hrc;go_enter Tryz.func71,Tryz.ntmps71
 go_upto_region 1 with fail
 generalize w.alloc (.cells #[.int .i64 6,.int .i64 xa,.int .i64 xb,.int .i64 xc,.int .i64 xk,.int .i64 xn,.slice rg xr.length rc,.slice ag xs.length ac] 59)=w1 at H HR HG HB HA HO X1 ⊢;obtain⟨X,hX⟩:∃ X,w.heap.size=X:=⟨_,rfl⟩
 rw[hX] at X1 ⊢
 clear hX;have x0:=Qb X1.out 0 _ rfl;have x1:=Qb X1.out 1 _ rfl;have x2:=Qb X1.out 2 _ rfl;have x3:=Qb X1.out 3 _ rfl;have x4:=Qb X1.out 4 _ rfl;have x6:=Qb X1.out 6 _ rfl;have x7:=Qb X1.out 7 _ rfl;obtain⟨k,hxk⟩:=Int.eq_ofNat_of_zero_le (HF.out.1 (by simp)).1
 have hxk:xk=(k:Int):=hxk;subst hxk;have hk7:k≤7:=by have:=(HF.out.1 (by simp)).2;simp only at this;omega
 have EG:Hid (s.goC ⟨6,xa,xb,xc,(k:Int),xn,xr,xs⟩=code2 (s.fieldC xa k) (Zp s.L.length 1)):=by
  show _=_;unfold JSt.goC JSt.fieldC;rw[HE.out]
  simp only[Int.toNat_natCast]
  cases ha:s.at xa with
  | none=>unfold JSt.want;rw[ha];rfl
  | some t =>
   simp only
   by_cases hw:s.want xa 3 true=0
   ·rw[if_pos hw,QK hw]
    by_cases hk:k<t.2.2.length
    ·rw[List.getElem?_eq_getElem hk,if_pos hk];rfl
    ·rw[List.getElem?_eq_none (by omega),if_neg hk];rfl
   ·rw[if_neg hw,Qx hw];rw[Qx hw,Qx hw]
 have C1:=Qa (QdO xa k (by omega) hL HO.out H.out);go_wp2_with fail
 refine(C1.out ).mono ?_
 rintro e' w2 ⟨hq,b2⟩;have HB2:=Qa (HB.out.trans (b2.mono HB.out.size));have H2:=Qa (H.out.below b2);have HA2:=Qa (fun k hk=>Nat.lt_of_lt_of_le (HA.out k hk) b2.size);have HO2:=Qa (fun k hk=>Nat.lt_of_lt_of_le (HO.out k hk) b2.size);rcases hq with ⟨hc,y2,rfl,hy⟩|⟨hc,rfl⟩
 rotate_left
 ·exact⟨rfl,Zd.bad ((fun hc=>by rw[EG.out,Qx hc]) hc) hc (STo.of_below H0.out HB2.out)⟩
 have HC2:=Qa hc;clear hc b2 C1;obtain⟨t,u,p,c,ha,hu,rfl,hui⟩:=hy
 have hh5:=TT.height_lt u;have h5:u.height≤5:=by omega
 have hchk:t.check s.H.length=0:=HJ.out.types t (QaW ha).1
 have huok:u.ok:=by
  obtain⟨pm,cm,hh,a1,c1,a2,c2,a3,c3,aL,cL,RR⟩:=H0.out.read
  obtain⟨-,hn,-,hti⟩:=QaW ha
  obtain⟨g,a',c',e,-,-,-,-,hok⟩:=RR.row _ t hti
  exact hok.2 u (List.mem_of_getElem? hu)
 have HS:Hid (s.next ⟨6,xa,xb,xc,(k:Int),xn,xr,xs⟩={ s with L:=s.L++[u.at 5] }):=by
  show _=_;rw[Zk (by simp) (by simp),HE.out]
  have hw:s.want xa 3 true=0:=by
   have:=HC2.out
   unfold JSt.fieldC at this;exact(Qaw this).1
  simp only[Int.toNat_natCast,ha,if_pos hw,hu]
 have HE2:Hid (∀ e w9,Zd w b O A s { s with L:=s.L++[u.at 5] } (Zp s.L.length 1) e w9→Zd w b O A s (s.next ⟨6,xa,xb,xc,(k:Int),xn,xr,xs⟩) (s.goC ⟨6,xa,xb,xc,(k:Int),xn,xr,xs⟩) e w9):=fun e w9 hd=>hd.to (by rw[EG.out,QK HC2.out]) (fun _=>HS.out)
 have CM:Hid (∀ d,Calls Tryz.prog 120 #[.pointer (some ⟨b,0,none⟩),.slice (some ⟨w2.heap.size,0,none⟩) 1 d] (w2.alloc (.cells #[.int .i64 u.kind,.int .i64 u.r,.slice p u.len c] 79)) fun e w'=>Zd w2 b O A s { s with L:=s.L++[u.at 5] } (Zp s.L.length 1) e w'):=fun d=>by
  have b1:=Q5 w2 (.cells #[.int .i64 u.kind,.int .i64 u.r,.slice p u.len c] 79);have hrow:=Qef (t:=u.at 5) (p:=p) (c:=c) (d:=d) HA2.out (TIn.at 5 h5 hui) (TT.at_ok 5 huok);rw[TT.at_kind,TT.at_r,TT.at_len 5 _ h5] at hrow
  exact(QaY (l:=[u.at 5]) rfl (by simp) hrow hL (fun k hk=>Nat.lt_of_lt_of_le (HA2.out k hk) b1.size) (H2.out.below b1)).mono (fun e w' hd=>hd.after b1)
 clear ha hu hui hh5 h5 hchk huok HS EG;simp only[Tv]
 go_wp2_with fail
 refine(CM.out _).mono ?_
 rintro e' w9 hd;have FF:Hid (Zd w b O A s (s.next ⟨6,xa,xb,xc,(k:Int),xn,xr,xs⟩) (s.goC ⟨6,xa,xb,xc,(k:Int),xn,xr,xs⟩) e' w9):=HE2.out _ _ (hd.after HB2.out);rcases hd with ⟨h1,rfl,h3⟩|⟨h1,rfl,h3⟩
 rotate_left
 ·exact⟨rfl,FF.out⟩
 clear h1 h3 CM;go_wp2
 exact bodyPost_end (v:=.tuple #[]) (by simp[results,Tryz.results71,go_sem]) rfl FF.out
theorem Qkc {w:World}{b:Nat}{O A Q:Nat→Prop}{s:JSt}{x:Qv}{rg ag:Option Addr}{rc ac:Nat}(hA:∀ k,A k→k<w.heap.size) (hJ:JOk s) (h:SAt w b O A s) (hregs:intsL.In w Q x.regs [.slice rg x.regs.length rc]) (hargs:intsL.In w Q x.args [.slice ag x.args.length ac]) (hrc:x.regs.length≤rc) (hrng:ZE x) (hf:x.form s.m.length=0) (hop:x.op=7) :
 Calls Tryz.prog 71 #[.pointer (some ⟨b,0,none⟩),QaR x rg ag rc ac] w fun e w'=>Zd w b O A s (s.next x) (s.goC x) e w':=by
 have hE:=Qcc (s:=s) hop;obtain⟨op,xa,xb,xc,xk,xn,xr,xs⟩:=x
 have hop:op=7:=hop;subst hop;have HE:=Qa hE;obtain⟨f1,f2,f3,-⟩:=Zh hf
 have HF:=Qa (And.intro f1 (And.intro f2 f3));obtain⟨ra,rb,rcc⟩:=hrng
 have HI:=Qa (And.intro ra (And.intro rb rcc));have HJ:=Qa hJ;have H0:=Qa h;have HA0:=Qa hA;have hL:=hJ.vals;have b1:=Q5 w (.cells #[.int .i64 7,.int .i64 xa,.int .i64 xb,.int .i64 xc,.int .i64 xk,.int .i64 xn,.slice rg xr.length rc,.slice ag xs.length ac] 59);have H:=Qa (h.below b1);have HR:Hid (intsL.In _ Q xr [.slice rg xr.length rc]):=Lay.below hregs b1;have HG:Hid (intsL.In _ Q xs [.slice ag xs.length ac]):=Lay.below hargs b1;have HB:=Qa b1;have HA:=Qa (fun k hk=>Nat.lt_of_lt_of_le (hA k hk) b1.size);have HO:=Qa (fun k hk=>Nat.lt_of_lt_of_le (hA k (h.sub k hk)) b1.size);have X1:Hid (Blk (w.alloc (.cells #[.int .i64 7,.int .i64 xa,.int .i64 xb,.int .i64 xc,.int .i64 xk,.int .i64 xn,.slice rg xr.length rc,.slice ag xs.length ac] 59)) w.heap.size #[.int .i64 7,.int .i64 xa,.int .i64 xb,.int .i64 xc,.int .i64 xk,.int .i64 xn,.slice rg xr.length rc,.slice ag xs.length ac] 59):=Blk.new _ _ _;have HRC:Hid (xr.length≤rc):=hrc;clear h hA hJ b1 hregs hargs hE hf f1 f2 f3 ra rb rcc hrc;go_enter Tryz.func71,Tryz.ntmps71
 go_upto_region 1 with fail
 generalize w.alloc (.cells #[.int .i64 7,.int .i64 xa,.int .i64 xb,.int .i64 xc,.int .i64 xk,.int .i64 xn,.slice rg xr.length rc,.slice ag xs.length ac] 59)=w1 at H HR HG HB HA HO X1 ⊢;obtain⟨X,hX⟩:∃ X,w.heap.size=X:=⟨_,rfl⟩
 rw[hX] at X1 ⊢
 clear hX;have x0:=Qb X1.out 0 _ rfl;have x1:=Qb X1.out 1 _ rfl;have x2:=Qb X1.out 2 _ rfl;have x3:=Qb X1.out 3 _ rfl;have x4:=Qb X1.out 4 _ rfl;have x6:=Qb X1.out 6 _ rfl;have x7:=Qb X1.out 7 _ rfl;obtain⟨k,hxk⟩:=Int.eq_ofNat_of_zero_le (HF.out.1 (by simp)).1
 have hxk:xk=(k:Int):=hxk;subst hxk;have hk7:k≤7:=by have:=(HF.out.1 (by simp)).2;simp only at this;omega
 have EG:Hid (s.fieldC xa k≠0→s.goC ⟨7,xa,xb,xc,(k:Int),xn,xr,xs⟩=s.fieldC xa k):=fun hne=>by
  unfold JSt.goC;rw[HE.out]
  unfold JSt.fieldC at hne ⊢;simp only[Int.toNat_natCast]
  cases ha:s.at xa with
  | none=>unfold JSt.want;rw[ha];rfl
  | some t =>
   rw[ha] at hne
   simp only at hne ⊢
   by_cases hw:s.want xa 3 true=0
   ·rw[QK hw] at hne ⊢
    rw[if_pos hw]
    by_cases hk:k<t.2.2.length
    ·rw[if_pos hk] at hne;exact absurd rfl hne
    ·rw[List.getElem?_eq_none (by omega),if_neg hk];rfl
   ·rw[if_neg hw,Qx hw,Qx hw]
 have EG2:Hid (∀ t u,s.fieldC xa k=0→s.at xa=some t→t.2.2[k]?=some u→s.goC ⟨7,xa,xb,xc,(k:Int),xn,xr,xs⟩=s.beC xb (u.at 5)∧s.next ⟨7,xa,xb,xc,(k:Int),xn,xr,xs⟩=s):=fun t u h0 ha hu=>by
  have hw:s.want xa 3 true=0:=by
   unfold JSt.fieldC at h0;exact(Qaw h0).1
  rw[Zk (by simp) (by simp)]
  unfold JSt.goC JSt.beC;rw[HE.out]
  simp only[Int.toNat_natCast,ha,if_pos hw,hu]
  cases s.at xb with
  | none=>exact⟨rfl,by simp⟩
  | some v =>
   simp only
   have e:bdec (u.at 5=v)=bdec (v=u.at 5):=Qen (by rw[ZC];exact⟨fun e=>e.symm,fun e=>e.symm⟩);rw[e]
   cases bdec (v=u.at 5) with
   | true=>exact⟨by show code2 0 (Zp s.L.length 0)=_;rw[Qch hL];rfl,by simp⟩
   | false=>exact⟨rfl,by simp⟩
 have HCV:Hid (∀ t∈s.L,t.count≤100000):=fun t ht=>Nat.le_trans (Q8 (HJ.out.types t ht)) (by omega);go_upto_region 17 with fail
 have BD:Hid (Below w1.heap.size w1 w1.drew):=QbP (Below.refl _ _);have C1:Hid (Calls Tryz.prog 121 #[.pointer (some ⟨b,0,none⟩),.int .i64 xa,.int .i64 k] w1.drew fun e w'=>Qab (s.fieldC xa k) (QlB w' A s xa k) e∧Below w1.drew.heap.size w1.drew w'):=QdO xa k (by omega) hL HO.out (H.out.below BD.out)
 have DM:Hid (∀ (u:TT 5) (p:Option Addr) (c:Nat) (wx:World),TIn wx (fun g=>¬ A g) u p→SAt wx b O A s→(∀ k,O k→k<wx.heap.size)→Calls Tryz.prog 122 #[.pointer (some ⟨b,0,none⟩),.int .i64 xb,.agg #[.int .i64 u.kind,.int .i64 u.r,.slice p u.len c]] wx fun e w'=>Qab (s.beC xb (u.at 5)) VNone e∧Below wx.heap.size wx w'):=fun u p c wx hu hs ho=>by
  have h5:u.height≤5:=by have:=TT.height_lt u;omega
  have:=Qdo (s:=s) xb (t:=u.at 5) (p:=p) (c:=c) (TIn.at 5 h5 hu) hL HCV.out ho hs
  rw[show Tv (u.at 5) p c=.agg #[.int .i64 u.kind,.int .i64 u.r,.slice p u.len c] by simp only[Tv,TT.at_kind,TT.at_r,TT.at_len 5 _ h5]] at this
  exact this
 go_region_with (first
  | (go_at_call 121;refine(C1.out).mono ?_;rintro e' w2 ⟨hq,b2⟩;have HB2:=Qa (HB.out.trans ((ZN b2).mono HB.out.size));rcases hq with ⟨hc,y2,rfl,t,u,p,c,ha,hu,rfl,hui⟩|⟨hc,rfl⟩;rotate_left;exact⟨rfl,Zd.bad (EG.out hc) hc (STo.of_below H0.out HB2.out)⟩;have x2':=Qk x2 (ZN b2);have H2:=Qa (H.out.below (ZN b2));have HO2:=Qa (fun k hk=>Nat.lt_of_lt_of_le (HO.out k hk) (ZN b2).size);have HU:=Qa hui;have HEE:=Qa (EG2.out t u hc ha hu);clear hui ha hu hc b2)
  | (go_at_call 122;refine(DM.out _ _ _ _ HU.out H2.out HO2.out).mono ?_;rintro e' w3 ⟨hq,b3⟩;have HB3:=Qa (HB2.out.trans (b3.mono HB2.out.size));rcases hq with ⟨hc,y3,rfl,hy⟩|⟨hc,rfl⟩;rotate_left;exact⟨rfl,Zd.bad HEE.out.1 hc (STo.of_below H0.out HB3.out)⟩;subst hy;have HC3:=Qa hc;clear hc b3))
 all_goals
  have FF:Hid (Zd w b O A s (s.next ⟨7,xa,xb,xc,(k:Int),xn,xr,xs⟩) (s.goC ⟨7,xa,xb,xc,(k:Int),xn,xr,xs⟩) (.returned (.tuple #[])) w3):=Zd.none H0.out HB3.out (by rw[HEE.out.1,HC3.out]) HEE.out.2;go_wp2
  exact bodyPost_end (v:=.tuple #[]) (by simp[results,Tryz.results71,go_sem]) rfl FF.out
def QlA (w6:World) (b X mg mo nb cb k:Nat) (ds:List Value) (t:Tmp) (v:Value) (w:World):Prop :=
 match ([(4,fun v w=>∃ B,v=.pointer (some ⟨B,0,none⟩)∧w6.heap.size≤B∧∃ c,c.size=12∧Blk w B c 84)]:List (Tmp × (Value→World→Prop))).lookup t with
 | some p=>p v w
 | none=>v=(([(0,.pointer (some ⟨b,0,none⟩)),(3,.pointer (some ⟨X,0,none⟩)),(5,.pointer (some ⟨b,0,none⟩)),(6,.pointer (some ⟨b,0,none⟩)),(7,.pointer (some ⟨b,2,none⟩)),(8,.pointer (some ⟨b,5,none⟩)),(9,.slice (some ⟨mg,mo,none⟩) nb cb),(10,.pointer (some ⟨X,0,none⟩)),(11,.int .i64 (k:Int)),(12,.pointer (some ⟨mg,mo+k*12,none⟩)),(13,.agg ds.toArray)]:List (Tmp × Value)).lookup t).getD undef
theorem jt1 {w6:World}{b X mg mo nb cb k:Nat}{ds:List Value}(y0:w6.cell? ⟨b,5,none⟩=some (.slice (some ⟨mg,mo,none⟩) nb cb)) (z0:w6.cell? ⟨X,0,none⟩=some (.int .i64 (k:Int))) (HD:Hid (w6.rangeAt mg (mo+k*12) ds)) (hdl:ds.length=12) (hkn:(k:Int)<nb){Q:Exit→Act→World→Prop}
 (a:Act) (m:Nat) (hn:a.tmps.size=m) (hn':29≤m) (h0:a.tmps.getD 0 undef=.pointer (some ⟨b,0,none⟩)) (h3:a.tmps.getD 3 undef=.pointer (some ⟨X,0,none⟩))
 (hend:∀ ops vs w',vs 13=.agg ds.toArray→(fun v w=>∃ B,v=.pointer (some ⟨B,0,none⟩)∧w6.heap.size≤B∧∃ c,c.size=12∧Blk w B c 84) (vs 4) w'→Below w6.heap.size w6 w'→wpList Tryz.prog ops Q (Qc8 10 ((Tryz.f131.body.bind (Ql 1)).getD .skip)) (Ze a vs [5,6,7,8,9,10,11,12,13,4]) w') :
 Code.wp Tryz.prog ((Tryz.f131.body.bind (Ql 1)).getD .skip) Q a w6:=by
 conv=>arg 2;whnf
 refine Qw 10 (QlA w6 b X mg mo nb cb k ds) (fun w=>Below w6.heap.size w6 w) (fun w w'=>Below w.heap.size w w') (outs:=[0,3]) (gs:=[]) (bs:=[true,true,true,true,true,true,true,true,true,true]) (by kernel_rfl) (n:=29) hn hn' (by kernel_rfl) (by kernel_rfl) ?hR ?hG (Qi (Below.refl _ _) 1) ⟨h0,h3,trivial⟩ ?hA ?hend
 case hR =>
  intro t v w w' hr h;unfold QlA at h ⊢;split at h
  ·rename_i p hp
   simp only[List.lookup_cons,List.lookup_nil] at hp
   split at hp
   ·cases hp;exact(by obtain⟨B,e,h1,c,h3,h2⟩:=h;exact⟨B,e,h1,c,h3,(hr.block B (lt_of_block h2)).trans h2⟩)
   ·cases hp
  ·exact h
 case hG=>exact trivial
 case hend=>exact fun ops vs w' hW hk=>hend ops vs w' (hk 13 (by kernel_rfl)) (hk 4 (by kernel_rfl)) hW
 case hA =>
  refine⟨fun a w hW hk K hK=>?_,?_⟩
  ·obtain⟨k0,-⟩:=hk
   have k0:a.tmps.getD 0 undef=.pointer (some ⟨b,0,none⟩):=k0;go_simp;exact hK _ _ (Below.refl _ _) hW rfl
  refine⟨fun a w hW hk K hK=>?_,?_⟩
  ·obtain⟨k0,-⟩:=hk
   have k0:a.tmps.getD 5 undef=.pointer (some ⟨b,0,none⟩):=k0;go_simp;exact hK _ _ (Below.refl _ _) hW rfl
  refine⟨fun a w hW hk K hK=>?_,?_⟩
  ·obtain⟨k0,-⟩:=hk
   have k0:a.tmps.getD 6 undef=.pointer (some ⟨b,0,none⟩):=k0;go_simp;exact hK _ _ (Below.refl _ _) hW rfl
  refine⟨fun a w hW hk K hK=>?_,?_⟩
  ·obtain⟨k0,-⟩:=hk
   have k0:a.tmps.getD 7 undef=.pointer (some ⟨b,2,none⟩):=k0;go_simp;exact hK _ _ (Below.refl _ _) hW rfl
  refine⟨fun a w hW hk K hK=>?_,?_⟩
  ·obtain⟨k0,-⟩:=hk
   have k0:a.tmps.getD 8 undef=.pointer (some ⟨b,5,none⟩):=k0;have c0:=Qk y0 hW;go_simp;exact hK _ _ (Below.refl _ _) hW rfl
  refine⟨fun a w hW hk K hK=>?_,?_⟩
  ·obtain⟨k0,-⟩:=hk
   have k0:a.tmps.getD 3 undef=.pointer (some ⟨X,0,none⟩):=k0;go_simp;exact hK _ _ (Below.refl _ _) hW rfl
  refine⟨fun a w hW hk K hK=>?_,?_⟩
  ·obtain⟨k0,-⟩:=hk
   have k0:a.tmps.getD 10 undef=.pointer (some ⟨X,0,none⟩):=k0;have c0:=Qk z0 hW;go_simp;exact hK _ _ (Below.refl _ _) hW rfl
  refine⟨fun a w hW hk K hK=>?_,?_⟩
  ·obtain⟨k0,k1,-⟩:=hk
   have k0:a.tmps.getD 9 undef=.slice (some ⟨mg,mo,none⟩) nb cb:=k0;have k1:a.tmps.getD 11 undef=.int .i64 (k:Int):=k1;go_simp;exact hK _ _ (Below.refl _ _) hW rfl
  refine⟨fun a w hW hk K hK=>?_,?_⟩
  ·obtain⟨k0,-⟩:=hk
   have k0:a.tmps.getD 12 undef=.pointer (some ⟨mg,mo+k*12,none⟩):=k0;obtain⟨fs,hfs⟩:=underBk
   refine wp_load_mid 84 (.tmp 12) rfl mg (mo+k*12) k0 ds _ (Zf HD.out hW) hfs rfl (by rw[hdl];exact sizeBk) ?_;exact hK _ _ (Below.refl _ _) hW rfl
  refine⟨fun a w hW hk K hK=>?_,?_⟩
  ·clear hk;go_simp;exact hK _ _ (Q5 _ _) (hW.alloc hW.size _) ⟨_,rfl,hW.size,_,rfl,Qj _ _ _⟩
  trivial
def Qlz (w2:World) (b X C N ac n1 d1 Kn rc:Nat) (ag rg p1:Option Addr) (ps:List (TT 6)) (regs:List Int) (t:Tmp) (v:Value) (w:World):Prop :=
 match ([(27,fun v w=>∃ g,v=.slice (some ⟨g,0,none⟩) n1 n1∧w2.heap.size≤g∧Qc1 w g n1 (ps.map (Qar regs)))]:List (Tmp × (Value→World→Prop))).lookup t with
 | some p=>p v w
 | none=>v=(([(0,.pointer (some ⟨b,0,none⟩)),(3,.pointer (some ⟨X,0,none⟩)),(4,.pointer (some ⟨C,0,none⟩)),(20,.pointer (some ⟨b,0,none⟩)),(21,.pointer (some ⟨X,2,none⟩)),(22,.slice ag N ac),(23,.pointer (some ⟨C,1,none⟩)),(24,.slice p1 n1 d1),(25,.pointer (some ⟨X,1,none⟩)),(26,.slice rg Kn rc)]:List (Tmp × Value)).lookup t).getD undef
theorem jt3 {w2:World}{b X C N ac n1 d1 Kn rc:Nat}{ag rg p1:Option Addr}{ps:List (TT 6)}{regs:List Int}{Q R:Nat→Prop}(x1:w2.cell? ⟨X,1,none⟩=some (.slice rg Kn rc)) (x2:w2.cell? ⟨X,2,none⟩=some (.slice ag N ac)) (e1:w2.cell? ⟨C,1,none⟩=some (.slice p1 n1 d1)) (HK:Hid (regs.length=Kn)) (HN1:Hid (ps.length=n1)) (hn1:n1≤1000) (HR:Hid (intsL.In w2 Q regs [.slice rg Kn rc])) (HP:Hid (LIn w2 R ps p1)) (HC:Hid (∀ x∈ps,x.count≤2000)){Q:Exit→Act→World→Prop}
 (a:Act) (m:Nat) (hn:a.tmps.size=m) (hn':29≤m) (h0:a.tmps.getD 0 undef=.pointer (some ⟨b,0,none⟩)) (h3:a.tmps.getD 3 undef=.pointer (some ⟨X,0,none⟩)) (h4:a.tmps.getD 4 undef=.pointer (some ⟨C,0,none⟩))
 (hend:∀ ops vs w',vs 22=.slice ag N ac→vs 20=.pointer (some ⟨b,0,none⟩)→(fun v w=>∃ g,v=.slice (some ⟨g,0,none⟩) n1 n1∧w2.heap.size≤g∧Qc1 w g n1 (ps.map (Qar regs))) (vs 27) w'→Below w2.heap.size w2 w'→wpList Tryz.prog ops Q (Qc8 8 ((Tryz.f131.body.bind (Ql 3)).getD .skip)) (Ze a vs [20,21,22,23,24,25,26,27]) w') :
 Code.wp Tryz.prog ((Tryz.f131.body.bind (Ql 3)).getD .skip) Q a w2:=by
 conv=>arg 2;whnf
 refine Qw 8 (Qlz w2 b X C N ac n1 d1 Kn rc ag rg p1 ps regs) (fun w=>Below w2.heap.size w2 w) (fun w w'=>Below w.heap.size w w') (outs:=[0,3,4]) (gs:=[]) (bs:=[true,true,true,true,true,true,true,true]) (by kernel_rfl) (n:=29) hn hn' (by kernel_rfl) (by kernel_rfl) ?hR ?hG (Qi (Below.refl _ _) 1) ⟨h0,h3,h4,trivial⟩ ?hA ?hend
 case hR =>
  intro t v w w' hr h;unfold Qlz at h ⊢;split at h
  ·rename_i p hp
   simp only[List.lookup_cons,List.lookup_nil] at hp
   split at hp
   ·cases hp;exact(by obtain⟨g,e,h1,h2⟩:=h;exact⟨g,e,h1,h2.below hr⟩)
   ·cases hp
  ·exact h
 case hG=>exact trivial
 case hend=>exact fun ops vs w' hW hk=>hend ops vs w' (hk 22 (by kernel_rfl)) (hk 20 (by kernel_rfl)) (hk 27 (by kernel_rfl)) hW
 case hA =>
  refine⟨fun a w hW hk K hK=>?_,?_⟩
  ·obtain⟨k0,-⟩:=hk
   have k0:a.tmps.getD 0 undef=.pointer (some ⟨b,0,none⟩):=k0;go_simp;exact hK _ _ (Below.refl _ _) hW rfl
  refine⟨fun a w hW hk K hK=>?_,?_⟩
  ·obtain⟨k0,-⟩:=hk
   have k0:a.tmps.getD 3 undef=.pointer (some ⟨X,0,none⟩):=k0;go_simp;exact hK _ _ (Below.refl _ _) hW rfl
  refine⟨fun a w hW hk K hK=>?_,?_⟩
  ·obtain⟨k0,-⟩:=hk
   have k0:a.tmps.getD 21 undef=.pointer (some ⟨X,2,none⟩):=k0;have c0:=Qk x2 hW;go_simp;exact hK _ _ (Below.refl _ _) hW rfl
  refine⟨fun a w hW hk K hK=>?_,?_⟩
  ·obtain⟨k0,-⟩:=hk
   have k0:a.tmps.getD 4 undef=.pointer (some ⟨C,0,none⟩):=k0;go_simp;exact hK _ _ (Below.refl _ _) hW rfl
  refine⟨fun a w hW hk K hK=>?_,?_⟩
  ·obtain⟨k0,-⟩:=hk
   have k0:a.tmps.getD 23 undef=.pointer (some ⟨C,1,none⟩):=k0;have c0:=Qk e1 hW;go_simp;exact hK _ _ (Below.refl _ _) hW rfl
  refine⟨fun a w hW hk K hK=>?_,?_⟩
  ·obtain⟨k0,-⟩:=hk
   have k0:a.tmps.getD 3 undef=.pointer (some ⟨X,0,none⟩):=k0;go_simp;exact hK _ _ (Below.refl _ _) hW rfl
  refine⟨fun a w hW hk K hK=>?_,?_⟩
  ·obtain⟨k0,-⟩:=hk
   have k0:a.tmps.getD 25 undef=.pointer (some ⟨X,1,none⟩):=k0;have c0:=Qk x1 hW;go_simp;exact hK _ _ (Below.refl _ _) hW rfl
  refine⟨fun a w hW hk K hK=>?_,?_⟩
  ·obtain⟨k0,k1,-⟩:=hk
   have k0:a.tmps.getD 24 undef=.slice p1 n1 d1:=k0;have k1:a.tmps.getD 26 undef=.slice rg Kn rc:=k1;go_simp;refine Calls.mono (QbD HK.out HN1.out hn1 (Lay.below HR.out hW) (HP.out.below hW) HC.out) ?_;rintro r7 w7 ⟨g7,rfl,hg7,hm7,b7⟩;go_simp;exact hK _ _ b7 (hW.trans (b7.mono hW.size)) ⟨g7,rfl,Nat.le_trans hW.size hg7,hm7⟩
  trivial
theorem QcA {w:World}{b:Nat}{O A Q:Nat→Prop}{s:JSt}{x:MTo}{rg ag:Option Addr}{rc ac:Nat}(hJ:JOk s) (hO:∀ k,O k→k<w.heap.size) (h:SAt w b O A s) (hregs:intsL.In w Q x.regs [.slice rg x.regs.length rc]) (hargs:intsL.In w Q x.args [.slice ag x.args.length ac]) (hr16:x.regs.length≤16) (ha8:x.args.length≤8) (hbl:0≤x.block∧x.block<s.f.blocks.length) :
 Calls Tryz.prog 131 #[.pointer (some ⟨b,0,none⟩),toV x rg ag rc ac] w fun e w'=>Qab (s.to x) VNone e∧Below w.heap.size w w':=by
 have HJ:=Qa hJ;have HO:=Qa hO;have hL:=hJ.vals;obtain⟨xb,xr,xs⟩:=x
 simp only at hregs hargs hr16 ha8 hbl
 obtain⟨k,rfl⟩:=Int.eq_ofNat_of_zero_le hbl.1
 have hkb:k<s.f.blocks.length:=by omega
 have hgk:s.f.blocks[k]?=some s.f.blocks[k]:=List.getElem?_eq_getElem hkb;generalize s.f.blocks[k]=g at hgk;have b1:=Q5 w (.cells #[.int .i64 (k:Int),.slice rg xr.length rc,.slice ag xs.length ac] 45);have hblk:=Qj w #[.int .i64 (k:Int),.slice rg xr.length rc,.slice ag xs.length ac] 45;have K1:=Qa (h.below b1);have HR1:Hid (intsL.In (w.alloc (.cells #[.int .i64 (k:Int),.slice rg xr.length rc,.slice ag xs.length ac] 45)) Q xr [.slice rg xr.length rc]):=Lay.below hregs b1;have HA1:Hid (intsL.In (w.alloc (.cells #[.int .i64 (k:Int),.slice rg xr.length rc,.slice ag xs.length ac] 45)) Q xs [.slice ag xs.length ac]):=Lay.below hargs b1;have HB1:=Qa b1;have HK1:=Qa hblk;clear h hregs hargs b1 hblk hJ hO;go_enter Tryz.func131,Tryz.ntmps131
 go_upto_region 1 with fail
 obtain⟨X,hX⟩:∃ X,w.heap.size=X:=⟨_,rfl⟩
 generalize hw1:w.alloc (.cells #[.int .i64 (k:Int),.slice rg xr.length rc,.slice ag xs.length ac] 45)=w1 at K1 HR1 HA1 HB1 HK1 ⊢;rw[hX] at HK1
 rw[hX]
 clear hw1 hX;have x0:=Qb HK1.out 0 _ rfl;have x1:=Qb HK1.out 1 _ rfl;have x2:=Qb HK1.out 2 _ rfl;obtain⟨pm,cm,hh,a1,c1,a2,c2,a3,c3,aL,cL,R⟩:=K1.out.read
 obtain⟨-,-,-,-,-,q5,-⟩:=R.cells
 obtain⟨fa,fc,fb,fd,fe,ff,ecs,-,-,hbs,-⟩:=ZM R.fn
 simp only[List.cons.injEq,Value.slice.injEq,and_true,true_and] at ecs
 obtain⟨-,-,rfl,rfl⟩:=ecs
 obtain⟨mg,mo,p1,d1,es,rfl,hrange,hes,hpar,hone⟩:=Qbk hbs hgk
 have HRG:=Qa hrange;have HPA:Hid ((Qp 6).In w1 (fun g=>¬ A g) g.params [.slice p1 g.params.length d1]):=hpar;have HES:Hid (es.length=10):=hes;have HONE:=Qa hone;have hkn:(k:Int)<s.f.blocks.length:=by omega
 have HFR:=Qa (HJ.out.mod.2 s.f HJ.out.fn);have HGM:Hid (g∈s.f.blocks):=List.mem_of_getElem? hgk;have HBR:=Qa (HFR.out.blocks g HGM.out);have HNG:Hid (¬ Qh.great g):=fun hg=>HJ.out.tiny (.inr ⟨s.f,HJ.out.fn,.inr (.inr (.inr ⟨g,HGM.out,hg⟩))⟩);have HCP:Hid (∀ t∈g.params,t.count≤2000):=fun t ht=>Nat.le_of_not_lt fun hlt=>HNG.out (.inr (.inl (.inr ⟨t,ht,hlt⟩)));have HCV:Hid (∀ t∈s.L,t.count≤100000):=fun t ht=>Nat.le_trans (Q8 (HJ.out.types t ht)) (by omega);have E:Hid (s.to ⟨(k:Int),xr,xs⟩=code2 (passC s.H s.f.regs xr g.regs) (s.handC xs (g.params.map (Qar xr)))):=Qlh hgk HBR.out.params.2;clear R hbs hrange hpar hone hes hgk hbl;generalize hnb:s.f.blocks.length=nb at q5 hkb hkn;refine jt1 q5 x0 HRG (by simp[HES.out]) hkn _ _ rfl (Nat.le_of_ble_eq_true (by kernel_rfl)) rfl rfl ?_;rintro ops vs w5 hv16 ⟨B,hv5,hB,cB,hcB,hBb⟩ b5;show wpList _ ops _ [_] (Ze _ vs [5,6,7,8,9,10,11,12,13,4]) w5;simp only[Ze,Act.put,List.setIfInBounds_toArray,List.set_cons_zero,List.set_cons_succ,hv16,hv5]
 have hlen12:(Value.int .i64 g.regs::Value.slice p1 g.params.length d1::es).length=12:=by simp[HES.out]
 have TH:Hid (w5.there B 0 (Value.int .i64 g.regs::Value.slice p1 g.params.length d1::es).toArray.size):=by
  intro j hj;rw[List.size_toArray,hlen12] at hj
  rw[Nat.zero_add]
  refine⟨?_,Qt hBb j⟩
  rw[Qb hBb j cB[j] (by simp)];rfl
 have TS:Hid ((Tryz.prog.info? 84).map (·.size)=some (Value.int .i64 g.regs::Value.slice p1 g.params.length d1::es).toArray.size):=by show _=_;rw[List.size_toArray,hlen12];exact sizeBk
 have TO:Hid ((Value.int .i64 g.regs::Value.slice p1 g.params.length d1::es).toArray.all (·.oneCell')=true):=by
  refine all_oneCell_toArray fun v hv=>?_;simp only[List.mem_cons] at hv
  rcases hv with rfl | rfl | hv
  ·rfl
  ·rfl
  ·exact HONE.out v hv
 have B6:Hid (Blk (w5.setCells B 0 (Value.int .i64 g.regs::Value.slice p1 g.params.length d1::es).toArray.toList) B (Value.int .i64 g.regs::Value.slice p1 g.params.length d1::es).toArray 84):=by
  have h0:Blk w5 B ([]++cB.toList).toArray 84:=by rw[List.nil_append,Array.toArray_toList];exact hBb
  have:=Blk.sets (Value.int .i64 g.regs::Value.slice p1 g.params.length d1::es) [] cB.toList w5 (by rw[hlen12];simp[hcB]) h0
  exact this
 have b6:Hid (Below w1.heap.size w1 (w5.setCells B 0 (Value.int .i64 g.regs::Value.slice p1 g.params.length d1::es).toArray.toList)):=by
  have:=Zx.setCells (O:=fun k=>k=B) (O':=fun k=>k=B) (b:=B) rfl (Value.int .i64 g.regs::Value.slice p1 g.params.length d1::es).toArray.toList 0 _ (Zx.refl _ w5)
  exact b5.trans (this.below b5.size (fun k hk=>by omega))
 clear hBb hB hcB b5 hv16 hv5 hlen12;generalize hgr:g.regs=gr at E HBR B6 b6 TH TS TO ⊢;have HGR:Hid (g.regs=gr):=hgr;generalize hn1:g.params.length=n1 at HPA B6 b6 TH TS TO ⊢;have HN1:Hid (g.params.length=n1):=hn1;have hn18:n1≤8:=by rw[← hn1];exact HBR.out.params.1
 have y0:(w5.setCells B 0 (Value.int .i64 gr::Value.slice p1 n1 d1::es).toArray.toList).cell? ⟨B,0,none⟩=some (.int .i64 gr):=Qb B6.out 0 _ rfl;have y1:(w5.setCells B 0 (Value.int .i64 gr::Value.slice p1 n1 d1::es).toArray.toList).cell? ⟨B,1,none⟩=some (.slice p1 n1 d1):=Qb B6.out 1 _ rfl;generalize hds:(Value.int .i64 gr::Value.slice p1 n1 d1::es).toArray=dsA at B6 b6 TH TS TO y0 y1 ⊢;have K6:=Qa (K1.out.below b6.out);have HR6:Hid (intsL.In (w5.setCells B 0 dsA.toList) Q xr [.slice rg xr.length rc]):=Lay.below HR1.out b6.out;have HA6:Hid (intsL.In (w5.setCells B 0 dsA.toList) Q xs [.slice ag xs.length ac]):=Lay.below HA1.out b6.out;have HP6:Hid ((Qp 6).In (w5.setCells B 0 dsA.toList) (fun g=>¬ A g) g.params [.slice p1 n1 d1]):=Lay.below HPA.out b6.out;have BW:Hid (Below w.heap.size w (w5.setCells B 0 dsA.toList)):=HB1.out.trans (b6.out.mono HB1.out.size);have HFG:Hid (s.f.regs≤gr):=by have:=HBR.out.regs.1;rw[HGR.out] at this;exact this
 have x1':=Qk x1 b6.out;have x2':=Qk x2 b6.out;clear hgr hn1 hds K1 HR1 HA1 HPA HB1 b6 B6 q5 x0 x1 x2 HES HONE HNG HK1 HRG;go_upto_region 2 with (refine wpList_store_mid rfl 84 (.tmp 4) (.tmp 13) rfl B 0 dsA rfl rfl TH.out TS.out TO.out ?_)
 clear TH TS TO;generalize w5.setCells B 0 dsA.toList=w6 at K6 HR6 HA6 HP6 BW x1' x2' y0 y1 ⊢;obtain⟨Kn,hKn⟩:∃ Kn,xr.length=Kn:=⟨_,rfl⟩
 have HK:=Qa hKn;rw[hKn] at x1' HR6 hr16
 clear hKn;obtain⟨N,hN⟩:∃ N,xs.length=N:=⟨_,rfl⟩
 have HN:=Qa hN;rw[hN] at x2' HA6 ha8
 clear hN;have CP:=Qa (Qd8 gr HK.out (by omega) HR6.out HFR.out.regs.1 HFG.out K6.out);go_wp2_with fail
 refine CP.out.mono ?_;rintro e' w7 ⟨hO,b7⟩;have BW7:=Qa (BW.out.trans (b7.mono BW.out.size));rcases hO with ⟨hc,y,rfl,hy⟩|⟨hc,rfl⟩
 rotate_left
 ·exact⟨rfl,.inr ⟨by rw[E.out,Qx hc];exact hc,by rw[E.out,Qx hc]⟩,BW7.out⟩
 subst hy;have E2:Hid (s.to ⟨(k:Int),xr,xs⟩=s.handC xs (g.params.map (Qar xr))):=by show _=_;rw[E.out,QK hc]
 have K7:=Qa (K6.out.below b7);have HR7:Hid (intsL.In w7 Q xr [.slice rg Kn rc]):=Lay.below HR6.out b7;have HA7:Hid (intsL.In w7 Q xs [.slice ag N ac]):=Lay.below HA6.out b7;have HP7:=Qa (QM (Lay.below HP6.out b7)).1;have x17:=Qk x1' b7;have x27:=Qk x2' b7;have y17:=Qk y1 b7;clear hc CP E b7 K6 HR6 HA6 HP6 x1' x2' y0 y1 BW;go_upto_region 3 with fail
 refine jt3 x17 x27 y17 HK HN1 (by omega) HR7 HP7 HCP _ _ rfl (Nat.le_of_ble_eq_true (by kernel_rfl)) rfl rfl rfl ?_;rintro ops2 vs2 w8 hv22 hv20 ⟨gP,hv27,hgP,hmP⟩ b8;show wpList _ ops2 _ [_] (Ze _ vs2 [20,21,22,23,24,25,26,27]) w8;simp only[Ze,Act.put,List.setIfInBounds_toArray,List.set_cons_zero,List.set_cons_succ,hv22,hv20,hv27]
 have BW8:=Qa (BW7.out.trans (b8.mono BW7.out.size))
 have CH:Hid (Calls Tryz.prog 132 #[.pointer (some ⟨b,0,none⟩),.slice ag N ac,.slice (some ⟨gP,0,none⟩) n1 n1] w8 fun e w'=>Qab (s.handC xs (g.params.map (Qar xr))) VNone e∧Below w8.heap.size w8 w') :=
  Qa9 HN.out (by omega) (by rw[List.length_map,HN1.out]) (by omega) (Lay.below HA7.out b8) hmP.lin hL HCV.out (fun k hk=>Nat.lt_of_lt_of_le (HO.out k hk) BW8.out.size) (K7.out.below b8)
 clear hmP hgP b8 hv22 hv20 hv27 K7 HR7 HA7 HP7 x17 x27 y17 BW7;go_wp2_with fail
 refine CH.out.mono ?_;rintro e' w9 ⟨hO,b9⟩;have BW9:=Qa (BW8.out.trans (b9.mono BW8.out.size));have FF:Hid (Qab (s.to ⟨(k:Int),xr,xs⟩) VNone e'):=by show Qab _ _ _;rw[E2.out];exact hO
 rcases hO with ⟨hc,y,rfl,hy⟩|⟨hc,rfl⟩
 rotate_left
 ·exact⟨rfl,FF.out,BW9.out⟩
 subst hy;clear hc CH E2 b9;go_wp2
 exact bodyPost_end (v:=.tuple #[]) (by simp[results,Tryz.results131,go_sem]) rfl ⟨FF.out,BW9.out⟩
def Qif (H:List Bool) (regs:Int):Int:=if (hList H).all (fun r=>decide (r<regs)) then 0 else 12
theorem QgR {w:World}{b B:Nat}{O A:Nat→Prop}{s:JSt}(r:Int) (hB:w.cell? ⟨B,0,none⟩=some (.pointer (some ⟨b,0,none⟩))) (h:SAt w b O A s) :
 Calls Tryz.prog 170 #[.int .i64 r,.pointer (some ⟨B,0,none⟩)] w fun e w'=>e=.returned (.bool (decide (r≥s.f.regs)))∧w'=w:=by
 obtain⟨pm,cm,hh,a1,c1,a2,c2,a3,c3,aL,cL,R⟩:=h.read
 obtain⟨-,-,q2,-⟩:=R.cells
 clear R h;generalize s.f.regs=fr at q2 ⊢;go_enter Tryz.func170,Tryz.ntmps170
 go_wp2
 go_ret;exact⟨rfl,rfl⟩
theorem enters_left1:Qc6 170:=fun _ _=>by kernel_rfl
theorem QfI {w:World}{b B:Nat}{O A Q:Nat→Prop}{s:JSt}{l:List Int}{p:Option Addr}{N c:Nat}(hN:l.length=N) (hN2:N≤100000) (hl:intsL.In w Q l [.slice p N c]) (hB:w.cell? ⟨B,0,none⟩=some (.pointer (some ⟨b,0,none⟩))) (h:SAt w b O A s) :
 Calls Tryz.prog 204 #[.slice p N c,.func (.func 170) #[] #[.pointer (some ⟨B,0,none⟩)]] w fun e w'=>(∃ i:Int,e=.returned (.int .i64 i)∧(0≤i↔∃ x∈l,s.f.regs≤x))∧w'=w:=by
 have HL:=Qa hl;have HN:=Qa hN;have C:=Qa (fun r=>QgR r hB h);have hE:=enters_left1;unfold Qc6 at hE;clear hl hN h hB;generalize s.f.regs=fr at C ⊢;go_enter Tryz.func204,Tryz.ntmps204
 go_wp2
 go_loop [8] (fun i=>∃ k:Nat,k≤N∧i=.int .i64 k∧∀ (j:Nat) (y:Int),j<k→l[j]?=some y→y<fr) (fun i=>N - (intOf i).toNat)
 case atStart=>exact⟨0,Nat.zero_le _,rfl,fun j y hj=>by omega⟩
 case round =>
  obtain⟨k,hk,rfl,hz⟩:=hrel
  have HZ:=Qa hz;clear hz;by_cases hlt:k<N
  ·have hlt':(k:Int)<N:=by omega
   have hk2:k<l.length:=by rw[HN.out];exact hlt
   obtain⟨g,o,rfl,-,hg,hc0⟩:=ZK HL.out hk2
   obtain⟨y,hy⟩:∃ y,l[k]?=some y:=⟨_,List.getElem?_eq_getElem hk2⟩
   rw[show l.getD k 0=y by rw[List.getD_eq_getElem?_getD,hy];rfl] at hc0
   have HX:=Qa hy;have CY:=Qa (C.out y);clear hy hk2;by_cases hxy:fr≤y
   ·rw[show decide (y≥fr)=true from decide_eq_true hxy] at CY
    have HM:Hid (∃ x∈l,fr≤x):=⟨y,List.mem_of_getElem? HX.out,hxy⟩;clear hxy;go_wp2_with (go_at_call 170;refine(CY.out).mono ?_;rintro e w' ⟨rfl,hw⟩;have hw:=hw.symm;subst hw)
    go_ret;exact⟨⟨k,rfl,by simp only[HM.out,iff_true];omega⟩,rfl⟩
   ·rw[show decide (y≥fr)=false from decide_eq_false hxy] at CY
    have HXY:=Qa (Int.not_le.1 hxy);clear hxy;go_wp2_with (go_at_call 170;refine(CY.out).mono ?_;rintro e w' ⟨rfl,hw⟩;have hw:=hw.symm;subst hw)
    go_round
    case rel =>
     refine⟨k+1,hlt,by go_num,fun j y' hj hy=>?_⟩
     rcases Nat.lt_or_ge j k with h | h
     ·exact HZ.out j y' h hy
     ·have:j=k:=by omega
      subst this;have e:=HX.out.symm.trans hy;injection e with e
      subst e;exact HXY.out
    case measure=>simp[intOf];omega
  ·have hlt':¬ (k:Int)<N:=by omega
   go_wp2
   go_ret;refine⟨⟨-1,rfl,by omega,fun hm=>?_⟩,rfl⟩
   obtain⟨x,hx,hf⟩:=hm
   obtain⟨j,hj,e⟩:=List.mem_iff_getElem.1 hx
   have:=HZ.out j x (by have:=HN.out;omega) (by rw[List.getElem?_eq_getElem hj,e])
   omega
theorem Qdx {w:World}{b B:Nat}{O A Q:Nat→Prop}{s:JSt}{l:List Int}{p:Option Addr}{N c:Nat}(hN:l.length=N) (hN2:N≤100000) (hl:intsL.In w Q l [.slice p N c]) (hB:w.cell? ⟨B,0,none⟩=some (.pointer (some ⟨b,0,none⟩))) (h:SAt w b O A s) :
 Calls Tryz.prog 171 #[.slice p N c,.func (.func 170) #[] #[.pointer (some ⟨B,0,none⟩)]] w fun e w'=>e=.returned (.bool (!(l.all (fun r=>decide (r<s.f.regs)))))∧w'=w:=by
 have C:=Qa (QfI hN hN2 hl hB h);clear hl hN h hB;go_enter Tryz.func171,Tryz.ntmps171
 go_wp2_with fail
 refine C.out.mono ?_;rintro e w' ⟨⟨i,rfl,hi⟩,hw⟩;have hw:=hw.symm;subst hw
 have E:Hid ((!(l.all (fun r=>decide (r<s.f.regs))))=decide (i≥0)):=by
  show _=_;rw[Bool.eq_iff_iff]
  simp only[Bool.not_eq_true',decide_eq_true_eq,ge_iff_le,hi]
  rw[← Bool.not_eq_true,List.all_eq_true]
  constructor
  ·intro h;exact Classical.byContradiction fun hn=>h (fun x hx=>decide_eq_true (Int.not_le.1 (fun hh=>hn ⟨x,hx,hh⟩)))
  ·rintro ⟨x,hx,hf⟩ h
   have:=of_decide_eq_true (h x hx)
   omega
 clear C hi;go_wp2
 go_ret;exact⟨by rw[E.out];rfl,rfl⟩
theorem QgM {w:World}{b:Nat}{O A:Nat→Prop}{s:JSt}(hH:s.H.length≤16) (h:SAt w b O A s) :
 Calls Tryz.prog 133 #[.pointer (some ⟨b,0,none⟩)] w fun e w'=>Qab (Qif s.H s.f.regs) VNone e∧Below w.heap.size w w':=by
 have hmf:∀ (fn:Fn) (first cap:Array Value) (w:World),(Instr.makeFunc fn first cap).run Tryz.prog w=.ok (.func fn first cap) w:=fun _ _ _ _=>rfl;have b1:=Q5 w (.cells #[.pointer (some ⟨b,0,none⟩)] 48);have H:=Qa (h.below b1);have HB:=Qa b1;have hX:=Qj w #[.pointer (some ⟨b,0,none⟩)] 48;have x0:=Qb hX 0 _ rfl;obtain⟨pm,cm,hh,a1,c1,a2,c2,a3,c3,aL,cL,R⟩:=H.out.read
 obtain⟨-,q1,-⟩:=R.cells
 have CL:=Qa (QeG R.held);clear R h b1 hX;go_enter Tryz.func133,Tryz.ntmps133
 go_upto_region 1 with fail
 generalize w.alloc (.cells #[.pointer (some ⟨b,0,none⟩)] 48)=w1 at H HB x0 q1 CL ⊢;obtain⟨X,hX⟩:∃ X,w.heap.size=X:=⟨_,rfl⟩
 rw[hX] at x0 ⊢
 rw[← hX]
 have HXX:=Qa hX;go_wp2_with fail
 refine CL.out.mono ?_;rintro e' w2 ⟨a,c,rfl,hlist,b2⟩;have H2:=Qa (H.out.below b2);have HB2:=Qa (HB.out.trans (b2.mono HB.out.size));have CF:=Qa (Qdx rfl (by have:=Qcf s.H;omega) hlist (Qk x0 b2) H2.out);have y0:=Qk x0 b2;clear hlist b2 CL x0 q1;generalize (hList s.H).length=nl at CF ⊢;have E:Hid (Qif s.H s.f.regs=if (hList s.H).all (fun r=>decide (r<s.f.regs)) then 0 else 12):=rfl;generalize (hList s.H).all (fun r=>decide (r<s.f.regs))=q at CF E;rw[HXX.out]
 go_wp2_with (go_at_call 171;refine(CF.out).mono ?_;rintro e w' ⟨rfl,hw⟩;have hw:=hw.symm;subst hw)
 refine(Qb5 _ _ _).mono ?_
 rintro e' w' ⟨hw,⟨hq,rfl⟩|⟨hq,rfl⟩⟩
 rotate_left
 ·exact⟨rfl,Qab.bad (d:=12) (by rw[E.out,show q=false by simpa using hq];rfl) (by decide),by rw[hw];exact HB2.out⟩
 have hw:=hw.symm;subst hw;have E9:Hid (Qif s.H s.f.regs=0):=by show _=_;rw[E.out,show q=true by simpa using hq];rfl
 clear hq;go_wp2
 exact bodyPost_end (v:=.tuple #[]) (by simp[results,Tryz.results133,go_sem]) rfl ⟨Qab.good E9.out rfl,HB2.out⟩
structure EnT (w wc:World) (b X:Nat) (O A Q:Nat→Prop) (s:JSt) (x:Z3) (e:EP):Prop where
 st:SAt wc b O A s
 box:Blk wc X (ZO x e) 47
 lists:Qbn wc Q x e
 bel:Below w.heap.size w wc
theorem EnT.below {w wc w':World}{b X:Nat}{O A Q:Nat→Prop}{s:JSt}{x:Z3}{e:EP}(h:EnT w wc b X O A Q s x e) (k:Below wc.heap.size wc w'):EnT w w' b X O A Q s x e :=
 ⟨h.st.below k,(k.block X (lt_of_block h.box)).trans h.box,h.lists.below k,h.bel.trans (k.mono h.bel.size)⟩
theorem EnT.cells {w wc:World}{b X:Nat}{O A Q:Nat→Prop}{s:JSt}{x:Z3}{e:EP}(h:EnT w wc b X O A Q s x e):wc.cell? ⟨X,0,none⟩=some (.int .i64 x.op)∧wc.cell? ⟨X,1,none⟩=some (.int .i64 x.a)∧wc.cell? ⟨X,2,none⟩=some (.int .i64 x.yes.block)∧wc.cell? ⟨X,3,none⟩=some (.slice e.pYR x.yes.regs.length e.cYR)∧wc.cell? ⟨X,4,none⟩=some (.slice e.pYA x.yes.args.length e.cYA)∧wc.cell? ⟨X,5,none⟩=some (.int .i64 x.no.block)∧wc.cell? ⟨X,6,none⟩=some (.slice e.pNR x.no.regs.length e.cNR)∧wc.cell? ⟨X,7,none⟩=some (.slice e.pNA x.no.args.length e.cNA)∧wc.cell? ⟨X,8,none⟩=some (.slice e.pA x.args.length e.cA) :=
 ⟨Qb h.box 0 _ rfl,Qb h.box 1 _ rfl,Qb h.box 2 _ rfl,Qb h.box 3 _ rfl,Qb h.box 4 _ rfl,Qb h.box 5 _ rfl,Qb h.box 6 _ rfl,Qb h.box 7 _ rfl,Qb h.box 8 _ rfl⟩
theorem Qjm {w:World}{b:Nat}{O A Q:Nat→Prop}{s:JSt}{x:Z3}{e:EP}(hJ:JOk s) (hO:∀ k,O k→k<w.heap.size) (h:SAt w b O A s) (hx:Qbn w Q x e) (hra:-9223372036854775808≤x.a∧x.a≤9223372036854775807) (hf:x.form s.f.blocks.length=0) :
 Calls Tryz.prog 78 #[.pointer (some ⟨b,0,none⟩),.agg (ZO x e)] w fun r w'=>Qab (s.fin x) VNone r∧Below w.heap.size w w':=by
 have HJ:=Qa hJ;have HO:=Qa hO;have hL:=hJ.vals;have b1:=Q5 w (.cells (ZO x e) 47);have S0:Hid (EnT w (w.alloc (.cells (ZO x e) 47)) b w.heap.size O A Q s x e):=⟨h.below b1,Qj w _ _,hx.below b1,b1⟩;have HFR:=Qa (HJ.out.mod.2 s.f HJ.out.fn);have HZ:=Qa (Qf9 HFR.out.many.2 hf);have HRA:=Qa hra;have HCV:Hid (∀ t∈s.L,t.count≤100000):=fun t ht=>Nat.le_trans (Q8 (HJ.out.types t ht)) (by omega);have E1:s.fin x=if x.op=1 then s.to x.yes else if x.op=2 then code2 (s.want x.a 1 false) (code2 (s.to x.yes) (s.to x.no)) else code2 (s.args x.args s.f.results (Qbo s.f.regs.toNat)) (if (hList s.H).all (fun r=>decide (r<s.f.regs)) then 0 else 12):=by rw[JSt.fin,if_neg (by rw[hf];simp)]
 have HE1:=Qa E1;clear h hx b1 hJ hO hra hf E1;go_enter Tryz.func78,Tryz.ntmps78
 go_upto_region 1 with fail
 obtain⟨X,hX⟩:∃ X,w.heap.size=X:=⟨_,rfl⟩
 unfold ZO at S0;generalize hw1:w.alloc (.cells #[.int .i64 x.op,.int .i64 x.a,.int .i64 x.yes.block,.slice e.pYR x.yes.regs.length e.cYR,.slice e.pYA x.yes.args.length e.cYA,.int .i64 x.no.block,.slice e.pNR x.no.regs.length e.cNR,.slice e.pNA x.no.args.length e.cNA,.slice e.pA x.args.length e.cA] 47)=w1 at S0 ⊢;have S:Hid (EnT w w1 b X O A Q s x e):=by rw[← hX];exact S0.out
 rw[hX]
 clear hw1 hX S0;obtain⟨x0,x1,x2,x3,x4,x5,x6,x7,x8⟩:=S.out.cells
 rcases HZ.out.1 with hop | hop | hop
 ·have E2:Hid (s.fin x=s.to x.yes):=by show _=_;rw[HE1.out,if_pos hop]
  have h1:Hid (x.yes.form s.f.blocks.length true=0):=by have:=HZ.out.2.2.2.2.1;rw[hop] at this;exact this
  rw[hop] at x0
  clear HE1;go_wp2_with fail
  refine(QcA (x:=x.yes) HJ.out (fun k hk=>Nat.lt_of_lt_of_le (HO.out k hk) S.out.bel.size) S.out.st S.out.lists.yr S.out.lists.ya (ZB h1.out).2.1 (ZB h1.out).2.2 (ZB h1.out).1).mono ?_
  rintro e9 w9 ⟨hq,b9⟩;have S9:=Qa (S.out.below b9);rcases hq with ⟨hc,y,rfl,hy⟩|⟨hc,rfl⟩
  rotate_left
  ·exact⟨rfl,.inr ⟨by rw[E2.out];exact hc,by rw[E2.out]⟩,S9.out.bel⟩
  subst hy;have E9:Hid (s.fin x=0):=by show _=_;rw[E2.out];exact hc
  clear hc b9;go_wp2
  exact bodyPost_end (v:=.tuple #[]) (by simp[results,Tryz.results78,go_sem]) rfl ⟨Qab.good E9.out rfl,S9.out.bel⟩
 ·have E2:Hid (s.fin x=code2 (s.want x.a 1 false) (code2 (s.to x.yes) (s.to x.no))):=by show _=_;rw[HE1.out,if_neg (by omega),if_pos hop]
  have h1:Hid (x.yes.form s.f.blocks.length true=0):=by have:=HZ.out.2.2.2.2.1;rw[hop] at this;exact this
  have h2:Hid (x.no.form s.f.blocks.length true=0):=by have:=HZ.out.2.2.2.2.2;rw[hop] at this;exact this
  rw[hop] at x0
  have CI:=Qa (fun d=>Qcd x.a HRA.out d hL (fun k hk=>Nat.lt_of_lt_of_le (HO.out k hk) S.out.bel.size) S.out.st);clear HE1;go_wp2_with fail
  refine(CI.out _).mono ?_
  rintro e8 w8 ⟨hq,b8⟩;have S8:=Qa (S.out.below b8);rcases hq with ⟨hc,y,rfl,hy⟩|⟨hc,rfl⟩
  rotate_left
  ·exact⟨rfl,.inr ⟨by rw[E2.out,Qx hc];exact hc,by rw[E2.out,Qx hc]⟩,S8.out.bel⟩
  subst hy;have E3:Hid (s.fin x=code2 (s.to x.yes) (s.to x.no)):=by show _=_;rw[E2.out,QK hc]
  clear hc b8 E2 S CI;have S:=S8;clear S8 x0 x1 x2 x3 x4 x5 x6 x7 x8;obtain⟨x0,x1,x2,x3,x4,x5,x6,x7,x8⟩:=S.out.cells
  go_wp2_with fail
  refine(QcA (x:=x.yes) HJ.out (fun k hk=>Nat.lt_of_lt_of_le (HO.out k hk) S.out.bel.size) S.out.st S.out.lists.yr S.out.lists.ya (ZB h1.out).2.1 (ZB h1.out).2.2 (ZB h1.out).1).mono ?_
  rintro e9 w9 ⟨hq,b9⟩;have S9:=Qa (S.out.below b9);rcases hq with ⟨hc,y,rfl,hy⟩|⟨hc,rfl⟩
  rotate_left
  ·exact⟨rfl,.inr ⟨by rw[E3.out,Qx hc];exact hc,by rw[E3.out,Qx hc]⟩,S9.out.bel⟩
  subst hy;have E4:Hid (s.fin x=s.to x.no):=by show _=_;rw[E3.out,QK hc]
  clear hc b9 E3 S;have S:=S9;clear S9 x0 x1 x2 x3 x4 x5 x6 x7 x8;obtain⟨x0,x1,x2,x3,x4,x5,x6,x7,x8⟩:=S.out.cells
  go_wp2_with fail
  refine(QcA (x:=x.no) HJ.out (fun k hk=>Nat.lt_of_lt_of_le (HO.out k hk) S.out.bel.size) S.out.st S.out.lists.nr S.out.lists.na (ZB h2.out).2.1 (ZB h2.out).2.2 (ZB h2.out).1).mono ?_
  rintro e9 w9 ⟨hq,b9⟩;have S9:=Qa (S.out.below b9);rcases hq with ⟨hc,y,rfl,hy⟩|⟨hc,rfl⟩
  rotate_left
  ·exact⟨rfl,.inr ⟨by rw[E4.out];exact hc,by rw[E4.out]⟩,S9.out.bel⟩
  subst hy;have E9:Hid (s.fin x=0):=by show _=_;rw[E4.out];exact hc
  clear hc b9;go_wp2
  exact bodyPost_end (v:=.tuple #[]) (by simp[results,Tryz.results78,go_sem]) rfl ⟨Qab.good E9.out rfl,S9.out.bel⟩
 ·have hn0:=HFR.out.regs.1;obtain⟨n,hn⟩:=Int.eq_ofNat_of_zero_le hn0
  have E2:Hid (s.fin x=code2 (s.handC x.args s.f.results) (Qif s.H s.f.regs)):=by show _=_;rw[HE1.out,if_neg (by omega),if_neg (by omega),QkM hn HFR.out.results.2];rfl
  have hal:x.args.length≤8:=HZ.out.2.2.2.1;obtain⟨pm,cm,hh,a1,c1,a2,c2,a3,c3,aL,cL,R⟩:=S.out.st.read
  obtain⟨-,-,-,-,q4,-⟩:=R.cells
  obtain⟨fa,fc,fb,fd,fe,ff,ecs,-,hres,-,-⟩:=ZM R.fn
  simp only[List.cons.injEq,Value.slice.injEq,and_true,true_and] at ecs
  obtain⟨⟨-,-⟩,⟨rfl,rfl⟩,-⟩:=ecs
  have HRL:=Qa (QM hres).1
  have CH:Hid (Calls Tryz.prog 132 #[.pointer (some ⟨b,0,none⟩),.slice e.pA x.args.length e.cA,.slice a2 s.f.results.length c2] w1.drew fun e w'=>Qab (s.handC x.args s.f.results) VNone e∧Below w1.drew.heap.size w1.drew w') :=
   Qa9 rfl (by omega) rfl (by have:=HFR.out.results.1;omega) (Lay.below S.out.lists.ar (QbP (Below.refl _ _))) HRL.out.drew hL HCV.out (fun k hk=>Nat.lt_of_lt_of_le (HO.out k hk) S.out.bel.size) (S.out.st.below (QbP (Below.refl _ _)))
  rw[hop] at x0
  clear HE1 R hres HRL hn hn0;generalize s.f.results.length=nr at q4 CH;generalize x.args.length=na at x8 CH hal;go_upto_region 9 with fail
  go_region_with (go_at_call 132;refine(CH.out).mono ?_;rintro e8 w8 ⟨hq,b8⟩;have S8:=Qa (S.out.below (ZN b8));rcases hq with ⟨hc,y,rfl,hy⟩|⟨hc,rfl⟩;rotate_left;exact⟨rfl,.inr ⟨by rw[E2.out,Qx hc];exact hc,by rw[E2.out,Qx hc]⟩,S8.out.bel⟩;subst hy;have E3:Hid (s.fin x=Qif s.H s.f.regs):=(by show _=_;rw[E2.out,QK hc]);clear hc b8)
  all_goals
   have CV:=Qa (QgM HJ.out.regs S8.out.st);go_wp2_with fail
   refine CV.out.mono ?_;rintro e9 w9 ⟨hq,b9⟩;have S9:=Qa (S8.out.below b9);rcases hq with ⟨hc,y,rfl,hy⟩|⟨hc,rfl⟩
   rotate_left
   ·exact⟨rfl,.inr ⟨by rw[E3.out];exact hc,by rw[E3.out]⟩,S9.out.bel⟩
   subst hy;have E9:Hid (s.fin x=0):=by show _=_;rw[E3.out];exact hc
   clear hc b9;go_wp2
   exact bodyPost_end (v:=.tuple #[]) (by simp[results,Tryz.results78,go_sem]) rfl ⟨Qab.good E9.out rfl,S9.out.bel⟩
theorem QcU {w:World}{Fb:Nat}(c:Int) (hF:Blk w Fb #[.int .i64 0] 3) :
 CallsD Tryz.prog 114 #[QjG Fb] (.panicking (QeK c)) w fun e u' w' =>
  e=.returned (.tuple #[])∧u'=.panicking [{ v:=.iface 163 (.int .i64 c),recovered:=true }]∧(Blk w' Fb #[.int .i64 c] 3∧Chg Fb w w'):=by
 have hFl:=hF.lt;have yF0:=Qb hF 0 _ rfl;have zF0:=Qt hF 0;have HF:=Qa hF;refine callsD_of_wpS Tryz.func114 rfl fun c₀ cs hu=>?_;apply wpS_seq
 apply wpS_region
 simp[wpOpsS,go_sem,recoverD,hu,Tryz.ntmps114,Exit.thenS]
 rw[show (#[QjG Fb]++((Array.replicate 15 undef).setIfInBounds 3 (Value.iface 163 (.int .i64 c))).setIfInBounds 0 (Value.iface 163 (.int .i64 c)):Array Value)=#[QjG Fb,Value.iface 163 (.int .i64 c),undef,undef,Value.iface 163 (.int .i64 c),undef,undef,undef,undef,undef,undef,undef,undef,undef,undef,undef] from rfl]
 refine wpS_of_wp ?_;have hta:∀ w:World,(Instr.typeAssert (.iface 163 (.int .i64 c)) 20 163 true).run Tryz.prog w=.ok (.tuple #[.int .i64 c,.bool true]) w:=fun _=>by kernel_rfl
 clear hF;go_wp2
 have D2:Blk (w.setCell ⟨Fb,0,none⟩ (.int .i64 c)) Fb #[.int .i64 c] 3:=by
  have:=Qr HF.out 0 (.int .i64 c)
  simpa using this
 have D3:Chg Fb w (w.setCell ⟨Fb,0,none⟩ (.int .i64 c)):=Chg.set w 0 _ hFl;exact(show bodyPostS _ _ _ _ _ _ _ _ _ from ⟨rfl,_,rfl,.tuple #[],by simp[results,Tryz.results114,go_sem],rfl,rfl,D2,D3⟩)
theorem QfG {w:World}(Fb:Nat) :
 CallsD Tryz.prog 114 #[QjG Fb] .returning w fun e u' w'=>e=.returned (.tuple #[])∧u'=.returning∧w'=w:=by
 refine callsD_of_wpS Tryz.func114 rfl fun c₀ cs hu=>?_;apply wpS_seq
 apply wpS_region
 simp[wpOpsS,go_sem,recoverD,hu,Tryz.ntmps114,Exit.thenS]
 rw[show (#[QjG Fb]++((Array.replicate 15 undef).setIfInBounds 3 (Value.nilIface)).setIfInBounds 0 (Value.nilIface):Array Value)=#[QjG Fb,Value.nilIface,undef,undef,Value.nilIface,undef,undef,undef,undef,undef,undef,undef,undef,undef,undef,undef] from rfl]
 refine wpS_of_wp ?_;go_wp2_with fail
 cases c₀
 simp_all [bodyPostS,results,Tryz.results114]
def QkE (Fb:Nat) (R1:World→Prop) (R2:Int→World→Prop) (en:Ending) (w2:World):Prop :=
 Blk w2 Fb #[.int .i64 0] 3∧((en=.returned (.tuple #[])∧R1 w2)∨(∃ c,en=.panicked (QeK c)∧R2 c w2))
def Qfx (Fb:Nat) (R1:World→Prop) (R2:Int→World→Prop) (en:Ending) (w':World):Prop :=
 (∃ w2,R1 w2∧en=.returned (.int .i64 0)∧Chg Fb w2 w')∨(∃ w2,∃ c:Int,R2 c w2∧en=.returned (.int .i64 c)∧Chg Fb w2 w')
theorem Qc7 {w:World}(F:Nat) (caps:Array Value) (hE0:Qc6 F) (R1:World→Prop) (R2:Int→World→Prop) (WORK:Calls Tryz.prog F caps (w.alloc (.cells #[.int .i64 0] 3)) fun en w2=>QkE w.heap.size R1 R2 en w2) :
 Calls Tryz.prog 69 #[.func (.func F) #[] caps] w fun en w'=>Qfx w.heap.size R1 R2 en w':=by
 have hmf:∀ (fn:Fn) (first cap:Array Value) (w:World),(Instr.makeFunc fn first cap).run Tryz.prog w=.ok (.func fn first cap) w:=fun _ _ _ _=>rfl;have hE:=hE0;unfold Qc6 at hE;have WK:Hid (Calls Tryz.prog F caps (w.alloc (.cells #[.int .i64 0] 3)) fun en w2=>QkE w.heap.size R1 R2 en w2):=WORK;clear WORK hE0;go_enter_defers Tryz.func69,Tryz.ntmps69
 go_wp2_with fail
 refine WK.out.mono ?_;rintro e' w4 ⟨hF,⟨rfl,hR⟩|⟨c,rfl,hR⟩⟩
 ·have F4:=Qa hF;have yF0:=Qb F4.out 0 _ rfl;have zF0:=Qt F4.out 0;have RR:Hid (R1 w4):=hR;clear hF hR WK hE;go_wp2
  have D2:Blk (w4.setCell ⟨w.heap.size,0,none⟩ (.int .i64 0)) w.heap.size #[.int .i64 0] 3:=by
   have:=Qr F4.out 0 (.int .i64 0)
   simpa using this
  have D3:Chg w.heap.size w4 (w4.setCell ⟨w.heap.size,0,none⟩ (.int .i64 0)):=Chg.set w4 0 _ F4.out.lt;clear yF0 zF0;generalize w4.setCell ⟨w.heap.size,0,none⟩ (.int .i64 0)=w5 at D2 D3 ⊢;refine leaves_cons (f:=114) (args:=#[QjG w.heap.size]) (by simp) (by simp[go_sem]) ?_;refine(QfG w.heap.size).mono ?_
  rintro e1 u1 w6 ⟨rfl,rfl,rfl⟩;have x1:=Qb D2 0 _ rfl;exact⟨.int .i64 0,by simp[results,Tryz.results69,go_sem,x1],.inl ⟨w4,RR.out,rfl,D3⟩⟩
 ·show bodyPostD _ _ _ _ _ _;refine leaves_cons (f:=114) (args:=#[QjG w.heap.size]) (by simp) (by simp[go_sem]) ?_;refine(QcU c hF).mono ?_
  rintro e1 u1 w5 ⟨rfl,rfl,d2,d3⟩;have x1:=Qb d2 0 _ rfl;exact⟨.int .i64 c,by simp[results,Tryz.results69,go_sem,x1],.inr ⟨w4,c,hR,rfl,d3⟩⟩
theorem Qj9 {w:World}{b:Nat}{O A Q:Nat→Prop}{s:JSt}{x:Qv}{rg ag:Option Addr}{rc ac:Nat}(hA:∀ k,A k→k<w.heap.size) (hJ:JOk s) (h:SAt w b O A s) (hregs:intsL.In w Q x.regs [.slice rg x.regs.length rc]) (hargs:intsL.In w Q x.args [.slice ag x.args.length ac]) (hrc:x.regs.length≤rc) (hrng:ZE x) (hf:x.form s.m.length=0) :
 Calls Tryz.prog 71 #[.pointer (some ⟨b,0,none⟩),QaR x rg ag rc ac] w fun e w'=>Zd w b O A s (s.next x) (s.goC x) e w':=by
 obtain⟨-,-,-,f4⟩:=Zh hf
 rcases f4 with e | e | e | e | e | e | e | e | e | e | e | e | e | e
 ·exact Qkb hA hJ h hregs hargs hrc hrng hf e
 ·exact Qj6 hA hJ h hregs hargs hrc hrng hf e
 ·exact Qkq hA hJ h hregs hargs hrc hrng hf e
 ·exact QiZ hA hJ h hregs hargs hrc hrng hf e
 ·exact QhK hA hJ h hregs hargs hrc hrng hf e
 ·exact Qkl hA hJ h hregs hargs hrc hrng hf e
 ·exact Qkc hA hJ h hregs hargs hrc hrng hf e
 ·exact QhQ hA hJ h hregs hargs hrc hrng hf e
 ·exact Qjk hA hJ h hregs hargs hrc hrng hf e
 ·exact Qir hA hJ h hregs hargs hrc hrng hf e
 ·exact Qkn hA hJ h hregs hargs hrc hrng hf e
 ·exact Qk7 hA hJ h hregs hargs hrc hrng hf e
 ·exact QjL hA hJ h hregs hargs hrc hrng hf e
 ·exact QiQ hA hJ h hregs hargs hrc hrng hf e
theorem STo.seal {w wc w2 w9:World}{b F0:Nat}{O A:Nat→Prop}{s:JSt}(hO:∀ k,O k→k<w.heap.size) (hb:Below w.heap.size w wc) (hF:w.heap.size≤F0∧F0<wc.heap.size) (h:STo wc w2 b O (fun k=>A k∨(w.heap.size≤k∧k<wc.heap.size)) s) (hc:Chg F0 w2 w9):STo w w9 b O A s:=by
 obtain⟨N,h1,h2,h3⟩:=h
 have e1:=hb.size;have e2:=h3.size;have e3:=hc.size;refine⟨fun k=>N k∨(w.heap.size≤k∧k<wc.heap.size),fun k hk=>?_,?_,?_⟩
 ·rcases hk with hk | hk
  ·have:=h1 k hk;omega
  ·omega
 ·refine h2.keep (fun k hl hk=>hc.block k hl (fun e=>?_)) (fun k hk _=>?_) (fun k hk _ e=>hk ?_) (fun k hk=>?_)
  ·subst e;rcases hk with hk | hk
   ·rcases hk with hk | hk
    ·have:=hO k hk;omega
    ·have:=h1 k hk;omega
   ·exact hk (.inl (.inr hF))
  ·rcases hk with hk | hk
   ·exact .inl hk
   ·exact .inr (.inl hk)
  ·rcases e with e | e | e
   ·exact .inl (.inl e)
   ·exact .inr e
   ·exact .inl (.inr e)
  ·rcases hk with hk | hk
   ·have:=h2.sub k (.inl hk)
    rcases this with (h | h) | h
    ·exact .inl h
    ·exact .inr (.inr h)
    ·exact .inr (.inl h)
   ·exact .inr hk
 ·refine⟨hc.os.trans (h3.os.trans hb.os),hc.tape.trans (h3.tape.trans hb.tape),hc.output.trans (h3.output.trans hb.output),by omega,fun k hk hn=>?_,fun k hk=>?_⟩
  ·exact(hc.block k (by omega) (by omega)).trans ((h3.block k (by omega) hn).trans (hb.block k hk))
  ·rcases hk with hk | hk | hk
   ·exact .inl hk
   ·have:=h1 k hk;exact .inr (by omega)
   ·exact .inr hk.1
theorem SAt.wall {w wc:World}{b:Nat}{O A:Nat→Prop}{s:JSt}(h:SAt w b O A s) (hb:Below w.heap.size w wc):SAt wc b O (fun k=>A k∨(w.heap.size≤k∧k<wc.heap.size)) s :=
 h.keep (fun g hg _=>hb.block g hg) (fun _ h _=>h) (fun k hk hl e=>by rcases e with e | e;exact hk e;omega) (fun k hk=>.inl (h.sub k hk))
theorem enters_ins1:Qc6 70:=fun _ _=>by kernel_rfl
theorem enters_end1:Qc6 77:=fun _ _=>by kernel_rfl
def QlY (b S0 X nm cm rc ac:Nat) (cf:Int) (pm rg ag:Option Addr) (x:Qv) (t:Tmp) (v:Value) (w:World):Prop :=
 v=(([(2,.pointer (some ⟨S0,0,none⟩)),(3,.pointer (some ⟨X,0,none⟩)),(6,.pointer (some ⟨b,0,none⟩)),(7,.pointer (some ⟨b,0,none⟩)),(8,.pointer (some ⟨b,0,none⟩)),(9,.agg #[.slice pm nm cm]),(10,.agg #[.int .i64 x.op,.int .i64 x.a,.int .i64 x.b,.int .i64 x.c,.int .i64 x.k,.int .i64 x.n,.slice rg x.regs.length rc,.slice ag x.args.length ac]),(11,.int .i64 cf),(5,.int .i64 cf)]:List (Tmp × Value)).lookup t).getD undef
theorem ji1 {w6:World}{b S0 X nm cm rc ac:Nat}{cf:Int}{pm rg ag:Option Addr}{x:Qv}(s0:w6.cell? ⟨S0,0,none⟩=some (.pointer (some ⟨b,0,none⟩))) (q0:w6.cell? ⟨b,0,none⟩=some (.slice pm nm cm)) (x0:w6.cell? ⟨X,0,none⟩=some (.int .i64 x.op)) (x1:w6.cell? ⟨X,1,none⟩=some (.int .i64 x.a)) (x2:w6.cell? ⟨X,2,none⟩=some (.int .i64 x.b)) (x3:w6.cell? ⟨X,3,none⟩=some (.int .i64 x.c)) (x4:w6.cell? ⟨X,4,none⟩=some (.int .i64 x.k)) (x5:w6.cell? ⟨X,5,none⟩=some (.int .i64 x.n)) (x6:w6.cell? ⟨X,6,none⟩=some (.slice rg x.regs.length rc)) (x7:w6.cell? ⟨X,7,none⟩=some (.slice ag x.args.length ac)) (hnm:nm<2305843009213693952) (HC:Hid (x.form nm=cf))
 (a:Act) (m:Nat) (hn:a.tmps.size=m) (hn':17≤m) (h2:a.tmps.getD 2 undef=.pointer (some ⟨S0,0,none⟩)) (h3:a.tmps.getD 3 undef=.pointer (some ⟨X,0,none⟩)) :
 Code.wp Tryz.prog ((Tryz.f23.body.bind (Ql 1)).getD .skip) (fun e a' w'=>e=.normal∧∃ vs,a'=Ze a vs [6,7,8,9,10,11,5]∧vs 5=.int .i64 cf∧Below w6.heap.size w6 w') a w6:=by
 conv=>arg 2;whnf
 refine QF (QlY b S0 X nm cm rc ac cf pm rg ag x) (fun w=>Below w6.heap.size w6 w) (fun w w'=>Below w.heap.size w w') (outs:=[2,3]) (gs:=[]) (bs:=[true,true,true,true,true,true,true]) (by kernel_rfl) (n:=17) hn hn' (by kernel_rfl) ?hR ?hG (Qi (Below.refl _ _) 1) ⟨h2,h3,trivial⟩ ?hA ?hend
 case hR=>exact fun t v w w' _ h=>h
 case hG=>exact trivial
 case hend=>exact fun vs w' hW hk=>⟨rfl,vs,rfl,hk 5 (by kernel_rfl),hW⟩
 case hA =>
  refine⟨fun a w hW hk K hK=>?_,?_⟩
  ·obtain⟨k0,-⟩:=hk
   have k0:a.tmps.getD 2 undef=.pointer (some ⟨S0,0,none⟩):=k0;have c0:=Qk s0 hW;go_simp;exact hK _ _ (Below.refl _ _) hW rfl
  refine⟨fun a w hW hk K hK=>?_,?_⟩
  ·obtain⟨k0,-⟩:=hk
   have k0:a.tmps.getD 6 undef=.pointer (some ⟨b,0,none⟩):=k0;go_simp;exact hK _ _ (Below.refl _ _) hW rfl
  refine⟨fun a w hW hk K hK=>?_,?_⟩
  ·obtain⟨k0,-⟩:=hk
   have k0:a.tmps.getD 7 undef=.pointer (some ⟨b,0,none⟩):=k0;go_simp;exact hK _ _ (Below.refl _ _) hW rfl
  refine⟨fun a w hW hk K hK=>?_,?_⟩
  ·obtain⟨k0,-⟩:=hk
   have k0:a.tmps.getD 8 undef=.pointer (some ⟨b,0,none⟩):=k0;have c0:=Qk q0 hW;go_simp;exact hK _ _ (Below.refl _ _) hW rfl
  refine⟨fun a w hW hk K hK=>?_,?_⟩
  ·obtain⟨k0,-⟩:=hk
   have k0:a.tmps.getD 3 undef=.pointer (some ⟨X,0,none⟩):=k0;have c0:=Qk x0 hW;have c1:=Qk x1 hW;have c2:=Qk x2 hW;have c3:=Qk x3 hW;have c4:=Qk x4 hW;have c5:=Qk x5 hW;have c6:=Qk x6 hW;have c7:=Qk x7 hW;go_simp;exact hK _ _ (Below.refl _ _) hW rfl
  refine⟨fun a w hW hk K hK=>?_,?_⟩
  ·obtain⟨k0,k1,-⟩:=hk
   have k0:a.tmps.getD 9 undef=.agg #[.slice pm nm cm]:=k0;have k1:a.tmps.getD 10 undef=.agg #[.int .i64 x.op,.int .i64 x.a,.int .i64 x.b,.int .i64 x.c,.int .i64 x.k,.int .i64 x.n,.slice rg x.regs.length rc,.slice ag x.args.length ac]:=k1;go_simp;refine Calls.mono (Qgi nm x ⟨rg,rc,ag,ac⟩ pm cm _ hnm) ?_;rw[HC.out];rintro r7 w7 ⟨rfl,b7⟩;go_simp;exact hK _ _ b7 (hW.trans (b7.mono hW.size)) rfl
  refine⟨fun a w hW hk K hK=>?_,?_⟩
  ·obtain⟨k0,-⟩:=hk
   have k0:a.tmps.getD 11 undef=.int .i64 cf:=k0;go_simp;exact hK _ _ (Below.refl _ _) hW rfl
  trivial
theorem Qh4 {w:World}{b S0 X:Nat}{O A Q:Nat→Prop}{s:JSt}{x:Qv}{rg ag:Option Addr}{rc ac:Nat}(hS:Blk w S0 #[.pointer (some ⟨b,0,none⟩)] 48) (hX:Blk w X #[.int .i64 x.op,.int .i64 x.a,.int .i64 x.b,.int .i64 x.c,.int .i64 x.k,.int .i64 x.n,.slice rg x.regs.length rc,.slice ag x.args.length ac] 59) (hA:∀ k,A k→k<w.heap.size) (hJ:JOk s) (h:SAt w b O A s) (hregs:intsL.In w Q x.regs [.slice rg x.regs.length rc]) (hargs:intsL.In w Q x.args [.slice ag x.args.length ac]) (hrc:x.regs.length≤rc) (hrng:ZE x) (hf:x.form s.m.length=0) :
 Calls Tryz.prog 70 #[.pointer (some ⟨S0,0,none⟩),.pointer (some ⟨X,0,none⟩)] w fun e w'=>Zd w b O A s (s.next x) (s.goC x) e w':=by
 have C:=Qa (Qj9 hA hJ h hregs hargs hrc hrng hf);have s0:=Qb hS 0 _ rfl;have x0:=Qb hX 0 _ rfl;have x1:=Qb hX 1 _ rfl;have x2:=Qb hX 2 _ rfl;have x3:=Qb hX 3 _ rfl;have x4:=Qb hX 4 _ rfl;have x5:=Qb hX 5 _ rfl;have x6:=Qb hX 6 _ rfl;have x7:=Qb hX 7 _ rfl;clear hS hX hA hJ h hregs hargs hrc hrng hf;go_enter Tryz.func70,Tryz.ntmps70
 go_wp2_with fail
 refine C.out.mono ?_;rintro e' w9 hd;have FF:=Qa hd;rcases hd with ⟨h1,rfl,h3⟩|⟨h1,rfl,h3⟩
 rotate_left
 ·exact⟨rfl,FF.out⟩
 clear h1 h3 C;go_wp2
 exact bodyPost_end (v:=.tuple #[]) (by simp[results,Tryz.results70,go_sem]) rfl FF.out
theorem Qer {w:World}{b:Nat}{O A Q:Nat→Prop}{s:JSt}{x:Qv}{rg ag:Option Addr}{rc ac:Nat}(hA:∀ k,A k→k<w.heap.size) (hJ:JOk s) (h:SAt w b O A s) (hregs:intsL.In w Q x.regs [.slice rg x.regs.length rc]) (hargs:intsL.In w Q x.args [.slice ag x.args.length ac]) (hrc:x.regs.length≤rc) (hrng:ZE x) :
 Calls Tryz.prog 23 #[.pointer (some ⟨b,0,none⟩),QaR x rg ag rc ac] w fun e w'=>e=.returned (.int .i64 (s.code x))∧STo w w' b O A (s.ins x):=by
 have hmf:∀ (fn:Fn) (first cap:Array Value) (w:World),(Instr.makeFunc fn first cap).run Tryz.prog w=.ok (.func fn first cap) w:=fun _ _ _ _=>rfl;have HJ:=Qa hJ;have H0:=Qa h;have HA0:=Qa hA;have HRN:=Qa hrng;have HRC:=Qa hrc;have b1:=Q5 w (.cells #[.pointer (some ⟨b,0,none⟩)] 48);have b2:=Q5 (w.alloc (.cells #[.pointer (some ⟨b,0,none⟩)] 48)) (.cells #[.int .i64 x.op,.int .i64 x.a,.int .i64 x.b,.int .i64 x.c,.int .i64 x.k,.int .i64 x.n,.slice rg x.regs.length rc,.slice ag x.args.length ac] 59);have bb:=b1.trans (b2.mono b1.size);have HB:=Qa bb;have H:=Qa (h.below bb);have HR:Hid (intsL.In _ Q x.regs [.slice rg x.regs.length rc]):=Lay.below hregs bb;have HG:Hid (intsL.In _ Q x.args [.slice ag x.args.length ac]):=Lay.below hargs bb;have hS:Blk ((w.alloc (.cells #[.pointer (some ⟨b,0,none⟩)] 48)).alloc (.cells #[.int .i64 x.op,.int .i64 x.a,.int .i64 x.b,.int .i64 x.c,.int .i64 x.k,.int .i64 x.n,.slice rg x.regs.length rc,.slice ag x.args.length ac] 59)) w.heap.size #[.pointer (some ⟨b,0,none⟩)] 48:=(Blk.new _ _ _:Blk (w.alloc (.cells #[.pointer (some ⟨b,0,none⟩)] 48)) w.heap.size _ _).below b2
 have hX:Blk ((w.alloc (.cells #[.pointer (some ⟨b,0,none⟩)] 48)).alloc (.cells #[.int .i64 x.op,.int .i64 x.a,.int .i64 x.b,.int .i64 x.c,.int .i64 x.k,.int .i64 x.n,.slice rg x.regs.length rc,.slice ag x.args.length ac] 59)) (w.heap.size+1) #[.int .i64 x.op,.int .i64 x.a,.int .i64 x.b,.int .i64 x.c,.int .i64 x.k,.int .i64 x.n,.slice rg x.regs.length rc,.slice ag x.args.length ac] 59:=by
  have:=Blk.new (w.alloc (.cells #[.pointer (some ⟨b,0,none⟩)] 48)) #[.int .i64 x.op,.int .i64 x.a,.int .i64 x.b,.int .i64 x.c,.int .i64 x.k,.int .i64 x.n,.slice rg x.regs.length rc,.slice ag x.args.length ac] 59
  simpa using this
 have HS:=Qa hS;have HX:=Qa hX;clear hS hX b1 b2 bb h hA hJ hregs hargs hrc hrng;go_enter Tryz.func23,Tryz.ntmps23
 go_upto_region 1 with fail
 generalize (w.alloc (.cells #[.pointer (some ⟨b,0,none⟩)] 48)).alloc (.cells #[.int .i64 x.op,.int .i64 x.a,.int .i64 x.b,.int .i64 x.c,.int .i64 x.k,.int .i64 x.n,.slice rg x.regs.length rc,.slice ag x.args.length ac] 59)=w1 at HB H HR HG HS HX ⊢;obtain⟨S0,hS0⟩:∃ S0,w.heap.size=S0:=⟨_,rfl⟩
 obtain⟨X,hX⟩:∃ X,S0+1=X:=⟨_,rfl⟩
 rw[hS0] at HS HX ⊢
 rw[hX] at HX ⊢
 clear hX hS0;have s0:=Qb HS.out 0 _ rfl;have x0:=Qb HX.out 0 _ rfl;have x1:=Qb HX.out 1 _ rfl;have x2:=Qb HX.out 2 _ rfl;have x3:=Qb HX.out 3 _ rfl;have x4:=Qb HX.out 4 _ rfl;have x5:=Qb HX.out 5 _ rfl;have x6:=Qb HX.out 6 _ rfl;have x7:=Qb HX.out 7 _ rfl;obtain⟨pm,cm,hh,a1,c1,a2,c2,a3,c3,aL,cL,RR⟩:=H.out.read
 obtain⟨q0,-⟩:=RR.cells
 obtain⟨cf,hcf⟩:∃ cf,x.form s.m.length=cf:=⟨_,rfl⟩
 have HCF:Hid (x.form s.m.length=cf):=hcf;clear hcf RR;refine Code.wp_mono ?_ (ji1 s0 q0 x0 x1 x2 x3 x4 x5 x6 x7 (by have:=HJ.out.mod.1.2;omega) HCF _ _ rfl (Nat.le_of_ble_eq_true (by kernel_rfl)) rfl rfl);rintro ee aa w5 ⟨rfl,vs,rfl,hv5,hb⟩;simp only[Ze,Act.put,List.setIfInBounds_toArray,List.set_cons_zero,List.set_cons_succ,hv5]
 have HB5:=Qa (HB.out.trans (hb.mono HB.out.size));have HS5:=Qa (HS.out.below hb);have HX5:=Qa (HX.out.below hb);have HR5:Hid (intsL.In w5 Q x.regs [.slice rg x.regs.length rc]):=Lay.below HR.out hb;have HG5:Hid (intsL.In w5 Q x.args [.slice ag x.args.length ac]):=Lay.below HG.out hb;clear hb hv5 s0 x0 x1 x2 x3 x4 x5 x6 x7 q0 HS HX HR HG HB H;by_cases hc0:cf=0
 rotate_left
 ·have hc0':(cf!=0)=true:=by simpa using hc0
  have E1:Hid (s.code x=cf):=by show _=_;unfold JSt.code;rw[HCF.out,if_pos hc0]
  have E2:Hid (s.ins x=s):=by show _=_;unfold JSt.ins;rw[if_neg (by rw[E1.out];exact hc0)]
  go_wp2_with fail
  go_ret;exact⟨by rw[E1.out];rfl,by rw[E2.out];exact STo.of_below H0.out HB5.out⟩
 subst hc0;have EC:=Qa (Qdc HCF.out);have b6:=Q5 w5 (.cells #[.int .i64 0] 3);have bb6:=HB5.out.trans (b6.mono HB5.out.size);have HB6:=Qa bb6
 have CK:Hid (Calls Tryz.prog 69 #[.func (.func 70) #[] #[.pointer (some ⟨S0,0,none⟩),.pointer (some ⟨X,0,none⟩)]] w5 fun en w'=>Qfx w5.heap.size (fun w2=>s.goC x=0∧STo (w5.alloc (.cells #[.int .i64 0] 3)) w2 b O (fun k=>A k∨(w.heap.size≤k∧k<(w5.alloc (.cells #[.int .i64 0] 3)).heap.size)) (s.next x)) (fun c w2=>s.goC x=c∧c≠0∧STo (w5.alloc (.cells #[.int .i64 0] 3)) w2 b O (fun k=>A k∨(w.heap.size≤k∧k<(w5.alloc (.cells #[.int .i64 0] 3)).heap.size)) s) en w'):=by
  refine Qc7 _ _ enters_ins1 _ _ ?_;refine(Qh4 (A:=fun k=>A k∨(w.heap.size≤k∧k<(w5.alloc (.cells #[.int .i64 0] 3)).heap.size)) (HS5.out.below b6) (HX5.out.below b6) (fun k hk=>?_) HJ.out (H0.out.wall bb6) (Lay.below HR5.out b6) (Lay.below HG5.out b6) HRC.out HRN.out HCF.out).mono ?_
  ·rcases hk with hk | hk
   ·exact Nat.lt_of_lt_of_le (HA0.out k hk) bb6.size
   ·exact hk.2
  ·intro en w2 hd
   have hcell:STo (w5.alloc (.cells #[.int .i64 0] 3)) w2 b O (fun k=>A k∨(w.heap.size≤k∧k<(w5.alloc (.cells #[.int .i64 0] 3)).heap.size)) s∨STo (w5.alloc (.cells #[.int .i64 0] 3)) w2 b O (fun k=>A k∨(w.heap.size≤k∧k<(w5.alloc (.cells #[.int .i64 0] 3)).heap.size)) (s.next x):=by
    rcases hd with ⟨-,-,h⟩|⟨-,-,h⟩
    ·exact .inr h
    ·exact .inl h
   have hkeep:Blk w2 w5.heap.size #[.int .i64 0] 3:=by
    have hn:Blk (w5.alloc (.cells #[.int .i64 0] 3)) w5.heap.size #[.int .i64 0] 3:=Blk.new _ _ _;have hno:¬ O w5.heap.size:=fun e=>by have h1:=HA0.out _ (H0.out.sub _ e);have h2:=HB5.out.size;omega
    rcases hcell with ⟨N,-,-,st⟩|⟨N,-,-,st⟩
    ·exact(st.block _ hn.lt hno).trans hn
    ·exact(st.block _ hn.lt hno).trans hn
   rcases hd with ⟨h1,h2,h3⟩|⟨h1,h2,h3⟩
   ·exact⟨hkeep,.inl ⟨h2,h1,h3⟩⟩
   ·exact⟨hkeep,.inr ⟨_,h2,rfl,h1,h3⟩⟩
 have HSE:Hid (∀ w2 w9 s',STo (w5.alloc (.cells #[.int .i64 0] 3)) w2 b O (fun k=>A k∨(w.heap.size≤k∧k<(w5.alloc (.cells #[.int .i64 0] 3)).heap.size)) s'→Chg w5.heap.size w2 w9→STo w w9 b O A s'):=fun w2 w9 s' h1 h2=>STo.seal (fun k hk=>HA0.out k (H0.out.sub k hk)) HB6.out ⟨HB5.out.size,by simp⟩ h1 h2;clear b6 bb6 HS5 HX5 HR5 HG5;go_wp2_with fail
 refine CK.out.mono ?_;intro e' w9 hk
 have FF:Hid (e'=.returned (.int .i64 (s.code x))∧STo w w9 b O A (s.ins x)):=by
  rcases hk with ⟨w2,⟨g1,g2⟩,rfl,g3⟩|⟨w2,c,⟨g1,g2,g3⟩,rfl,g4⟩
  ·have e0:s.code x=0:=by rw[EC.out,g1]
   refine⟨by rw[e0],?_⟩
   unfold JSt.ins;rw[if_pos e0]
   exact HSE.out w2 w9 _ g2 g3
  ·have e0:s.code x=c:=by rw[EC.out,g1]
   refine⟨by rw[e0],?_⟩
   unfold JSt.ins;rw[if_neg (by rw[e0];exact g2)]
   exact HSE.out w2 w9 _ g3 g4
 obtain⟨rfl,-⟩:=id FF.out
 clear hk CK HSE;go_wp2
 go_ret;exact⟨rfl,FF.out.2⟩
def QlV (b S0 X fl c1 fm c2 bl c3:Nat) (fr cf:Int) (a1 a2 a3:Option Addr) (x:Z3) (e:EP) (t:Tmp) (v:Value) (w:World):Prop :=
 v=(([(2,.pointer (some ⟨S0,0,none⟩)),(3,.pointer (some ⟨X,0,none⟩)),(6,.pointer (some ⟨b,0,none⟩)),(7,.pointer (some ⟨b,0,none⟩)),(8,.pointer (some ⟨b,2,none⟩)),(9,.agg #[.int .i64 fr,.slice a1 fl c1,.slice a2 fm c2,.slice a3 bl c3]),(10,.agg (ZO x e)),(11,.int .i64 cf),(5,.int .i64 cf)]:List (Tmp × Value)).lookup t).getD undef
theorem jE1 {w6:World}{b S0 X fl c1 fm c2 bl c3:Nat}{fr cf:Int}{a1 a2 a3:Option Addr}{x:Z3}{e:EP}(s0:w6.cell? ⟨S0,0,none⟩=some (.pointer (some ⟨b,0,none⟩))) (q2:w6.cell? ⟨b,2,none⟩=some (.int .i64 fr)) (q3:w6.cell? ⟨b,3,none⟩=some (.slice a1 fl c1)) (q4:w6.cell? ⟨b,4,none⟩=some (.slice a2 fm c2)) (q5:w6.cell? ⟨b,5,none⟩=some (.slice a3 bl c3)) (HX:Hid (w6.rangeAt X 0 (ZO x e).toList)) (HS:Hid (x.yes.regs.length<2305843009213693952∧x.yes.args.length<2305843009213693952∧x.no.regs.length<2305843009213693952∧x.no.args.length<2305843009213693952)) (hbl:bl<2305843009213693952) (HC:Hid (x.form bl=cf))
 (a:Act) (m:Nat) (hn:a.tmps.size=m) (hn':17≤m) (h2:a.tmps.getD 2 undef=.pointer (some ⟨S0,0,none⟩)) (h3:a.tmps.getD 3 undef=.pointer (some ⟨X,0,none⟩)) :
 Code.wp Tryz.prog ((Tryz.f31.body.bind (Ql 1)).getD .skip) (fun e a' w'=>e=.normal∧∃ vs,a'=Ze a vs [6,7,8,9,10,11,5]∧vs 5=.int .i64 cf∧Below w6.heap.size w6 w') a w6:=by
 conv=>arg 2;whnf
 refine QF (QlV b S0 X fl c1 fm c2 bl c3 fr cf a1 a2 a3 x e) (fun w=>Below w6.heap.size w6 w) (fun w w'=>Below w.heap.size w w') (outs:=[2,3]) (gs:=[]) (bs:=[true,true,true,true,true,true,true]) (by kernel_rfl) (n:=17) hn hn' (by kernel_rfl) ?hR ?hG (Qi (Below.refl _ _) 1) ⟨h2,h3,trivial⟩ ?hA ?hend
 case hR=>exact fun t v w w' _ h=>h
 case hG=>exact trivial
 case hend=>exact fun vs w' hW hk=>⟨rfl,vs,rfl,hk 5 (by kernel_rfl),hW⟩
 case hA =>
  refine⟨fun a w hW hk K hK=>?_,?_⟩
  ·obtain⟨k0,-⟩:=hk
   have k0:a.tmps.getD 2 undef=.pointer (some ⟨S0,0,none⟩):=k0;have c0:=Qk s0 hW;go_simp;exact hK _ _ (Below.refl _ _) hW rfl
  refine⟨fun a w hW hk K hK=>?_,?_⟩
  ·obtain⟨k0,-⟩:=hk
   have k0:a.tmps.getD 6 undef=.pointer (some ⟨b,0,none⟩):=k0;go_simp;exact hK _ _ (Below.refl _ _) hW rfl
  refine⟨fun a w hW hk K hK=>?_,?_⟩
  ·obtain⟨k0,-⟩:=hk
   have k0:a.tmps.getD 7 undef=.pointer (some ⟨b,0,none⟩):=k0;go_simp;exact hK _ _ (Below.refl _ _) hW rfl
  refine⟨fun a w hW hk K hK=>?_,?_⟩
  ·obtain⟨k0,-⟩:=hk
   have k0:a.tmps.getD 8 undef=.pointer (some ⟨b,2,none⟩):=k0;have c1:=Qk q2 hW;have c2:=Qk q3 hW;have c3:=Qk q4 hW;have c4:=Qk q5 hW;go_simp;exact hK _ _ (Below.refl _ _) hW rfl
  refine⟨fun a w hW hk K hK=>?_,?_⟩
  ·obtain⟨k0,-⟩:=hk
   have k0:a.tmps.getD 3 undef=.pointer (some ⟨X,0,none⟩):=k0;obtain⟨fs,hfs⟩:=underEnd
   refine wp_load_mid 47 (.tmp 3) rfl X 0 k0 (ZO x e).toList _ (Zf HX.out hW) hfs rfl sizeEnd ?_;exact hK _ _ (Below.refl _ _) hW rfl
  refine⟨fun a w hW hk K hK=>?_,?_⟩
  ·obtain⟨k0,k1,-⟩:=hk
   have k0:a.tmps.getD 9 undef=.agg #[.int .i64 fr,.slice a1 fl c1,.slice a2 fm c2,.slice a3 bl c3]:=k0;have k1:a.tmps.getD 10 undef=.agg (ZO x e):=k1;go_simp;refine Calls.mono (Qgq (x:=x) (e:=e) HS.out hbl) ?_;rw[HC.out];rintro r7 w7 ⟨rfl,b7⟩;go_simp;exact hK _ _ b7 (hW.trans (b7.mono hW.size)) rfl
  refine⟨fun a w hW hk K hK=>?_,?_⟩
  ·obtain⟨k0,-⟩:=hk
   have k0:a.tmps.getD 11 undef=.int .i64 cf:=k0;go_simp;exact hK _ _ (Below.refl _ _) hW rfl
  trivial
theorem Qew {w:World}{X:Nat}{c:Array Value}{t:TypeId}(h:Blk w X c t):w.rangeAt X 0 c.toList:=fun j v hj=>by
 rw[Nat.zero_add]
 rw[Array.getElem?_toList] at hj
 exact Qb h j v hj
theorem QhN {w:World}{b S0 X:Nat}{O A Q:Nat→Prop}{s:JSt}{x:Z3}{e:EP}(hS:Blk w S0 #[.pointer (some ⟨b,0,none⟩)] 48) (hX:Blk w X (ZO x e) 47) (hJ:JOk s) (hO:∀ k,O k→k<w.heap.size) (h:SAt w b O A s) (hx:Qbn w Q x e) (hra:-9223372036854775808≤x.a∧x.a≤9223372036854775807) (hf:x.form s.f.blocks.length=0) :
 Calls Tryz.prog 77 #[.pointer (some ⟨S0,0,none⟩),.pointer (some ⟨X,0,none⟩)] w fun r w'=>Qab (s.fin x) VNone r∧Below w.heap.size w w':=by
 have C:=Qa (Qjm hJ hO h hx hra hf);have s0:=Qb hS 0 _ rfl;have HX:=Qa (Qew hX);clear hS hX hJ h hx hra hf hO;obtain⟨fs,hfs⟩:=underEnd
 have HFS:=Qa hfs;clear hfs;generalize hds:ZO x e=ds at C HX;have HSZ:Hid ((Tryz.prog.info? 47).map (·.size)=some ds.toList.length):=by show _=_;rw[← hds];exact sizeEnd
 clear hds;go_enter Tryz.func77,Tryz.ntmps77
 go_wp2_with (refine wpList_load_mid rfl 47 (.tmp 1) rfl X 0 rfl ds.toList _ HX.out HFS.out rfl HSZ.out ?_)
 refine C.out.mono ?_;rintro e' w9 hd;have FF:=Qa hd;obtain⟨hq,b9⟩:=hd
 rcases hq with ⟨hc,y,rfl,hy⟩|⟨hc,rfl⟩
 rotate_left
 ·exact⟨rfl,FF.out⟩
 subst hy;clear hc b9 C;go_wp2
 exact bodyPost_end (v:=.tuple #[]) (by simp[results,Tryz.results77,go_sem]) rfl FF.out
theorem Qi1 {w:World}{b:Nat}{O A Q:Nat→Prop}{s:JSt}{x:Z3}{e:EP}(hA:∀ k,A k→k<w.heap.size) (hJ:JOk s) (h:SAt w b O A s) (hx:Qbn w Q x e) (hra:-9223372036854775808≤x.a∧x.a≤9223372036854775807) (hs:x.yes.regs.length<2305843009213693952∧x.yes.args.length<2305843009213693952∧x.no.regs.length<2305843009213693952∧x.no.args.length<2305843009213693952) :
 Calls Tryz.prog 31 #[.pointer (some ⟨b,0,none⟩),.agg (ZO x e)] w fun r w'=>r=.returned (.int .i64 (s.fin x))∧Below w.heap.size w w':=by
 have hmf:∀ (fn:Fn) (first cap:Array Value) (w:World),(Instr.makeFunc fn first cap).run Tryz.prog w=.ok (.func fn first cap) w:=fun _ _ _ _=>rfl;have HJ:=Qa hJ;have H0:=Qa h;have HA0:=Qa hA;have HRA:=Qa hra;have HSS:=Qa hs;have b1:=Q5 w (.cells #[.pointer (some ⟨b,0,none⟩)] 48);have b2:=Q5 (w.alloc (.cells #[.pointer (some ⟨b,0,none⟩)] 48)) (.cells #[.int .i64 x.op,.int .i64 x.a,.int .i64 x.yes.block,.slice e.pYR x.yes.regs.length e.cYR,.slice e.pYA x.yes.args.length e.cYA,.int .i64 x.no.block,.slice e.pNR x.no.regs.length e.cNR,.slice e.pNA x.no.args.length e.cNA,.slice e.pA x.args.length e.cA] 47);have bb:=b1.trans (b2.mono b1.size);have HB:=Qa bb;have H:=Qa (h.below bb);have HEI:=Qa (hx.below bb);have hS:Blk ((w.alloc (.cells #[.pointer (some ⟨b,0,none⟩)] 48)).alloc (.cells #[.int .i64 x.op,.int .i64 x.a,.int .i64 x.yes.block,.slice e.pYR x.yes.regs.length e.cYR,.slice e.pYA x.yes.args.length e.cYA,.int .i64 x.no.block,.slice e.pNR x.no.regs.length e.cNR,.slice e.pNA x.no.args.length e.cNA,.slice e.pA x.args.length e.cA] 47)) w.heap.size #[.pointer (some ⟨b,0,none⟩)] 48:=(Blk.new _ _ _:Blk (w.alloc (.cells #[.pointer (some ⟨b,0,none⟩)] 48)) w.heap.size _ _).below b2
 have hX:Blk ((w.alloc (.cells #[.pointer (some ⟨b,0,none⟩)] 48)).alloc (.cells #[.int .i64 x.op,.int .i64 x.a,.int .i64 x.yes.block,.slice e.pYR x.yes.regs.length e.cYR,.slice e.pYA x.yes.args.length e.cYA,.int .i64 x.no.block,.slice e.pNR x.no.regs.length e.cNR,.slice e.pNA x.no.args.length e.cNA,.slice e.pA x.args.length e.cA] 47)) (w.heap.size+1) (ZO x e) 47:=by
  have:=Blk.new (w.alloc (.cells #[.pointer (some ⟨b,0,none⟩)] 48)) (ZO x e) 47
  simpa using this
 have HS:=Qa hS;have HX:=Qa hX;clear hS hX b1 b2 bb h hA hJ hx hra hs;go_enter Tryz.func31,Tryz.ntmps31
 go_upto_region 1 with fail
 generalize (w.alloc (.cells #[.pointer (some ⟨b,0,none⟩)] 48)).alloc (.cells #[.int .i64 x.op,.int .i64 x.a,.int .i64 x.yes.block,.slice e.pYR x.yes.regs.length e.cYR,.slice e.pYA x.yes.args.length e.cYA,.int .i64 x.no.block,.slice e.pNR x.no.regs.length e.cNR,.slice e.pNA x.no.args.length e.cNA,.slice e.pA x.args.length e.cA] 47)=w1 at HB H HEI HS HX ⊢;obtain⟨S0,hS0⟩:∃ S0,S0=w.heap.size:=⟨_,rfl⟩
 obtain⟨X,hX⟩:∃ X,X=S0+1:=⟨_,rfl⟩
 rw[← hS0] at HS HX ⊢
 rw[← hX] at HX ⊢
 have HSZ:=Qa hS0;clear hX hS0;have s0:=Qb HS.out 0 _ rfl;have HXR:=Qa (Qew HX.out);obtain⟨pm,cm,hh,a1,c1,a2,c2,a3,c3,aL,cL,RR⟩:=H.out.read
 obtain⟨-,-,q2,q3,q4,q5,-⟩:=RR.cells
 obtain⟨cf,hcf⟩:∃ cf,x.form s.f.blocks.length=cf:=⟨_,rfl⟩
 have HCF:Hid (x.form s.f.blocks.length=cf):=hcf;have HFR:=Qa (HJ.out.mod.2 s.f HJ.out.fn);clear hcf RR;refine Code.wp_mono ?_ (jE1 s0 q2 q3 q4 q5 HXR HSS (by have:=HFR.out.many.2;omega) HCF _ _ rfl (Nat.le_of_ble_eq_true (by kernel_rfl)) rfl rfl);rintro ee aa w5 ⟨rfl,vs,rfl,hv5,hb⟩;simp only[Ze,Act.put,List.setIfInBounds_toArray,List.set_cons_zero,List.set_cons_succ,hv5]
 have HB5:=Qa (HB.out.trans (hb.mono HB.out.size));have HS5:=Qa (HS.out.below hb);have HX5:=Qa (HX.out.below hb);have HE5:=Qa (HEI.out.below hb);clear hb hv5 s0 q2 q3 q4 q5 HS HX HB H HXR HEI;by_cases hc0:cf=0
 rotate_left
 ·have hc0':(cf!=0)=true:=by simpa using hc0
  have E1:Hid (s.fin x=cf):=by show _=_;unfold JSt.fin;rw[HCF.out,if_pos hc0]
  go_wp2_with fail
  go_ret;exact⟨by rw[E1.out];rfl,by first | exact HB5.out | (rw[HSZ.out];exact HB5.out)⟩
 subst hc0;have b6:=Q5 w5 (.cells #[.int .i64 0] 3);have bb6:=HB5.out.trans (b6.mono HB5.out.size)
 have CK:Hid (Calls Tryz.prog 69 #[.func (.func 77) #[] #[.pointer (some ⟨S0,0,none⟩),.pointer (some ⟨X,0,none⟩)]] w5 fun en w'=>Qfx w5.heap.size (fun w2=>s.fin x=0∧Below (w5.alloc (.cells #[.int .i64 0] 3)).heap.size (w5.alloc (.cells #[.int .i64 0] 3)) w2) (fun c w2=>s.fin x=c∧Below (w5.alloc (.cells #[.int .i64 0] 3)).heap.size (w5.alloc (.cells #[.int .i64 0] 3)) w2) en w'):=by
  refine Qc7 _ _ enters_end1 _ _ ?_;refine(QhN (HS5.out.below b6) (HX5.out.below b6) HJ.out (fun k hk=>Nat.lt_of_lt_of_le (HA0.out k (H0.out.sub k hk)) bb6.size) (H0.out.below bb6) (HE5.out.below b6) HRA.out HCF.out).mono ?_
  rintro en w2 ⟨hd,hb2⟩;have hkeep:Blk w2 w5.heap.size #[.int .i64 0] 3:=(Blk.new w5 #[.int .i64 0] 3).below hb2;rcases hd with ⟨hc,y,rfl,hy⟩|⟨hc,rfl⟩
  ·subst hy;exact⟨hkeep,.inl ⟨rfl,hc,hb2⟩⟩
  ·exact⟨hkeep,.inr ⟨_,rfl,rfl,hb2⟩⟩
 have HSE:Hid (∀ w2 w9,Below (w5.alloc (.cells #[.int .i64 0] 3)).heap.size (w5.alloc (.cells #[.int .i64 0] 3)) w2→Chg w5.heap.size w2 w9→Below w.heap.size w w9):=fun w2 w9 h1 h2 =>
  Chg.last (bb6.trans (h1.mono bb6.size)) h2 HB5.out.size (Nat.le_trans bb6.size h1.size)
 clear b6 bb6 HS5 HX5 HE5;go_wp2_with fail
 refine CK.out.mono ?_;intro e' w9 hk
 have FF:Hid (e'=.returned (.int .i64 (s.fin x))∧Below w.heap.size w w9):=by
  rcases hk with ⟨w2,⟨g1,g2⟩,rfl,g3⟩|⟨w2,c,⟨g1,g2⟩,rfl,g4⟩
  ·exact⟨by rw[g1],HSE.out w2 w9 g2 g3⟩
  ·exact⟨by rw[g1],HSE.out w2 w9 g2 g4⟩
 obtain⟨rfl,-⟩:=id FF.out
 clear hk CK HSE;go_wp2
 go_ret;first | exact⟨rfl,FF.out.2⟩ | exact⟨rfl,by rw[HSZ.out];exact FF.out.2⟩
def QbI {n:Nat}(w:World) (Q:Nat→Prop) (l:List (TT n)) (e:Ending) (w':World):Prop :=
 ∃ v ds,e=.returned v∧w'.ownsRow 0 79 3 v l.length ds∧(∀ g,v.ownBlock=some g→w.heap.size≤g)∧(∀ i x,l[i]?=some x→(Lay.tt n).In w Q x ((ds.drop (i*3)).take 3))∧Below w.heap.size w w'
theorem QdF {n:Nat}{w:World}{Q:Nat→Prop}{l:List (TT n)}{p:Option Addr}{N c:Nat}(hN:l.length=N) (hN2:N≤5000) (hl:(Qp n).In w Q l [.slice p N c]) :
 Calls Tryz.prog 63 #[.slice p N c] w fun e w'=>QbI w Q l e w':=by
 obtain⟨i0,hi,hz0,hz1,hz2⟩:=pInfoT
 have q:∀ (w:World) (a:Option Addr) (n c n' c':Nat),(binOp .eql 52 (.slice a n c) (.slice none n' c')).run Tryz.prog w=.ok (.bool a.isNone) w:=fun w a n c n' c'=>Lib.run_eql_slice_nil w _ _ a n c n' c' pUnderT;have HL:=Qa hl;have HN:=Qa hN;clear hl hN
 cases p with
 | none =>
  have hl0:l=[]:=by
   rcases l with _ | ⟨x,r⟩
   ·rfl
   ·obtain⟨g,o,ds,e,-⟩:=Lay.list_at HL.out (i:=0) (x:=x) rfl
    cases e
  subst hl0;have hN0:N=0:=by have:=HN.out;simpa using this.symm
  subst hN0;have HZ:Hid (QbI w Q ([]:List (TT n)) (.returned (.slice none 0 0)) w):=⟨.slice none 0 0,[],rfl,⟨rfl,.inl ⟨rfl,rfl⟩⟩,fun g hg=>by simp[Value.ownBlock] at hg,fun i x hx=>by simp at hx,Below.refl _ _⟩;clear HL HN;go_enter Tryz.func63,Tryz.ntmps63
  go_wp2
  go_ret;exact HZ.out
 | some ad =>
  have b1:=Q5 w (.cells #[] 79);have hown0:(w.alloc (.cells #[] 79)).ownsRow 0 79 3 (.slice (some ⟨w.heap.size,0,none⟩) 0 0) 0 []:=⟨rfl,.inr ⟨w.heap.size,0,#[],rfl,Nat.zero_le _,Qj w _ _,Nat.le_refl _,by unfold maxLen;omega,rfl,rfl⟩⟩;have HB:=Qa b1;have HOW:=Qa hown0;by_cases hn0:N=0
  ·subst hn0;have hl0:l=[]:=List.length_eq_zero_iff.1 HN.out;subst hl0;have ha:Hid (∀ (t:TypeId) (wx:World),(Builtin.append_ #[52,52] t #[.slice (some ⟨w.heap.size,0,none⟩) 0 0,.slice (some ad) 0 c]).run Tryz.prog wx=.ok (.slice (some ⟨w.heap.size,0,none⟩) 0 0) wx):=fun (t:TypeId) (wx:World)=>run_append_nothing (P:=Tryz.prog) wx 52 52 t 79 i0 pUnderT hi (some ⟨w.heap.size,0,none⟩) 0 0 (Nat.le_refl _) (.slice (some ad) 0 c) (Src.ofSlice wx pUnderT ad 0 c [] (by simp) (fun j u h=>by simp at h) (fun u h=>by cases h));have HZ:Hid (QbI w Q ([]:List (TT n)) (.returned (.slice (some ⟨w.heap.size,0,none⟩) 0 0)) (w.alloc (.cells #[] 79))):=⟨_,[],rfl,HOW.out,fun g hg=>by simp[Value.ownBlock] at hg;omega,fun i x hx=>by simp at hx,HB.out⟩;clear HL HN HB HOW hown0 b1;generalize hw1:w.alloc (.cells #[] 79)=w1 at HZ;go_enter Tryz.func63,Tryz.ntmps63
   go_wp2_with (at_builtin;refine Zz rfl (.tmp 5) (.tmp 6) 52 rfl (.slice (some ⟨w.heap.size,0,none⟩) 0 0) (.slice (some ad) 0 c) rfl rfl (ha.out _ _) ?_)
   go_ret;first | exact HZ.out | (rw[hw1];exact HZ.out)
  ·obtain⟨g0,o0,e0⟩:∃ g0 o0,(some ad)=some (⟨g0,o0,none⟩:Addr):=by
    obtain⟨g,o,dd,e,-⟩:=Lay.list_at HL.out (List.getElem?_eq_getElem (show 0<l.length by have:=HN.out;omega))
    exact⟨g,o,e⟩
   cases e0
   obtain⟨ds,d1,d2,d3,d4⟩:=Lay.flat HL.out (fun y cs hy=>by obtain⟨ya,yc,e,-⟩:=hy;subst e;exact QeF _ _ _ _ _)
   have d1':ds.length=N*3:=by rw[← HN.out];exact d1
   have HD1:=Qa d1';have HD2:Hid (∀ (j:Nat) (u:Value),ds[j]?=some u→(w.alloc (.cells #[] 79)).cell? ((⟨g0,o0,none⟩:Addr).add j)=some u):=fun j u hj=>Qk (d2 j u hj) HB.out;have HD3:=Qa d3
   have HPU:Hid (∀ w9 g cap2,w9.ownsRow 0 79 3 (.slice (some ⟨g,0,none⟩) N cap2) N ds→(w.alloc (.cells #[] 79)).grownBy w9 (some w.heap.size)→(w.heap.size=g∨g=w.heap.size+1)→QbI w Q l (.returned (.slice (some ⟨g,0,none⟩) N cap2)) w9):=by
    intro w9 g cap2 r1 r2 r3;have hsz:=r2.size;refine⟨_,ds,rfl,by rw[HN.out];exact r1,fun g' hg'=>?_,d4,⟨r2.os.trans HB.out.os,r2.tape.trans HB.out.tape,r2.output.trans HB.out.output,by simp at hsz;omega,fun k hk=>?_⟩⟩
    ·simp[Value.ownBlock] at hg'
     omega
    ·exact(r2.block k (by simp;omega) (fun e=>by injection e with e;omega)).trans (HB.out.block k hk)
   clear HL HB d1 d1' d2 d3 d4 hown0 b1;have hn1:0<N:=by omega
   have HSZ:Hid (0≤(w.alloc (.cells #[] 79)).heap.size):=Nat.zero_le _;go_enter Tryz.func63,Tryz.ntmps63
   go_wp2_with (at_builtin;refine wpList_append_lies _ rfl (.tmp 5) (.tmp 6) 52 rfl 0 79 i0 (.agg #[.int .i64 0,.int .i64 0,.slice none 0 0]) 3 40 pUnderT hi hz0 hz1 hz2 rfl (by decide) _ _ _ rfl HOW.out ⟨g0,o0,none⟩ N c ds rfl HD1.out HD2.out HD3.out hn1 (by unfold maxLen;omega) (by omega) HSZ.out (w.heap.size+1) (by simp) ?_)
   intro g2 cap2 w9 r1 r2 r3 r4;have Z9:=Qa (HPU.out w9 g2 cap2 (by simpa using r1) (by simpa[Value.ownBlock] using r2) (by simpa[Value.ownBlock] using r3));clear r1 r2 r3 r4 HPU HOW;go_wp2
   go_ret;first | exact Z9.out | simpa using Z9.out
def Qfl {n:Nat}(lo:Nat) (w:World) (g N i:Nat) (l:List (TT n)):Prop :=
 ∃ cur,w.heap[g]?=some (.cells cur 79 (0,0))∧N*3≤cur.size∧∀ (j:Nat) (x:TT n),l[j]?=some x→∃ a c,cur[j*3]?=some (.int .i64 x.kind)∧cur[j*3+1]?=some (.int .i64 x.r)∧cur[j*3+2]?=some (.slice a x.len c)∧TIn w (fun k=>k≠g∧(j<i→lo≤k)) x a
section
variable {n lo g N i:Nat}{w w':World}{l:List (TT n)}
theorem Qfl.below (h:Qfl lo w g N i l) (b:Below w.heap.size w w'):Qfl lo w' g N i l:=by
 obtain⟨cur,h1,h2,h3⟩:=h
 refine⟨cur,(b.block g (lt_of_block h1)).trans h1,h2,fun j x hx=>?_⟩
 obtain⟨a,c,q0,q1,q2,q3⟩:=h3 j x hx
 exact⟨a,c,q0,q1,q2,q3.below b⟩
theorem Qfl.lt (h:Qfl lo w g N i l):g<w.heap.size:=by obtain⟨cur,h1,-⟩:=h;exact lt_of_block h1
theorem Qfl.free (h:Qfl lo w g N i l) (k:Nat):w.frozen? ⟨g,k,none⟩=false:=by obtain⟨cur,h1,-⟩:=h;exact Qt h1 k
theorem Qfl.at (h:Qfl lo w g N i l){j:Nat}{x:TT n}(hx:l[j]?=some x):∃ a c,w.cell? ⟨g,j*3+2,none⟩=some (.slice a x.len c)∧TIn w (fun k=>k≠g∧(j<i→lo≤k)) x a:=by
 obtain⟨cur,h1,h2,h3⟩:=h
 obtain⟨a,c,q0,q1,q2,q3⟩:=h3 j x hx
 exact⟨a,c,Qb h1 _ _ q2,q3⟩
theorem Qfl.set (h:Qfl lo w g N i l){x:TT n}{a:Option Addr}{c:Nat}(hx:l[i]?=some x) (hiN:i<N) (ht:TIn w (fun k=>k≠g∧lo≤k) x a):Qfl lo (w.setCell ⟨g,i*3+2,none⟩ (.slice a x.len c)) g N (i+1) l:=by
 obtain⟨cur,h1,h2,h3⟩:=h
 refine⟨_,Qr h1 (i*3+2) (.slice a x.len c),by simpa using h2,fun j y hy=>?_⟩
 obtain⟨b,d,q0,q1,q2,q3⟩:=h3 j y hy
 by_cases hj:j=i
 ·subst hj;rw[hx] at hy
  injection hy with hy
  subst hy;refine⟨a,c,?_,?_,?_,(ht.setCell (fun e=>e.1 rfl) _).mono (fun k hk _=>⟨hk.1,fun _=>hk.2⟩)⟩
  ·rw[Array.getElem?_setIfInBounds,if_neg (by omega)];exact q0
  ·rw[Array.getElem?_setIfInBounds,if_neg (by omega)];exact q1
  ·rw[Array.getElem?_setIfInBounds,if_pos rfl,if_pos (by omega)]
 ·refine⟨b,d,?_,?_,?_,(q3.setCell (fun e=>e.1 rfl) _).mono (fun k hk _=>⟨hk.1,fun h=>hk.2 (by omega)⟩)⟩
  ·rw[Array.getElem?_setIfInBounds,if_neg (by omega)];exact q0
  ·rw[Array.getElem?_setIfInBounds,if_neg (by omega)];exact q1
  ·rw[Array.getElem?_setIfInBounds,if_neg (by omega)];exact q2
theorem Qfl.lin (h:Qfl lo w g N i l) (hi:l.length≤i) (hg:lo≤g):LIn w (Qak lo) l (some ⟨g,0,none⟩):=by
 obtain⟨cur,h1,h2,h3⟩:=h
 intro j x hx;obtain⟨a,c,q0,q1,q2,q3⟩:=h3 j x hx
 have hj:j<l.length:=(List.getElem?_eq_some_iff.1 hx).1;refine⟨g,0,a,c,rfl,hg,?_,?_,?_,q3.mono (fun k hk _=>hk.2 (by omega))⟩
 ·rw[Nat.zero_add];exact Qb h1 _ _ q0
 ·rw[Nat.zero_add];exact Qb h1 _ _ q1
 ·rw[Nat.zero_add];exact Qb h1 _ _ q2
end
def Qcn {n:Nat}(w w':World) (l:List (TT n)) (e:Ending):Prop:=∃ a' c',e=.returned (.slice a' l.length c')∧l.length≤c'∧LIn w' (Qak w.heap.size) l a'∧Below w.heap.size w w'
def QjP (n:Nat):Prop:=∀ (l:List (TT n)) (a:Option Addr) (c:Nat) (w:World),(Qp n).In w All l [.slice a l.length c]→l.length≤5000→(∀ x∈l,x.count≤5000)→Calls Tryz.prog 75 #[.slice a l.length c] w fun e w'=>Qcn w w' l e
def QjQ (n:Nat):Prop:=∀ (x:TT n) (a:Option Addr) (c:Nat) (w:World),TIn w All x a→x.ok→x.count≤5000→Calls Tryz.prog 75 #[.slice a x.len c] w fun e w'=>∃ a' c',e=.returned (.slice a' x.len c')∧TIn w' (Qak w.heap.size) x a'∧Below w.heap.size w w'
theorem QbI.row {n:Nat}{w w':World}{Q:Nat→Prop}{l:List (TT n)}{e:Ending}(h:QbI w Q l e w'):∃ a c,e=.returned (.slice a l.length c)∧l.length≤c∧Below w.heap.size w w'∧(l≠[]→∃ g,a=some ⟨g,0,none⟩∧w.heap.size≤g∧Qfl w.heap.size w' g l.length 0 l):=by
 obtain⟨v,ds,rfl,⟨h1,h2⟩,h3,h4,h5⟩:=h
 rcases h2 with ⟨rfl,e2⟩|⟨g,cap,cur,rfl,-,hh,hn,hm,hs,ht⟩
 ·have hl:l=[]:=List.length_eq_zero_iff.1 e2;subst hl;exact⟨none,0,rfl,Nat.le_refl _,h5,fun e=>absurd rfl e⟩
 ·refine⟨some ⟨g,0,none⟩,cap,rfl,hn,h5,fun _=>⟨g,rfl,h3 g rfl,cur,hh,?_,fun j x hx=>?_⟩⟩
  ·have:l.length*3≤cap*3:=Nat.mul_le_mul_right _ hn
   omega
  ·have hj:j<l.length:=(List.getElem?_eq_some_iff.1 hx).1;obtain⟨a,c,e,q1,q2⟩:=h4 j x hx
   have hc:∀ i u,i<3→((ds.drop (j*3)).take 3)[i]?=some u→cur[j*3+i]?=some u:=fun i u hi hu=>by
    rw[List.getElem?_take,if_pos hi,List.getElem?_drop,← ht,List.getElem?_take,if_pos (by omega),Array.getElem?_toList] at hu
    exact hu
   rw[e] at hc
   have hg:=h3 g rfl;exact⟨a,c,hc 0 _ (by omega) rfl,hc 1 _ (by omega) rfl,hc 2 _ (by omega) rfl,(TIn.keep (O':=fun k=>k<w.heap.size) (fun k _ hk=>h5.block k hk) (fun _ _ h=>h) q1).mono (fun k hk _=>⟨by omega,fun e=>absurd e (by omega)⟩)⟩
theorem QdJ (n:Nat) (IH0:QjQ n):QjP n:=by
 intro l a c w hl hlen hcnt;have IH:Hid (QjQ n):=IH0;have C:=Qa (QdF (c:=c) rfl hlen hl);have HOK:=Qa (QM hl).2;have HC:=Qa hcnt;clear hl hcnt IH0;go_enter Tryz.func75,Tryz.ntmps75
 go_wp2_with fail
 refine C.out.mono ?_;intro e w1 hcl;obtain⟨a1,c1,rfl,hle,hb,hrow⟩:=hcl.row
 have HB:=Qa hb;have HLE:=Qa hle;clear hcl C hb hle;obtain⟨N,hN⟩:∃ N,l.length=N:=⟨_,rfl⟩
 have HN:=Qa hN;rw[hN] at hlen ⊢
 by_cases hl0:l=[]
 ·subst hl0;have hN0:N=0:=by have:=HN.out;simpa using this.symm
  subst hN0;have HZ:Hid (Qcn w w1 ([]:List (TT n)) (.returned (.slice a1 0 c1))):=⟨a1,c1,rfl,Nat.zero_le _,LIn.nil,HB.out⟩;clear HB HLE hrow HOK HC;go_wp2
  go_loop [9] (fun i=>∃ k:Nat,k=0∧i=.int .i64 k) (fun _=>0)
  case atStart=>exact⟨0,rfl,rfl⟩
  case round =>
   obtain⟨k,rfl,rfl⟩:=hrel
   go_wp2
   go_ret;exact HZ.out
 ·obtain⟨g,rfl,hg,horow⟩:=hrow hl0
  rw[hN] at horow
  have HG:=Qa hg;have R0:=Qa horow;clear hrow horow hg hl0 hN;go_wp2
  go_loopw [9] (fun i wr=>∃ k:Nat,k≤N∧i=.int .i64 k∧Qfl w.heap.size wr g N k l∧Below w.heap.size w wr) (fun i _=>N - (intOf i).toNat)
  case atStart=>exact⟨0,Nat.zero_le _,rfl,R0.out,HB.out⟩
  case round =>
   clear R0 HB;obtain⟨k,hk,rfl,hR,hB⟩:=hrel
   have HB:=Qa hB;have R1:=Qa hR;clear hB hR;by_cases hlt:k<N
   ·have hlt':(k:Int)<N:=by omega
    have hk2:k<l.length:=by rw[HN.out];exact hlt
    obtain⟨x,hx⟩:∃ x,l[k]?=some x:=⟨_,List.getElem?_eq_getElem hk2⟩
    obtain⟨ak,ck,y2,ht⟩:=R1.out.at hx
    have hxm:=List.mem_of_getElem? hx;have CK:=Qa (IH.out x ak ck wr ht.all (HOK.out x hxm) (HC.out x hxm));have HX:=Qa hx;clear hx hk2 ht hxm;go_wp2_with fail
    refine CK.out.mono ?_;rintro e w2 ⟨a2,c2,rfl,t2,b2⟩;have R2:=Qa (R1.out.below b2);have B2:=Qa (HB.out.trans (b2.mono HB.out.size));have hgl:=R1.out.lt;have R3:=Qa (R2.out.set (c:=c2) HX.out hlt (t2.mono (fun k hk _=>⟨by omega,Nat.le_trans HB.out.size hk⟩)));have B3:Hid (Below w.heap.size w (w2.setCell ⟨g,k*3+2,none⟩ (.slice a2 x.len c2))):=B2.out.setCell (p:=⟨g,k*3+2,none⟩) HG.out _;have z2:=R2.out.free (k*3+2);obtain⟨a4,c4,y4,-⟩:=R2.out.at HX.out
    clear t2 b2 R2 B2 CK y2 hgl;generalize x.len=xl at R3 B3 y4;go_wp2
    go_roundw
    case rel=>exact⟨k+1,hlt,by go_num,R3.out,B3.out⟩
    case measure=>simp[intOf];omega
   ·have hlt':¬ (k:Int)<N:=by omega
    have HZ:Hid (Qcn w wr l (.returned (.slice (some ⟨g,0,none⟩) N c1))):=⟨_,c1,by rw[HN.out],HLE.out,R1.out.lin (by rw[HN.out];omega) HG.out,HB.out⟩;go_wp2
    go_ret;exact HZ.out
theorem kid_any:∀ n,QjQ n
 | 0,x,_,_,_,_,_,_=>Empty.elim x
 | n+1,x,a,c,w,h,hok,hc=>by
  have hlen:x.2.2.length≤5000:=by have:=x.len_lt_count;rw[x.len_eq] at this;omega
  have hl:(Qp n).In w All x.2.2 [.slice a x.2.2.length c]:=by
   refine⟨a,c,rfl,fun i y hy=>?_⟩
   obtain⟨g,o,a',c',e,h1,h2,h3,h4,h5⟩:=h i y hy
   refine⟨g,o,[.int .i64 y.kind,.int .i64 y.r,.slice a' y.len c'],e,trivial,World.block_lt_of_cell? w ⟨g,o+i*3,none⟩ h2,fun j hj=>?_,a',c',rfl,h5,hok.2 y (List.mem_of_getElem? hy)⟩
   have hj:j<3:=hj;show w.cell? ⟨g,o+i*3+j,none⟩=_;match j,hj with
   | 0,_=>exact h2
   | 1,_=>exact h3
   | 2,_=>exact h4
   | j+3,h=>exact absurd h (by omega)
  refine(QdJ n (kid_any n) x.2.2 a c w hl hlen (fun y hy=>by have:=x.count_kid hy;omega)).mono ?_
  rintro e w' ⟨a',c',rfl,-,h1,h2⟩;exact⟨a',c',rfl,LIn.tree h1,h2⟩
theorem QgA {w:World}{b:Nat}{O A:Nat→Prop}{s:JSt}(hL:s.L.length≤80) (hcnt:∀ x∈s.L,x.count≤5000) (h:SAt w b O A s) :
 Calls Tryz.prog 26 #[.pointer (some ⟨b,0,none⟩)] w fun e w'=>Qcn w w' s.L e:=by
 obtain⟨pm,cm,hh,a1,c1,a2,c2,a3,c3,aL,cL,R⟩:=h.read
 obtain⟨-,-,-,-,-,-,q6⟩:=R.cells
 have C:=Qa (QdJ 6 (kid_any 6) s.L aL cL w (R.row.typesL) (by omega) hcnt);clear R h hcnt;go_enter Tryz.func26,Tryz.ntmps26
 go_wp2_with fail
 refine C.out.mono ?_;intro e w' ho;have HO:=Qa ho;obtain⟨a',c',rfl,-⟩:=ho
 clear C;go_wp2
 go_ret;exact HO.out
theorem Qhg {A B:Prop}(h:A↔B):bdec A=bdec B:=by rw[propext h]
theorem Qin {f:FuncId}{args:Array Value}{w:World}{A:Prop}(h:Calls Tryz.prog f args w fun e w'=>Zr e A∧Below w.heap.size w w'):Rd Tryz.prog f args w (.bool (bdec A)) :=
 h.mono fun e w' h=>by
  obtain⟨⟨q,rfl,hq⟩,b⟩:=h
  exact⟨by rw[Qen hq],b⟩
theorem Qd6 {n:Nat}{l m:List (TT n)}{p q:Option Addr}{c d:Nat}{w:World}(hl:(Qp n).In w All l [.slice p l.length c]) (hm:(Qp n).In w All m [.slice q m.length d]) (hs:QcH l):Rd Tryz.prog 25 #[.slice p l.length c,.slice q m.length d] w (.bool (bdec (l=m))) :=
 Qin (Qb6 n (samet_any n) l m p q c d w (QM hl).1 (QM hm).1 (by have:=hs.1;omega) hs.2)
theorem QfF {n:Nat}{l m:List (TT n)}{p q:Option Addr}{c d:Nat}{w:World}(hl:(Qp n).In w All l [.slice p l.length c]) (hm:(Qp n).In w All m [.slice q m.length d]) (hs:QcH l):Rd Tryz.prog 200 #[.slice p l.length c,.slice q m.length d,.func (.func 166) #[] #[]] w (.bool (bdec (l=m))) :=
 Qin (Qhx n (same_any n) l m p q c d w (QM hl).1 (QM hm).1 (by have:=hs.1;omega) hs.2)
abbrev Qad (p:Int × Int):Value:=.agg #[.int .i64 p.1,.int .i64 p.2]
def atF (c p:Int):Int × Int:=if c=0 then (0,0) else (c,p)
theorem Qcm {α:Type}{f:Nat→α→Int × Int}:∀ {l:List α}{j:Nat},firstF (fun i x=>atF (f i x).1 (f i x).2) j l=firstF f j l
 | [],_=>rfl
 | x::xs,j=>by
  simp only[firstF,atF]
  by_cases h:(f j x).1=0
  ·simp only[h,if_true,ne_eq,not_true_eq_false,if_false]
   exact Qcm
  ·simp[h]
def Qe.code {n:Nat}(f:Nat) (x:Qe n):Int :=
 if x.regs<0∨6<x.regs then 1 else if listC x.regs x.params≠0 then listC x.regs x.params else if listC x.regs x.results≠0 then listC x.regs x.results
 else if x.blocks.length<1∨12<x.blocks.length then 2 else if f=0∧¬ (x.regs=0∧x.params.length=0∧x.results.all (fun t=>t.kind==1)=true) then 18 else 0
theorem Qe.fault_eq {n:Nat}(funcs f:Nat) (x:Qe n):Qe.fault funcs f x=if x.code f=0 then firstF (fun b y=>Qh.fault funcs f x b y) 0 x.blocks else (x.code f,10000*(f:Int)+9999):=by
 unfold Qe.fault Qe.code;generalize listC x.regs x.params=lp;generalize listC x.regs x.results=lr;generalize firstF (fun b y=>Qh.fault funcs f x b y) 0 x.blocks=ff;repeat' split
 all_goals first | rfl | (exfalso;omega) | contradiction
def Qh.code' {n:Nat}(fn:Qe n) (b:Nat) (x:Qh n):Int :=
 if x.regs<fn.regs∨16<x.regs then 1 else if listC x.regs x.params≠0 then listC x.regs x.params
 else if b=0∧(x.regs≠fn.regs∨QfS x.params fn.params=false) then 9 else if 40<x.code.length then 2 else 0
theorem Qh.fault_eq {n:Nat}(funcs f:Nat) (fn:Qe n) (b:Nat) (x:Qh n):Qh.fault funcs f fn b x =
 if x.code' fn b=0 then (if (firstF (fun i y=>(Qv.form funcs y,(10000*f+100*b+i:Int))) 0 x.code).1=0 then atF (x.fin.form fn.blocks.length) (10000*(f:Int)+100*(b:Int)+91)
  else firstF (fun i y=>(Qv.form funcs y,(10000*f+100*b+i:Int))) 0 x.code) else (x.code' fn b,10000*(f:Int)+100*(b:Int)+90):=by
 unfold Qh.fault Qh.code' atF;generalize firstF (fun i y=>(Qv.form funcs y,(10000*f+100*b+i:Int))) 0 x.code=ff;generalize x.fin.form fn.blocks.length=ef;generalize listC x.regs x.params=lp;repeat' split
 all_goals first | rfl | (exfalso;omega) | contradiction
def Qfm {n:Nat}:Nat→List (TT n)→Int
 | _,[]=>-1
 | i,t::ts=>if t.kind=1 then Qfm (i+1) ts else (i:Int)
theorem Qiv {n:Nat}:∀ (l:List (TT n)) (i j:Nat) (x:TT n),l[i]?=some x→(∀ k y,k<i→l[k]?=some y→y.kind=1)→¬ x.kind=1→Qfm j l=((j+i:Nat):Int)
 | [],i,j,x,h,_,_=>by simp at h
 | y::ys,0,j,x,h,_,hx=>by
  simp at h;subst h
  simp[Qfm,hx]
 | y::ys,i+1,j,x,h,hz,hx=>by
  have h0:y.kind=1:=hz 0 y (by omega) rfl;simp only[Qfm,h0,if_true]
  rw[Qiv ys i (j+1) x (by simpa using h) (fun k z hk hkz=>hz (k+1) z (by omega) (by simpa using hkz)) hx]
  congr 1;omega
theorem Qil {n:Nat}:∀ (l:List (TT n)) (j:Nat),(∀ (k:Nat) y,l[k]?=some y→y.kind=1)→Qfm j l=-1
 | [],_,_=>rfl
 | y::ys,j,h=>by
  have h0:y.kind=1:=h 0 y rfl;simp only[Qfm,h0,if_true]
  exact Qil ys (j+1) (fun k z hz=>h (k+1) z (by simpa using hz))
theorem Qga {n:Nat}:∀ (l:List (TT n)) (j:Nat),(0≤Qfm j l)↔¬ l.all (fun t=>t.kind==1)=true
 | [],j=>by simp[Qfm]
 | y::ys,j=>by
  by_cases h:y.kind=1
  ·simp only[Qfm,h,if_true,List.all_cons,beq_self_eq_true,Bool.true_and]
   exact Qga ys (j+1)
  ·simp[Qfm,h]
theorem Qeu {n:Nat}{t:TT n}{a:Option Addr}{c:Nat}{regs:Int}{w:World}(ht:TIn w All t a) (hc:t.count≤100000):Rd Tryz.prog 107 #[Tv t a c,.int .i64 regs] w (.int .i64 (t.check regs)):=typeFaultT_any n t a c regs w ht hc
theorem Qjy {n:Nat}{t:TT n}{a:Option Addr}{c:Nat}{regs:Int}{w:World}(ht:TIn w All t a) (hc:t.count≤100000):Rd Tryz.prog 165 #[Tv t a c,.int .i64 regs] w (.int .i64 (t.check regs)):=check_any n t a c regs w ht hc
theorem Qc9 {α:Type}{f:α→Int}:∀ {l:List α}{i:Nat}{x:α},l[i]?=some x→(∀ k y,k<i→l[k]?=some y→f y=0)→f x≠0→QC f l=f x
 | [],i,x,h,_,_=>by simp at h
 | y::ys,0,x,h,_,hf=>by
  simp at h;subst h
  simp[QC,hf]
 | y::ys,i+1,x,h,hz,hf=>by
  have h0:f y=0:=hz 0 y (by omega) rfl;simp only[QC,h0,ne_eq,not_true_eq_false,if_false]
  exact Qc9 (by simpa using h) (fun k z hk hkz=>hz (k+1) z (by omega) (by simpa using hkz)) hf
theorem Qds {α:Type}{f:α→Int}:∀ {l:List α},(∀ (k:Nat) y,l[k]?=some y→f y=0)→QC f l=0
 | [],_=>rfl
 | y::ys,h=>by
  have h0:f y=0:=h 0 y rfl;simp only[QC,h0,ne_eq,not_true_eq_false,if_false]
  exact Qds (fun k z hz=>h (k+1) z (by simpa using hz))
theorem Qbr {n:Nat}{l:List (TT n)}{p:Option Addr}{c:Nat}{regs:Int}{w:World}(hl0:(Qp n).In w All l [.slice p l.length c]) (hs0:QcH l) :
 Rd Tryz.prog 65 #[.slice p l.length c,.int .i64 regs] w (.int .i64 (listC regs l)):=by
 have hl:Hid _:=hl0;have hs:Hid _:=hs0;have hsb:=hs0.1;clear hl0 hs0;refine Qq (n:=25) Tryz.func65 rfl rfl rfl ?_;intro a hF;have hW:=Wd.start w;replace hF:Fr 25 a [(0,.slice p l.length c),(1,.int .i64 regs)]:=hF;refine wp_seq_k fun K1 hK1=>?_;refine rg hF fun ops=>?_;clear hF a;refine sa trivial rfl rfl ?_;refine St.nil fun a2 h2=>?_;refine hK1 _ _ ?_;refine wp_seq_k fun K3 hK3=>?_;refine wp_seq_k fun K4 hK4=>?_;refine rg h2 fun ops=>?_;clear h2 a2;refine sm trivial rfl rfl ?_;refine Qah trivial rfl rfl ?_;refine sgt trivial rfl rfl rfl ?_;refine St.nil fun a5 h5=>?_;refine hK4 _ _ ?_;refine Qg (t:=9) h5 rfl (fun hb=>?_) (fun hb=>?_)
 ·have hbig:8<l.length:=by have:=of_decide_eq_true hb;omega
  clear hb;refine wp_seq_k fun K6 hK6=>?_;refine rg h5 fun ops=>?_;clear h5 a5;refine sa trivial rfl rfl ?_;refine St.nil fun a7 h7=>?_;refine hK6 _ _ ?_;refine wp_ret ?_;with_reducible repeat first | refine Qd ?_ | refine Qc ?_
  have R:listC regs l=2:=by unfold listC;rw[if_pos hbig]
  exact Qf (t:=4) h7 rfl rfl ⟨by rw[R],hW.bel⟩
 have hbig:¬ (8<l.length):=by have:=of_decide_eq_false hb;omega
 clear hb;refine wp_skip ?_;refine hK3 _ _ ?_;refine wp_seq_k fun K8 hK8=>?_;refine wp_seq_k fun K9 hK9=>?_;refine rg h5 fun ops=>?_;clear h5 a5;refine sa trivial rfl rfl ?_;refine St.nil fun a10 h10=>?_;refine hK9 _ _ ?_;refine wp_block ?_;refine Zi (fun r a w'=>∃ q:Nat,q≤l.length∧r=l.length - q∧(∀ (j:Nat) y,j<q→l[j]?=some y→y.check regs=0)∧Fr 25 a [(1,.int .i64 regs),(0,.slice p l.length c),(4,.int .i64 0),(5,.int .i64 (q:Int))]∧Wd w w' []) (l.length) ⟨0,Nat.zero_le _,rfl,(fun j y hj=>by omega),(h10.keep (h10.keep (h10.keep (h10.keep h10.nil (t:=5) rfl) (t:=4) rfl) (t:=0) rfl) (t:=1) rfl),hW⟩ ?_;clear h10 hW;rintro r a11 w11 ⟨q,hq,hr,hall,hF11,hW11⟩ KL hKL;refine wp_seq_k fun K12 hK12=>?_;refine wp_seq_k fun K13 hK13=>?_;refine rg hF11 fun ops=>?_;clear hF11 a11;refine sm trivial rfl rfl ?_;refine sm trivial rfl rfl ?_;refine Qah trivial rfl rfl ?_;refine slt trivial rfl rfl rfl ?_;refine St.nil fun a14 h14=>?_;refine hK13 _ _ ?_;refine Qg (t:=13) h14 rfl (fun hb=>?_) (fun hb=>?_)
 ·have hlt1:q<l.length:=by have:=of_decide_eq_true hb;omega
  clear hb;obtain⟨t,hx1⟩:∃ v9,(l)[q]?=some v9:=⟨_,List.getElem?_eq_getElem hlt1⟩
  obtain⟨g1,o1,pt1,ct1,hp1,E1,In1⟩:=QdW (QM hl.out).1 hx1
  replace In1:Hid _:=In1;replace hp1:Hid _:=hp1;replace hx1:Hid _:=hx1;replace E1:Hid _:=E1;refine wp_skip ?_;refine hK12 _ _ ?_;refine wp_seq_k fun K15 hK15=>?_;refine wp_block ?_;refine wp_seq_k fun K16 hK16=>?_;refine rg h14 fun ops=>?_;clear h14 a14;refine sm trivial rfl rfl ?_;refine sm trivial rfl rfl ?_;refine Qbx hp1.out hlt1 trivial rfl rfl rfl ?_;refine sSE Tryz.underlying79 rfl (QJ E1.out hW11.bel) infType trivial rfl rfl ?_;refine sm trivial rfl rfl ?_;refine Qau cf107 hW11 (Qeu (c:=ct1) (regs:=regs) (TIn.below In1.out hW11.bel) (hs.out.2 _ (List.mem_of_getElem? hx1.out))) trivial rfl rfl rfl ?_;clear hW11;intro w17 hW17;refine sa trivial rfl rfl ?_;refine St.nil fun a18 h18=>?_;refine hK16 _ _ ?_;refine wp_seq_k fun K19 hK19=>?_;refine rg h18 fun ops=>?_;clear h18 a18;refine sm trivial rfl rfl ?_;refine sne trivial rfl rfl rfl ?_;refine St.nil fun a20 h20=>?_;refine hK19 _ _ ?_;refine Qg (t:=23) h20 rfl (fun hb=>?_) (fun hb=>?_)
  ·have h9:¬ (t.check regs)=0:=bne_iff_ne.1 hb
   have hne:¬ (t.check regs)=0:=h9;clear h9;clear hb;refine wp_seq_k fun K21 hK21=>?_;refine rg h20 fun ops=>?_;clear h20 a20;refine sm trivial rfl rfl ?_;refine sa trivial rfl rfl ?_;refine St.nil fun a22 h22=>?_;refine hK21 _ _ ?_;refine wp_ret ?_;with_reducible repeat first | refine Qd ?_ | refine Qc ?_
   have R:listC regs l=t.check regs:=by unfold listC;rw[if_neg hbig];exact Qc9 hx1.out (fun k y hk hy=>hall k y hk hy) hne
   exact Qf (t:=4) h22 rfl rfl ⟨by rw[R],hW17.bel⟩
  have h9:(t.check regs)=0:=bne_eq_false_iff_eq.1 hb;have hne:Hid ((t.check regs)=0):=h9;clear h9;clear hb;refine wp_skip ?_;refine hK15 _ _ ?_;refine rg h20 fun ops=>?_;clear h20 a20;refine sm trivial rfl rfl ?_;refine sad (by omega) trivial rfl rfl rfl ?_;refine sa trivial rfl rfl ?_;refine St.nil fun a23 h23=>?_;refine hKL _ _ (l.length - (q+1)) (by omega) ⟨q+1,by omega,rfl,?_,(h23.keep (h23.keep (h23.keep (h23.keep h23.nil (t:=5) rfl) (t:=4) rfl) (t:=0) rfl) (t:=1) rfl),hW17⟩
  ·intro j y hj hy
   by_cases e:j=q
   ·subst e;rw[hx1.out] at hy;cases hy;exact hne.out
   ·exact hall j y (by omega) hy
 have hge:q=l.length:=by have:=of_decide_eq_false hb;omega
 clear hb;refine wp_exit ?_;refine hK8 _ _ ?_;refine wp_seq_k fun K24 hK24=>?_;refine rg h14 fun ops=>?_;clear h14 a14;refine sa trivial rfl rfl ?_;refine St.nil fun a25 h25=>?_;refine hK24 _ _ ?_;refine wp_ret ?_;with_reducible repeat first | refine Qd ?_ | refine Qc ?_
 have R:listC regs l=0:=by unfold listC;rw[if_neg hbig];exact Qds (fun k y hy=>hall k y (by have:=(List.getElem?_eq_some_iff.1 hy).1;omega) hy)
 exact Qf (t:=4) h25 rfl rfl ⟨by rw[R],hW11.bel⟩
theorem Qa6 {n:Nat}{l:List (TT n)}{p:Option Addr}{c:Nat}{regs:Int}{w:World}(hl0:(Qp n).In w All l [.slice p l.length c]) (hs0:QcH l) :
 Rd Tryz.prog 172 #[.slice p l.length c,.int .i64 regs] w (.int .i64 (listC regs l)):=by
 have hl:Hid _:=hl0;have hs:Hid _:=hs0;have hsb:=hs0.1;clear hl0 hs0;refine Qq (n:=24) Tryz.func172 rfl rfl rfl ?_;intro a hF;have hW:=Wd.start w;replace hF:Fr 24 a [(0,.slice p l.length c),(1,.int .i64 regs)]:=hF;refine wp_seq_k fun K1 hK1=>?_;refine rg hF fun ops=>?_;clear hF a;refine sa trivial rfl rfl ?_;refine St.nil fun a2 h2=>?_;refine hK1 _ _ ?_;refine wp_seq_k fun K3 hK3=>?_;refine wp_seq_k fun K4 hK4=>?_;refine rg h2 fun ops=>?_;clear h2 a2;refine sm trivial rfl rfl ?_;refine Qah trivial rfl rfl ?_;refine sgt trivial rfl rfl rfl ?_;refine St.nil fun a5 h5=>?_;refine hK4 _ _ ?_;refine Qg (t:=10) h5 rfl (fun hb=>?_) (fun hb=>?_)
 ·have hbig:8<l.length:=by have:=of_decide_eq_true hb;omega
  clear hb;refine wp_seq_k fun K6 hK6=>?_;refine rg h5 fun ops=>?_;clear h5 a5;refine sa trivial rfl rfl ?_;refine St.nil fun a7 h7=>?_;refine hK6 _ _ ?_;refine wp_ret ?_;with_reducible repeat first | refine Qd ?_ | refine Qc ?_
  have R:listC regs l=2:=by unfold listC;rw[if_pos hbig]
  exact Qf (t:=4) h7 rfl rfl ⟨by rw[R],hW.bel⟩
 have hbig:¬ (8<l.length):=by have:=of_decide_eq_false hb;omega
 clear hb;refine wp_skip ?_;refine hK3 _ _ ?_;refine wp_seq_k fun K8 hK8=>?_;refine wp_seq_k fun K9 hK9=>?_;refine rg h5 fun ops=>?_;clear h5 a5;refine sm trivial rfl rfl ?_;refine Qah trivial rfl rfl ?_;refine sm trivial rfl rfl ?_;refine St.nil fun a10 h10=>?_;refine hK9 _ _ ?_;refine wp_block ?_;refine Zi (fun r a w'=>∃ q:Nat,q≤l.length∧r=l.length - q∧(∀ (j:Nat) y,j<q→l[j]?=some y→y.check regs=0)∧Fr 24 a [(1,.int .i64 regs),(0,.slice p l.length c),(4,.int .i64 0),(11,.slice p l.length c),(12,.int .i64 (l.length:Int)),(13,.int .i64 (q:Int))]∧Wd w w' []) (l.length) ⟨0,Nat.zero_le _,rfl,(fun j y hj=>by omega),(h10.keep (h10.keep (h10.keep (h10.keep (h10.keep (h10.keep h10.nil (t:=13) rfl) (t:=12) rfl) (t:=11) rfl) (t:=4) rfl) (t:=0) rfl) (t:=1) rfl),hW⟩ ?_;clear h10 hW;rintro r a11 w11 ⟨q,hq,hr,hall,hF11,hW11⟩ KL hKL;refine wp_seq_k fun K12 hK12=>?_;refine rg hF11 fun ops=>?_;clear hF11 a11;refine slt trivial rfl rfl rfl ?_;refine St.nil fun a13 h13=>?_;refine hK12 _ _ ?_;refine wp_seq_k fun K14 hK14=>?_;refine Qg (t:=14) h13 rfl (fun hb=>?_) (fun hb=>?_)
 ·have hlt1:q<l.length:=by have:=of_decide_eq_true hb;omega
  clear hb;obtain⟨t,hx1⟩:∃ v9,(l)[q]?=some v9:=⟨_,List.getElem?_eq_getElem hlt1⟩
  obtain⟨g1,o1,pt1,ct1,hp1,E1,In1⟩:=QdW (QM hl.out).1 hx1
  replace In1:Hid _:=In1;replace hp1:Hid _:=hp1;replace hx1:Hid _:=hx1;replace E1:Hid _:=E1;refine wp_skip ?_;refine hK14 _ _ ?_;refine wp_seq_k fun K15 hK15=>?_;refine wp_block ?_;refine wp_seq_k fun K16 hK16=>?_;refine rg h13 fun ops=>?_;clear h13 a13;refine Qbx hp1.out hlt1 trivial rfl rfl rfl ?_;refine sSE Tryz.underlying79 rfl (QJ E1.out hW11.bel) infType trivial rfl rfl ?_;refine QhF hW11 trivial rfl ?_;clear hW11;intro w17 B17 hW17 hN;clear hN;refine sT 0 hW17 rfl rfl infType rfl rfl rfl ?_;clear hW17;intro w18 hW18;refine St.nil fun a19 h19=>?_;refine hK16 _ _ ?_;refine wp_seq_k fun K20 hK20=>?_;refine rg h19 fun ops=>?_;clear h19 a19;refine sS 0 3 Tryz.underlying79 rfl infType hW18 trivial rfl rfl rfl rfl ?_;refine sm trivial rfl rfl ?_;refine Qau cf165 hW18 (Qjy (c:=ct1) (regs:=regs) (TIn.below In1.out hW18.bel) (hs.out.2 _ (List.mem_of_getElem? hx1.out))) trivial rfl rfl rfl ?_;clear hW18;intro w21 hW21;refine sa trivial rfl rfl ?_;refine St.nil fun a22 h22=>?_;refine hK20 _ _ ?_;refine wp_seq_k fun K23 hK23=>?_;refine rg h22 fun ops=>?_;clear h22 a22;refine sm trivial rfl rfl ?_;refine sne trivial rfl rfl rfl ?_;refine St.nil fun a24 h24=>?_;refine hK23 _ _ ?_;refine Qg (t:=21) h24 rfl (fun hb=>?_) (fun hb=>?_)
  ·have h9:¬ (t.check regs)=0:=bne_iff_ne.1 hb
   have hne:¬ (t.check regs)=0:=h9;clear h9;clear hb;refine wp_seq_k fun K25 hK25=>?_;refine rg h24 fun ops=>?_;clear h24 a24;refine sm trivial rfl rfl ?_;refine sa trivial rfl rfl ?_;refine St.nil fun a26 h26=>?_;refine hK25 _ _ ?_;refine wp_ret ?_;with_reducible repeat first | refine Qd ?_ | refine Qc ?_
   have R:listC regs l=t.check regs:=by unfold listC;rw[if_neg hbig];exact Qc9 hx1.out (fun k y hk hy=>hall k y hk hy) hne
   exact Qf (t:=4) h26 rfl rfl ⟨by rw[R],hW21.bel⟩
  have h9:(t.check regs)=0:=bne_eq_false_iff_eq.1 hb;have hne:Hid ((t.check regs)=0):=h9;clear h9;clear hb;refine wp_skip ?_;refine hK15 _ _ ?_;refine rg h24 fun ops=>?_;clear h24 a24;refine sad (by omega) trivial rfl rfl rfl ?_;refine sm trivial rfl rfl ?_;refine St.nil fun a27 h27=>?_;refine hKL _ _ (l.length - (q+1)) (by omega) ⟨q+1,by omega,rfl,?_,(h27.keep (h27.keep (h27.keep (h27.keep (h27.keep (h27.keep h27.nil (t:=13) rfl) (t:=12) rfl) (t:=11) rfl) (t:=4) rfl) (t:=0) rfl) (t:=1) rfl),hW21.tail⟩
  ·intro j y hj hy
   by_cases e:j=q
   ·subst e;rw[hx1.out] at hy;cases hy;exact hne.out
   ·exact hall j y (by omega) hy
 have hge:q=l.length:=by have:=of_decide_eq_false hb;omega
 clear hb;refine wp_exit ?_;refine hK8 _ _ ?_;refine wp_seq_k fun K28 hK28=>?_;refine rg h13 fun ops=>?_;clear h13 a13;refine sa trivial rfl rfl ?_;refine St.nil fun a29 h29=>?_;refine hK28 _ _ ?_;refine wp_ret ?_;with_reducible repeat first | refine Qd ?_ | refine Qc ?_
 have R:listC regs l=0:=by unfold listC;rw[if_neg hbig];exact Qds (fun k y hy=>hall k y (by have:=(List.getElem?_eq_some_iff.1 hy).1;omega) hy)
 exact Qf (t:=4) h29 rfl rfl ⟨by rw[R],hW11.bel⟩
theorem Qa8 {xc xp:Int}{w:World} :
 Rd Tryz.prog 138 #[.int .i64 xc,.int .i64 xp] w (Qad (atF xc xp)):=by
 refine Qq (n:=11) Tryz.func138 rfl rfl rfl ?_;intro a hF;have hW:=Wd.start w;replace hF:Fr 11 a [(0,.int .i64 xc),(1,.int .i64 xp)]:=hF;refine wp_seq_k fun K1 hK1=>?_;refine rg hF fun ops=>?_;clear hF a;refine Zs hW trivial rfl ?_;clear hW;intro w2 B2 hW2 hN;clear hN;refine St.nil fun a3 h3=>?_;refine hK1 _ _ ?_;refine wp_seq_k fun K4 hK4=>?_;refine wp_seq_k fun K5 hK5=>?_;refine rg h3 fun ops=>?_;clear h3 a3;refine sm trivial rfl rfl ?_;refine seq trivial rfl rfl rfl ?_;refine St.nil fun a6 h6=>?_;refine hK5 _ _ ?_;refine Qg (t:=6) h6 rfl (fun hb=>?_) (fun hb=>?_)
 ·have h9:xc=0:=eq_of_beq hb
  have hc7:Hid (xc=0):=h9;clear h9;clear hb;refine wp_seq_k fun K8 hK8=>?_;refine rg h6 fun ops=>?_;clear h6 a6;intro a9 h9;refine QG (t:=7) (v:=.agg #[.int .i64 0,.int .i64 0]) (w':=w2) h9 rfl rfl rfl (fun K hK=>?_) ?_
  ·go_simp
   exact hK
  clear h9;intro a10 hF10;refine St.go hF10 ?_;clear hF10 a10;refine sT 0 hW2 rfl rfl infFault rfl rfl rfl ?_;clear hW2;intro w11 hW11;refine St.nil fun a12 h12=>?_;refine hK8 _ _ ?_;refine wp_ret ?_;with_reducible repeat first | refine Qd ?_ | refine Qc ?_
  have R:atF xc xp=(0,0):=by simp[atF,hc7.out]
  exact Qs 0 h12 hW11 rfl rfl rfl Tryz.underlying30 rfl infFault ⟨by show Ending.returned (.agg #[.int .i64 0,.int .i64 0])=_;rw[R],hW11.bel⟩
 have h9:¬ xc=0:=ne_of_beq_false hb;have hc13:¬ xc=0:=h9;clear h9;clear hb;refine wp_skip ?_;refine hK4 _ _ ?_;refine wp_seq_k fun K14 hK14=>?_;refine rg h6 fun ops=>?_;clear h6 a6;refine sm trivial rfl rfl ?_;refine sm trivial rfl rfl ?_;intro a15 h15;refine QG (t:=10) (v:=.agg #[.int .i64 xc,.int .i64 xp]) (w':=w2) h15 rfl rfl rfl (fun K hK=>?_) ?_
 ·have k0:a15.tmps[8]?.getD undef=.int .i64 xc:=h15.sl2 8 _ rfl
  have k1:a15.tmps[9]?.getD undef=.int .i64 xp:=h15.sl2 9 _ rfl;go_simp;exact hK
 clear h15;intro a16 hF16;refine St.go hF16 ?_;clear hF16 a16;refine sT 0 hW2 rfl rfl infFault rfl rfl rfl ?_;clear hW2;intro w17 hW17;refine St.nil fun a18 h18=>?_;refine hK14 _ _ ?_;refine wp_ret ?_;with_reducible repeat first | refine Qd ?_ | refine Qc ?_
 have R:atF xc xp=(xc,xp):=by simp[atF,hc13]
 exact Qs 0 h18 hW17 rfl rfl rfl Tryz.underlying30 rfl infFault ⟨by show Ending.returned (.agg #[.int .i64 xc,.int .i64 xp])=_;rw[R],hW17.bel⟩
theorem ZT {xc xp:Int}{w:World} :
 Rd Tryz.prog 50 #[.int .i64 xc,.int .i64 xp] w (Qad (xc,xp)):=by
 refine Qq (n:=8) Tryz.func50 rfl rfl rfl ?_;intro a hF;have hW:=Wd.start w;replace hF:Fr 8 a [(0,.int .i64 xc),(1,.int .i64 xp)]:=hF;refine wp_seq_k fun K1 hK1=>?_;refine rg hF fun ops=>?_;clear hF a;refine Zs hW trivial rfl ?_;clear hW;intro w2 B2 hW2 hN;clear hN;refine St.nil fun a3 h3=>?_;refine hK1 _ _ ?_;refine wp_seq_k fun K4 hK4=>?_;refine rg h3 fun ops=>?_;clear h3 a3;refine sm trivial rfl rfl ?_;refine sm trivial rfl rfl ?_;intro a5 h5;refine QG (t:=7) (v:=.agg #[.int .i64 xc,.int .i64 xp]) (w':=w2) h5 rfl rfl rfl (fun K hK=>?_) ?_
 ·have k0:a5.tmps[5]?.getD undef=.int .i64 xc:=h5.sl2 5 _ rfl
  have k1:a5.tmps[6]?.getD undef=.int .i64 xp:=h5.sl2 6 _ rfl;go_simp;exact hK
 clear h5;intro a6 hF6;refine St.go hF6 ?_;clear hF6 a6;refine sT 0 hW2 rfl rfl infFault rfl rfl rfl ?_;clear hW2;intro w7 hW7;refine St.nil fun a8 h8=>?_;refine hK4 _ _ ?_;refine wp_ret ?_;with_reducible repeat first | refine Qd ?_ | refine Qc ?_
 exact Qs 0 h8 hW7 rfl rfl rfl Tryz.underlying30 rfl infFault ⟨rfl,hW7.bel⟩
theorem QhB {tk tr:Int}{tp:Option Addr}{tl tc:Nat}{w:World} :
 Rd Tryz.prog 206 #[.agg #[.int .i64 tk,.int .i64 tr,.slice tp tl tc]] w (.bool (tk!=1)):=by
 refine Qq (n:=6) Tryz.func206 rfl rfl rfl ?_;intro a hF;have hW:=Wd.start w;replace hF:Fr 6 a [(0,.agg #[.int .i64 tk,.int .i64 tr,.slice tp tl tc])]:=hF;refine wp_seq_k fun K1 hK1=>?_;refine rg hF fun ops=>?_;clear hF a;refine sB hW trivial rfl rfl ?_;clear hW;intro w2 B2 hW2 hN;clear hN;refine sa trivial rfl rfl ?_;refine St.nil fun a3 h3=>?_;refine hK1 _ _ ?_;refine wp_seq_k fun K4 hK4=>?_;refine rg h3 fun ops=>?_;clear h3 a3;refine Qft trivial rfl rfl ?_;refine QN 0 hW2 trivial rfl rfl rfl rfl ?_;refine sne trivial rfl rfl rfl ?_;refine sa trivial rfl rfl ?_;refine St.nil fun a5 h5=>?_;refine hK4 _ _ ?_;refine wp_ret ?_;with_reducible repeat first | refine Qd ?_ | refine Qc ?_
 exact Qf (t:=2) h5 rfl rfl ⟨rfl,hW2.bel⟩
theorem Qhb {n:Nat}{l:List (TT n)}{p:Option Addr}{c:Nat}{w:World}(hl0:(Qp n).In w All l [.slice p l.length c]) (hsb:l.length≤100000) :
 Rd Tryz.prog 222 #[.slice p l.length c,.func (.func 206) #[] #[]] w (.int .i64 (Qfm 0 l)):=by
 have hl:Hid _:=hl0;clear hl0;refine Qq (n:=19) Tryz.func222 rfl rfl rfl ?_;intro a hF;have hW:=Wd.start w;replace hF:Fr 19 a [(0,.slice p l.length c),(1,.func (.func 206) #[] #[])]:=hF;refine wp_seq_k fun K1 hK1=>?_;refine rg hF fun ops=>?_;clear hF a;refine sa trivial rfl rfl ?_;refine St.nil fun a2 h2=>?_;refine hK1 _ _ ?_;refine wp_seq_k fun K3 hK3=>?_;refine wp_seq_k fun K4 hK4=>?_;refine rg h2 fun ops=>?_;clear h2 a2;refine sm trivial rfl rfl ?_;refine Qah trivial rfl rfl ?_;refine sm trivial rfl rfl ?_;refine St.nil fun a5 h5=>?_;refine hK4 _ _ ?_;refine wp_block ?_;refine Zi (fun r a w'=>∃ q:Nat,q≤l.length∧r=l.length - q∧(∀ (j:Nat) y,j<q→l[j]?=some y→y.kind=1)∧Fr 19 a [(1,.func (.func 206) #[] #[]),(0,.slice p l.length c),(4,.int .i64 0),(7,.int .i64 (l.length:Int)),(8,.int .i64 (q:Int))]∧Wd w w' []) (l.length) ⟨0,Nat.zero_le _,rfl,(fun j y hj=>by omega),(h5.keep (h5.keep (h5.keep (h5.keep (h5.keep h5.nil (t:=8) rfl) (t:=7) rfl) (t:=4) rfl) (t:=0) rfl) (t:=1) rfl),hW⟩ ?_;clear h5 hW;rintro r a6 w6 ⟨q,hq,hr,hall,hF6,hW6⟩ KL hKL;refine wp_seq_k fun K7 hK7=>?_;refine rg hF6 fun ops=>?_;clear hF6 a6;refine slt trivial rfl rfl rfl ?_;refine St.nil fun a8 h8=>?_;refine hK7 _ _ ?_;refine wp_seq_k fun K9 hK9=>?_;refine Qg (t:=9) h8 rfl (fun hb=>?_) (fun hb=>?_)
 ·have hlt1:q<l.length:=by have:=of_decide_eq_true hb;omega
  clear hb;obtain⟨t,hx1⟩:∃ v9,(l)[q]?=some v9:=⟨_,List.getElem?_eq_getElem hlt1⟩
  obtain⟨g1,o1,pt1,ct1,hp1,E1,In1⟩:=QdW (QM hl.out).1 hx1
  replace In1:Hid _:=In1;replace hp1:Hid _:=hp1;replace hx1:Hid _:=hx1;replace E1:Hid _:=E1;refine wp_skip ?_;refine hK9 _ _ ?_;refine wp_seq_k fun K10 hK10=>?_;refine wp_block ?_;refine wp_seq_k fun K11 hK11=>?_;refine rg h8 fun ops=>?_;clear h8 a8;refine sm trivial rfl rfl ?_;refine sa trivial rfl rfl ?_;refine St.nil fun a12 h12=>?_;refine hK11 _ _ ?_;refine wp_seq_k fun K13 hK13=>?_;refine rg h12 fun ops=>?_;clear h12 a12;refine sm trivial rfl rfl ?_;refine sm trivial rfl rfl ?_;refine sm trivial rfl rfl ?_;refine Qbx hp1.out hlt1 trivial rfl rfl rfl ?_;refine sSE Tryz.underlying79 rfl (QJ E1.out hW6.bel) infType trivial rfl rfl ?_;refine Qll cf206 hW6 (QhB) trivial rfl rfl rfl ?_;clear hW6;intro w14 hW14;refine St.nil fun a15 h15=>?_;refine hK13 _ _ ?_;refine Qg (t:=16) h15 rfl (fun hb=>?_) (fun hb=>?_)
  ·have h9:¬ t.kind=1:=bne_iff_ne.1 hb
   have hne:¬ t.kind=1:=h9;clear h9;clear hb;refine wp_seq_k fun K16 hK16=>?_;refine rg h15 fun ops=>?_;clear h15 a15;refine sm trivial rfl rfl ?_;refine sa trivial rfl rfl ?_;refine St.nil fun a17 h17=>?_;refine hK16 _ _ ?_;refine wp_ret ?_;with_reducible repeat first | refine Qd ?_ | refine Qc ?_
   have R:Qfm 0 l=(q:Int):=by have:=Qiv l q 0 t hx1.out (fun k y hk hy=>hall k y hk hy) hne;rwa [Nat.zero_add] at this
   exact Qf (t:=4) h17 rfl rfl ⟨by rw[R],hW14.bel⟩
  have h9:t.kind=1:=bne_eq_false_iff_eq.1 hb;have hne:Hid (t.kind=1):=h9;clear h9;clear hb;refine wp_skip ?_;refine hK10 _ _ ?_;refine rg h15 fun ops=>?_;clear h15 a15;refine sad (by omega) trivial rfl rfl rfl ?_;refine sm trivial rfl rfl ?_;refine St.nil fun a18 h18=>?_;refine hKL _ _ (l.length - (q+1)) (by omega) ⟨q+1,by omega,rfl,?_,(h18.keep (h18.keep (h18.keep (h18.keep (h18.keep h18.nil (t:=8) rfl) (t:=7) rfl) (t:=4) rfl) (t:=0) rfl) (t:=1) rfl),hW14⟩
  ·intro j y hj hy
   by_cases e:j=q
   ·subst e;rw[hx1.out] at hy;cases hy;exact hne.out
   ·exact hall j y (by omega) hy
 have hge:q=l.length:=by have:=of_decide_eq_false hb;omega
 clear hb;refine wp_exit ?_;refine hK3 _ _ ?_;refine wp_seq_k fun K19 hK19=>?_;refine rg h8 fun ops=>?_;clear h8 a8;refine sa trivial rfl rfl ?_;refine St.nil fun a20 h20=>?_;refine hK19 _ _ ?_;refine wp_ret ?_;with_reducible repeat first | refine Qd ?_ | refine Qc ?_
 have R:Qfm 0 l=-1:=Qil l 0 (fun k y hy=>hall k y (by have:=(List.getElem?_eq_some_iff.1 hy).1;omega) hy);exact Qf (t:=4) h20 rfl rfl ⟨by rw[R],hW6.bel⟩
theorem Qed {n:Nat}{l:List (TT n)}{p:Option Addr}{c:Nat}{w:World}(hl0:(Qp n).In w All l [.slice p l.length c]) (hsb:l.length≤100000) :
 Rd Tryz.prog 205 #[.slice p l.length c,.func (.func 206) #[] #[]] w (.bool (decide (0≤Qfm 0 l))):=by
 have hl:Hid _:=hl0;clear hl0;refine Qq (n:=9) Tryz.func205 rfl rfl rfl ?_;intro a hF;have hW:=Wd.start w;replace hF:Fr 9 a [(0,.slice p l.length c),(1,.func (.func 206) #[] #[])]:=hF;refine wp_seq_k fun K1 hK1=>?_;refine rg hF fun ops=>?_;clear hF a;refine sa trivial rfl rfl ?_;refine St.nil fun a2 h2=>?_;refine hK1 _ _ ?_;refine wp_seq_k fun K3 hK3=>?_;refine rg h2 fun ops=>?_;clear h2 a2;refine sm trivial rfl rfl ?_;refine sm trivial rfl rfl ?_;refine Qau cf222 hW (Qhb (Lay.below hl.out hW.bel) hsb) trivial rfl rfl rfl ?_;clear hW;intro w4 hW4;refine sge trivial rfl rfl rfl ?_;refine sa trivial rfl rfl ?_;refine St.nil fun a5 h5=>?_;refine hK3 _ _ ?_;refine wp_ret ?_;with_reducible repeat first | refine Qd ?_ | refine Qc ?_
 exact Qf (t:=4) h5 rfl rfl ⟨rfl,hW4.bel⟩
def Qe.begins {n:Nat}(x:Qe n):Prop:=x.regs=0∧x.params.length=0∧x.results.all (fun t=>t.kind==1)=true
def Qh.takes {n:Nat}(fn:Qe n) (x:Qh n):Prop:=x.regs=fn.regs∧x.params=fn.params
theorem Qgm {n:Nat}{fn:Qe n}{x:Qh n}(h:¬ x.takes fn):x.regs≠fn.regs∨QfS x.params fn.params=false:=by
 by_cases h1:x.regs=fn.regs
 ·refine .inr ?_
  cases e:QfS x.params fn.params with
  | false=>rfl
  | true=>exact absurd ⟨h1,QeX.1 e⟩ h
 ·exact .inl h1
theorem QaT {n:Nat}{fn:Qe n}{x:Qh n}(h:x.takes fn):¬ (x.regs≠fn.regs∨QfS x.params fn.params=false):=by
 rintro (h1 | h1)
 ·exact h1 h.1
 ·rw[QeX.2 h.2] at h1;cases h1
theorem Qe2 {n:Nat}{m:List (Qe n)}{p:Option Addr}{c:Nat}{x:Qe n}{fp:FP}{fi:Nat}{w:World}(hx0:FIn w All x fp) (hs0:x.small) :
 Rd Tryz.prog 173 #[.agg #[.slice p m.length c,.int .i64 x.regs,.slice fp.pP x.params.length fp.cP,.slice fp.pR x.results.length fp.cR,.slice fp.pB x.blocks.length fp.cB,.int .i64 (fi:Int)]] w (.bool (bdec x.begins)):=by
 have hx:Hid _:=hx0;have hs:Hid _:=hs0;clear hx0 hs0;refine Qq (n:=21) Tryz.func173 rfl rfl rfl ?_;intro a hF;have hW:=Wd.start w;replace hF:Fr 21 a [(0,.agg #[.slice p m.length c,.int .i64 x.regs,.slice fp.pP x.params.length fp.cP,.slice fp.pR x.results.length fp.cR,.slice fp.pB x.blocks.length fp.cB,.int .i64 (fi:Int)])]:=hF;refine wp_seq_k fun K1 hK1=>?_;refine rg hF fun ops=>?_;clear hF a;refine sB hW trivial rfl rfl ?_;clear hW;intro w2 B2 hW2 hN;clear hN;refine sa trivial rfl rfl ?_;refine St.nil fun a3 h3=>?_;refine hK1 _ _ ?_;refine wp_seq_k fun K4 hK4=>?_;refine Qz ?_;intro ops hops;have hg4:(ops[4]?).bind (fun o:Oper=>o.dst)=some 7:=hops 4;have hg11:(ops[11]?).bind (fun o:Oper=>o.dst)=some 14:=hops 11;clear hops;refine St.go h3 ?_;clear h3 a3;refine QT trivial rfl rfl ?_;refine Z4 trivial rfl rfl ?_;refine QN 0 hW2 trivial rfl rfl rfl rfl ?_;refine seq trivial rfl rfl rfl ?_;refine sm trivial rfl rfl ?_;intro a5 h5;rcases Bool.eq_false_or_eq_true (x.regs==0) with hb | hb
 ·rw[hb] at h5
  have h9:x.regs=0:=eq_of_beq hb;have hc6:Hid (x.regs=0):=h9;clear h9;clear hb;refine St.go h5 ?_;clear h5 a5;refine QT ⟨_,hg4,rfl,rfl⟩ rfl rfl ?_;refine Qba ⟨_,hg4,rfl,rfl⟩ rfl rfl ?_;refine Zc 0 hW2 ⟨_,hg4,rfl,rfl⟩ rfl rfl rfl rfl ?_;refine Qah ⟨_,hg4,rfl,rfl⟩ rfl rfl ?_;refine seq ⟨_,hg4,rfl,rfl⟩ rfl rfl rfl ?_;refine sp trivial rfl rfl rfl ?_;refine sm trivial rfl rfl ?_;intro a7 h7;rcases Bool.eq_false_or_eq_true ((x.params.length:Int)==0) with hb | hb
  ·rw[hb] at h7
   have h9:x.params.length=0:=by have h8:=eq_of_beq hb;omega
   have hc8:Hid (x.params.length=0):=h9;clear h9;clear hb;refine St.go h7 ?_;clear h7 a7;refine QT ⟨_,hg11,rfl,rfl⟩ rfl rfl ?_;refine QaO ⟨_,hg11,rfl,rfl⟩ rfl rfl ?_;refine Zc 0 hW2 ⟨_,hg11,rfl,rfl⟩ rfl rfl rfl rfl ?_;refine Qau cf205 hW2 (Qed (Lay.below hx.out.results hW2.bel) (by have:=hs.out.2.2.1.1;omega)) ⟨_,hg11,rfl,rfl⟩ rfl rfl rfl ?_;clear hW2;intro w9 hW9;refine sn ⟨_,hg11,rfl,rfl⟩ rfl rfl ?_;refine sp trivial rfl rfl rfl ?_;refine sa trivial rfl rfl ?_;refine St.nil fun a10 h10=>?_;refine hK4 _ _ ?_;refine wp_ret ?_;with_reducible repeat first | refine Qd ?_ | refine Qc ?_
   have R:(!(decide (0≤Qfm 0 x.results)))=true↔x.begins:=by
    have e1:=hc6.out;have e2:=hc8.out;have e3:=Qga x.results 0;by_cases hz:0≤Qfm 0 x.results
    ·simp only[hz,decide_true,Bool.not_true,Bool.false_eq_true,false_iff]
     exact fun h=>e3.1 hz h.2.2
    ·simp only[hz,decide_false,Bool.not_false,true_iff]
     refine⟨e1,e2,?_⟩
     cases e:x.results.all (fun t=>t.kind==1) with
     | true=>rfl
     | false=>exact absurd (e3.2 (by rw[e];decide)) hz
   exact Qf (t:=2) h10 rfl rfl ⟨by rw[← Qen R],hW9.bel⟩
  rw[hb] at h7
  have h9:¬ x.params.length=0:=by have h8:=ne_of_beq_false hb;omega
  have hc11:¬ x.params.length=0:=h9;clear h9;clear hb;refine St.go h7 ?_;clear h7 a7;refine so hg11 rfl rfl rfl rfl ?_;refine so hg11 rfl rfl rfl rfl ?_;refine so hg11 rfl rfl rfl rfl ?_;refine so hg11 rfl rfl rfl rfl ?_;refine so hg11 rfl rfl rfl rfl ?_;refine spf trivial rfl rfl rfl ?_;refine sa trivial rfl rfl ?_;refine St.nil fun a12 h12=>?_;refine hK4 _ _ ?_;refine wp_ret ?_;with_reducible repeat first | refine Qd ?_ | refine Qc ?_
  have R:¬ x.begins:=fun h=>hc11 h.2.1;exact Qf (t:=2) h12 rfl rfl ⟨by rw[Zj R],hW2.bel⟩
 rw[hb] at h5
 have h9:¬ x.regs=0:=ne_of_beq_false hb;have hc13:¬ x.regs=0:=h9;clear h9;clear hb;refine St.go h5 ?_;clear h5 a5;refine so hg4 rfl rfl rfl rfl ?_;refine so hg4 rfl rfl rfl rfl ?_;refine so hg4 rfl rfl rfl rfl ?_;refine so hg4 rfl rfl rfl rfl ?_;refine so hg4 rfl rfl rfl rfl ?_;refine spf trivial rfl rfl rfl ?_;refine sm trivial rfl rfl ?_;refine so hg11 rfl rfl rfl rfl ?_;refine so hg11 rfl rfl rfl rfl ?_;refine so hg11 rfl rfl rfl rfl ?_;refine so hg11 rfl rfl rfl rfl ?_;refine so hg11 rfl rfl rfl rfl ?_;refine spf trivial rfl rfl rfl ?_;refine sa trivial rfl rfl ?_;refine St.nil fun a14 h14=>?_;refine hK4 _ _ ?_;refine wp_ret ?_;with_reducible repeat first | refine Qd ?_ | refine Qc ?_
 have R:¬ x.begins:=fun h=>hc13 h.1;exact Qf (t:=2) h14 rfl rfl ⟨by rw[Zj R],hW2.bel⟩
theorem QiD {n:Nat}{m:List (Qe n)}{p:Option Addr}{c:Nat}{x:Qe n}{fp:FP}{fi:Nat}{y:Qh n}{bp:BP}{bi:Nat}{w:World}(hx0:FIn w All x fp) (hs0:x.small) (hy0:BIn w All y bp) (ht0:y.small) :
 Rd Tryz.prog 207 #[.agg #[.slice p m.length c,.int .i64 x.regs,.slice fp.pP x.params.length fp.cP,.slice fp.pR x.results.length fp.cR,.slice fp.pB x.blocks.length fp.cB,.int .i64 (fi:Int),.int .i64 y.regs,.slice bp.pP y.params.length bp.cP,.slice bp.pC y.code.length bp.cC,.int .i64 y.fin.op,.int .i64 y.fin.a,.int .i64 y.fin.yes.block,.slice bp.e.pYR y.fin.yes.regs.length bp.e.cYR,.slice bp.e.pYA y.fin.yes.args.length bp.e.cYA,.int .i64 y.fin.no.block,.slice bp.e.pNR y.fin.no.regs.length bp.e.cNR,.slice bp.e.pNA y.fin.no.args.length bp.e.cNA,.slice bp.e.pA y.fin.args.length bp.e.cA,.int .i64 (bi:Int)]] w (.bool (bdec (y.takes x))):=by
 have hx:Hid _:=hx0;have hs:Hid _:=hs0;have hy:Hid _:=hy0;have ht:Hid _:=ht0;clear hx0 hs0 hy0 ht0;refine Qq (n:=21) Tryz.func207 rfl rfl rfl ?_;intro a hF;have hW:=Wd.start w;replace hF:Fr 21 a [(0,.agg #[.slice p m.length c,.int .i64 x.regs,.slice fp.pP x.params.length fp.cP,.slice fp.pR x.results.length fp.cR,.slice fp.pB x.blocks.length fp.cB,.int .i64 (fi:Int),.int .i64 y.regs,.slice bp.pP y.params.length bp.cP,.slice bp.pC y.code.length bp.cC,.int .i64 y.fin.op,.int .i64 y.fin.a,.int .i64 y.fin.yes.block,.slice bp.e.pYR y.fin.yes.regs.length bp.e.cYR,.slice bp.e.pYA y.fin.yes.args.length bp.e.cYA,.int .i64 y.fin.no.block,.slice bp.e.pNR y.fin.no.regs.length bp.e.cNR,.slice bp.e.pNA y.fin.no.args.length bp.e.cNA,.slice bp.e.pA y.fin.args.length bp.e.cA,.int .i64 (bi:Int)])]:=hF;refine wp_seq_k fun K1 hK1=>?_;refine rg hF fun ops=>?_;clear hF a;refine sB hW trivial rfl rfl ?_;clear hW;intro w2 B2 hW2 hN;clear hN;refine sa trivial rfl rfl ?_;refine St.nil fun a3 h3=>?_;refine hK1 _ _ ?_;refine wp_seq_k fun K4 hK4=>?_;refine Qz ?_;intro ops hops;have hg8:(ops[8]?).bind (fun o:Oper=>o.dst)=some 11:=hops 8;clear hops;refine St.go h3 ?_;clear h3 a3;refine Zn trivial rfl rfl ?_;refine QaJ trivial rfl rfl ?_;refine QN 0 hW2 trivial rfl rfl rfl rfl ?_;refine QaH trivial rfl rfl ?_;refine QT trivial rfl rfl ?_;refine Z4 trivial rfl rfl ?_;refine QN 0 hW2 trivial rfl rfl rfl rfl ?_;refine seq trivial rfl rfl rfl ?_;refine sm trivial rfl rfl ?_;intro a5 h5;rcases Bool.eq_false_or_eq_true (y.regs==x.regs) with hb | hb
 ·rw[hb] at h5
  have h9:y.regs=x.regs:=eq_of_beq hb;have hc6:Hid (y.regs=x.regs):=h9;clear h9;clear hb;refine St.go h5 ?_;clear h5 a5;refine Zn ⟨_,hg8,rfl,rfl⟩ rfl rfl ?_;refine Qbb ⟨_,hg8,rfl,rfl⟩ rfl rfl ?_;refine Zc 0 hW2 ⟨_,hg8,rfl,rfl⟩ rfl rfl rfl rfl ?_;refine QaH ⟨_,hg8,rfl,rfl⟩ rfl rfl ?_;refine QT ⟨_,hg8,rfl,rfl⟩ rfl rfl ?_;refine Qba ⟨_,hg8,rfl,rfl⟩ rfl rfl ?_;refine Zc 0 hW2 ⟨_,hg8,rfl,rfl⟩ rfl rfl rfl rfl ?_;refine Qgn cf200 hW2 (QfF (Lay.below hy.out.params hW2.bel) (Lay.below hx.out.params hW2.bel) ht.out.2.1) ⟨_,hg8,rfl,rfl⟩ rfl rfl rfl rfl ?_;clear hW2;intro w7 hW7;refine sp trivial rfl rfl rfl ?_;refine sa trivial rfl rfl ?_;refine St.nil fun a8 h8=>?_;refine hK4 _ _ ?_;refine wp_ret ?_;with_reducible repeat first | refine Qd ?_ | refine Qc ?_
  have R:y.params=x.params↔y.takes x:=⟨fun h=>⟨hc6.out,h⟩,fun h=>h.2⟩;exact Qf (t:=2) h8 rfl rfl ⟨by rw[Qhg R],hW7.bel⟩
 rw[hb] at h5
 have h9:¬ y.regs=x.regs:=ne_of_beq_false hb;have hc9:¬ y.regs=x.regs:=h9;clear h9;clear hb;refine St.go h5 ?_;clear h5 a5;refine so hg8 rfl rfl rfl rfl ?_;refine so hg8 rfl rfl rfl rfl ?_;refine so hg8 rfl rfl rfl rfl ?_;refine so hg8 rfl rfl rfl rfl ?_;refine so hg8 rfl rfl rfl rfl ?_;refine so hg8 rfl rfl rfl rfl ?_;refine so hg8 rfl rfl rfl rfl ?_;refine so hg8 rfl rfl rfl rfl ?_;refine spf trivial rfl rfl rfl ?_;refine sa trivial rfl rfl ?_;refine St.nil fun a10 h10=>?_;refine hK4 _ _ ?_;refine wp_ret ?_;with_reducible repeat first | refine Qd ?_ | refine Qc ?_
 have R:¬ y.takes x:=fun h=>hc9 h.1;exact Qf (t:=2) h10 rfl rfl ⟨by rw[Zj R],hW2.bel⟩
theorem QeH {n:Nat}{m:List (Qe n)}{p:Option Addr}{c:Nat}{x:Qe n}{fp:FP}{fi:Nat}{w:World}(hx0:FIn w All x fp) (hs0:x.small) :
 Rd Tryz.prog 137 #[.agg #[.slice p m.length c,.int .i64 x.regs,.slice fp.pP x.params.length fp.cP,.slice fp.pR x.results.length fp.cR,.slice fp.pB x.blocks.length fp.cB,.int .i64 (fi:Int)]] w (.int .i64 (x.code fi)):=by
 have hx:Hid _:=hx0;have hs:Hid _:=hs0;clear hx0 hs0;refine Qq (n:=55) Tryz.func137 rfl rfl rfl ?_;intro a hF;have hW:=Wd.start w;replace hF:Fr 55 a [(0,.agg #[.slice p m.length c,.int .i64 x.regs,.slice fp.pP x.params.length fp.cP,.slice fp.pR x.results.length fp.cR,.slice fp.pB x.blocks.length fp.cB,.int .i64 (fi:Int)])]:=hF;refine wp_seq_k fun K1 hK1=>?_;refine rg hF fun ops=>?_;clear hF a;refine sB hW trivial rfl rfl ?_;clear hW;intro w2 B2 hW2 hN;clear hN;refine sa trivial rfl rfl ?_;refine St.nil fun a3 h3=>?_;refine hK1 _ _ ?_;refine wp_seq_k fun K4 hK4=>?_;refine wp_seq_k fun K5 hK5=>?_;refine Qz ?_;intro ops hops;have hg4:(ops[4]?).bind (fun o:Oper=>o.dst)=some 9:=hops 4;clear hops;refine St.go h3 ?_;clear h3 a3;refine QT trivial rfl rfl ?_;refine Z4 trivial rfl rfl ?_;refine QN 0 hW2 trivial rfl rfl rfl rfl ?_;refine slt trivial rfl rfl rfl ?_;refine sm trivial rfl rfl ?_;intro a6 h6;rcases Bool.eq_false_or_eq_true (decide (x.regs<0)) with hb | hb
 ·rw[hb] at h6
  have hc7:x.regs<0:=of_decide_eq_true hb;clear hb;refine St.go h6 ?_;clear h6 a6;refine so hg4 rfl rfl rfl rfl ?_;refine so hg4 rfl rfl rfl rfl ?_;refine so hg4 rfl rfl rfl rfl ?_;refine so hg4 rfl rfl rfl rfl ?_;refine sp trivial rfl rfl rfl ?_;refine St.nil fun a8 h8=>?_;refine hK5 _ _ ?_;refine QU (t:=14) h8 rfl ?_;refine wp_seq_k fun K9 hK9=>?_;refine rg h8 fun ops=>?_;clear h8 a8;refine sa trivial rfl rfl ?_;refine St.nil fun a10 h10=>?_;refine hK9 _ _ ?_;refine wp_ret ?_;with_reducible repeat first | refine Qd ?_ | refine Qc ?_
  have R:x.code fi=1:=if_pos (by omega);exact Qf (t:=2) h10 rfl rfl ⟨by rw[R],hW2.bel⟩
 rw[hb] at h6
 have hc11:¬ (x.regs<0):=of_decide_eq_false hb;clear hb;refine St.go h6 ?_;clear h6 a6;refine QT ⟨_,hg4,rfl,rfl⟩ rfl rfl ?_;refine Z4 ⟨_,hg4,rfl,rfl⟩ rfl rfl ?_;refine QN 0 hW2 ⟨_,hg4,rfl,rfl⟩ rfl rfl rfl rfl ?_;refine sgt ⟨_,hg4,rfl,rfl⟩ rfl rfl rfl ?_;refine spf trivial rfl rfl rfl ?_;refine St.nil fun a12 h12=>?_;refine hK5 _ _ ?_;refine Qg (t:=14) h12 rfl (fun hb=>?_) (fun hb=>?_)
 ·have hc13:6<x.regs:=of_decide_eq_true hb
  clear hb;refine wp_seq_k fun K14 hK14=>?_;refine rg h12 fun ops=>?_;clear h12 a12;refine sa trivial rfl rfl ?_;refine St.nil fun a15 h15=>?_;refine hK14 _ _ ?_;refine wp_ret ?_;with_reducible repeat first | refine Qd ?_ | refine Qc ?_
  have R:x.code fi=1:=if_pos (by omega);exact Qf (t:=2) h15 rfl rfl ⟨by rw[R],hW2.bel⟩
 have hc16:¬ (6<x.regs):=of_decide_eq_false hb;clear hb;refine wp_skip ?_;refine hK4 _ _ ?_;refine wp_seq_k fun K17 hK17=>?_;refine wp_seq_k fun K18 hK18=>?_;refine rg h12 fun ops=>?_;clear h12 a12;refine QT trivial rfl rfl ?_;refine Qba trivial rfl rfl ?_;refine Zc 0 hW2 trivial rfl rfl rfl rfl ?_;refine QT trivial rfl rfl ?_;refine Z4 trivial rfl rfl ?_;refine QN 0 hW2 trivial rfl rfl rfl rfl ?_;refine Qau cf172 hW2 (Qa6 (regs:=x.regs) (Lay.below hx.out.params hW2.bel) hs.out.2.1) trivial rfl rfl rfl ?_;clear hW2;intro w19 hW19;refine sa trivial rfl rfl ?_;refine St.nil fun a20 h20=>?_;refine hK18 _ _ ?_;refine wp_seq_k fun K21 hK21=>?_;refine rg h20 fun ops=>?_;clear h20 a20;refine sm trivial rfl rfl ?_;refine sne trivial rfl rfl rfl ?_;refine St.nil fun a22 h22=>?_;refine hK21 _ _ ?_;refine Qg (t:=23) h22 rfl (fun hb=>?_) (fun hb=>?_)
 ·have h9:¬ (listC x.regs x.params)=0:=bne_iff_ne.1 hb
  have hc23:¬ (listC x.regs x.params)=0:=h9;clear h9;clear hb;refine wp_seq_k fun K24 hK24=>?_;refine rg h22 fun ops=>?_;clear h22 a22;refine sm trivial rfl rfl ?_;refine sa trivial rfl rfl ?_;refine St.nil fun a25 h25=>?_;refine hK24 _ _ ?_;refine wp_ret ?_;with_reducible repeat first | refine Qd ?_ | refine Qc ?_
  have R:x.code fi=listC x.regs x.params:=(if_neg (by omega)).trans (if_pos (by omega));exact Qf (t:=2) h25 rfl rfl ⟨by rw[R],hW19.bel⟩
 have h9:(listC x.regs x.params)=0:=bne_eq_false_iff_eq.1 hb;have hc26:Hid ((listC x.regs x.params)=0):=h9;clear h9;clear hb;refine wp_skip ?_;refine hK17 _ _ ?_;refine wp_seq_k fun K27 hK27=>?_;refine wp_seq_k fun K28 hK28=>?_;refine rg h22 fun ops=>?_;clear h22 a22;refine QT trivial rfl rfl ?_;refine QaO trivial rfl rfl ?_;refine Zc 0 hW19 trivial rfl rfl rfl rfl ?_;refine QT trivial rfl rfl ?_;refine Z4 trivial rfl rfl ?_;refine QN 0 hW19 trivial rfl rfl rfl rfl ?_;refine Qau cf172 hW19 (Qa6 (regs:=x.regs) (Lay.below hx.out.results hW19.bel) hs.out.2.2.1) trivial rfl rfl rfl ?_;clear hW19;intro w29 hW29;refine sa trivial rfl rfl ?_;refine St.nil fun a30 h30=>?_;refine hK28 _ _ ?_;refine wp_seq_k fun K31 hK31=>?_;refine rg h30 fun ops=>?_;clear h30 a30;refine sm trivial rfl rfl ?_;refine sne trivial rfl rfl rfl ?_;refine St.nil fun a32 h32=>?_;refine hK31 _ _ ?_;refine Qg (t:=33) h32 rfl (fun hb=>?_) (fun hb=>?_)
 ·have h9:¬ (listC x.regs x.results)=0:=bne_iff_ne.1 hb
  have hc33:¬ (listC x.regs x.results)=0:=h9;clear h9;clear hb;refine wp_seq_k fun K34 hK34=>?_;refine rg h32 fun ops=>?_;clear h32 a32;refine sm trivial rfl rfl ?_;refine sa trivial rfl rfl ?_;refine St.nil fun a35 h35=>?_;refine hK34 _ _ ?_;refine wp_ret ?_;with_reducible repeat first | refine Qd ?_ | refine Qc ?_
  have:=hc26.out
  have R:x.code fi=listC x.regs x.results:=(if_neg (by omega)).trans ((if_neg (by omega)).trans (if_pos (by omega)));exact Qf (t:=2) h35 rfl rfl ⟨by rw[R],hW29.bel⟩
 have h9:(listC x.regs x.results)=0:=bne_eq_false_iff_eq.1 hb;have hc36:Hid ((listC x.regs x.results)=0):=h9;clear h9;clear hb;refine wp_skip ?_;refine hK27 _ _ ?_;refine wp_seq_k fun K37 hK37=>?_;refine wp_seq_k fun K38 hK38=>?_;refine Qz ?_;intro ops hops;have hg5:(ops[5]?).bind (fun o:Oper=>o.dst)=some 40:=hops 5;clear hops;refine St.go h32 ?_;clear h32 a32;refine QT trivial rfl rfl ?_;refine ZV trivial rfl rfl ?_;refine ZD 0 hW29 trivial rfl rfl rfl rfl ?_;refine ZH trivial rfl rfl ?_;refine slt trivial rfl rfl rfl ?_;refine sm trivial rfl rfl ?_;intro a39 h39;rcases Bool.eq_false_or_eq_true (decide ((x.blocks.length:Int)<1)) with hb | hb
 ·rw[hb] at h39
  have hc40:x.blocks.length<1:=by have:=of_decide_eq_true hb;omega
  clear hb;refine St.go h39 ?_;clear h39 a39;refine so hg5 rfl rfl rfl rfl ?_;refine so hg5 rfl rfl rfl rfl ?_;refine so hg5 rfl rfl rfl rfl ?_;refine so hg5 rfl rfl rfl rfl ?_;refine so hg5 rfl rfl rfl rfl ?_;refine sp trivial rfl rfl rfl ?_;refine St.nil fun a41 h41=>?_;refine hK38 _ _ ?_;refine QU (t:=46) h41 rfl ?_;refine wp_seq_k fun K42 hK42=>?_;refine rg h41 fun ops=>?_;clear h41 a41;refine sa trivial rfl rfl ?_;refine St.nil fun a43 h43=>?_;refine hK42 _ _ ?_;refine wp_ret ?_;with_reducible repeat first | refine Qd ?_ | refine Qc ?_
  have:=hc26.out
  have:=hc36.out
  have R:x.code fi=2:=(if_neg (by omega)).trans ((if_neg (by omega)).trans ((if_neg (by omega)).trans (if_pos (by omega))));exact Qf (t:=2) h43 rfl rfl ⟨by rw[R],hW29.bel⟩
 rw[hb] at h39
 have hc44:¬ (x.blocks.length<1):=by have:=of_decide_eq_false hb;omega
 clear hb;refine St.go h39 ?_;clear h39 a39;refine QT ⟨_,hg5,rfl,rfl⟩ rfl rfl ?_;refine ZV ⟨_,hg5,rfl,rfl⟩ rfl rfl ?_;refine ZD 0 hW29 ⟨_,hg5,rfl,rfl⟩ rfl rfl rfl rfl ?_;refine ZH ⟨_,hg5,rfl,rfl⟩ rfl rfl ?_;refine sgt ⟨_,hg5,rfl,rfl⟩ rfl rfl rfl ?_;refine spf trivial rfl rfl rfl ?_;refine St.nil fun a45 h45=>?_;refine hK38 _ _ ?_;refine Qg (t:=46) h45 rfl (fun hb=>?_) (fun hb=>?_)
 ·have hc46:12<x.blocks.length:=by have:=of_decide_eq_true hb;omega
  clear hb;refine wp_seq_k fun K47 hK47=>?_;refine rg h45 fun ops=>?_;clear h45 a45;refine sa trivial rfl rfl ?_;refine St.nil fun a48 h48=>?_;refine hK47 _ _ ?_;refine wp_ret ?_;with_reducible repeat first | refine Qd ?_ | refine Qc ?_
  have:=hc26.out
  have:=hc36.out
  have R:x.code fi=2:=(if_neg (by omega)).trans ((if_neg (by omega)).trans ((if_neg (by omega)).trans (if_pos (by omega))));exact Qf (t:=2) h48 rfl rfl ⟨by rw[R],hW29.bel⟩
 have hc49:¬ (12<x.blocks.length):=by have:=of_decide_eq_false hb;omega
 clear hb;refine wp_skip ?_;refine hK37 _ _ ?_;refine wp_seq_k fun K50 hK50=>?_;refine wp_seq_k fun K51 hK51=>?_;refine Qz ?_;intro ops hops;have hg3:(ops[3]?).bind (fun o:Oper=>o.dst)=some 50:=hops 3;clear hops;refine St.go h45 ?_;clear h45 a45;refine QbT trivial rfl rfl ?_;refine QN 0 hW29 trivial rfl rfl rfl rfl ?_;refine seq trivial rfl rfl rfl ?_;refine sm trivial rfl rfl ?_;intro a52 h52;rcases Bool.eq_false_or_eq_true ((fi:Int)==0) with hb | hb
 ·rw[hb] at h52
  have h9:fi=0:=by have h8:=eq_of_beq hb;omega
  have hc53:Hid (fi=0):=h9;clear h9;clear hb;refine St.go h52 ?_;clear h52 a52;refine sS 0 6 Tryz.underlying134 rfl inffuncLook hW29 ⟨_,hg3,rfl,rfl⟩ rfl rfl rfl rfl ?_;refine Qdu cf173 hW29 (Qe2 (m:=m) (p:=p) (c:=c) (fi:=fi) (hx.out.below hW29.bel) hs.out) ⟨_,hg3,rfl,rfl⟩ rfl rfl ?_;clear hW29;intro w54 hW54;refine sn ⟨_,hg3,rfl,rfl⟩ rfl rfl ?_;refine sp trivial rfl rfl rfl ?_;refine St.nil fun a55 h55=>?_;refine hK51 _ _ ?_;refine Qg (t:=54) h55 rfl (fun hb=>?_) (fun hb=>?_)
  ·have hb:(bdec (x.begins))=false:=by simpa using hb
   have hc56:¬ (x.begins):=fun h=>by rw[QH h] at hb;cases hb
   clear hb;refine wp_seq_k fun K57 hK57=>?_;refine rg h55 fun ops=>?_;clear h55 a55;refine sa trivial rfl rfl ?_;refine St.nil fun a58 h58=>?_;refine hK57 _ _ ?_;refine wp_ret ?_;with_reducible repeat first | refine Qd ?_ | refine Qc ?_
   have:=hc26.out
   have:=hc36.out
   have:=hc53.out
   have R:x.code fi=18:=(if_neg (by omega)).trans ((if_neg (by omega)).trans ((if_neg (by omega)).trans ((if_neg (by omega)).trans (if_pos (⟨by omega,hc56⟩)))));exact Qf (t:=2) h58 rfl rfl ⟨by rw[R],hW54.bel⟩
  have hb:(bdec (x.begins))=true:=by simpa using hb
  have hc59:(x.begins):=ZC.1 hb;clear hb;refine wp_skip ?_;refine hK50 _ _ ?_;refine wp_seq_k fun K60 hK60=>?_;refine rg h55 fun ops=>?_;clear h55 a55;refine sa trivial rfl rfl ?_;refine St.nil fun a61 h61=>?_;refine hK60 _ _ ?_;refine wp_ret ?_;with_reducible repeat first | refine Qd ?_ | refine Qc ?_
  have:=hc26.out
  have:=hc36.out
  have:=hc53.out
  have R:x.code fi=0:=(if_neg (by omega)).trans ((if_neg (by omega)).trans ((if_neg (by omega)).trans ((if_neg (by omega)).trans ((if_neg (fun h=>h.2 hc59)).trans (rfl)))));exact Qf (t:=2) h61 rfl rfl ⟨by rw[R],hW54.bel⟩
 rw[hb] at h52
 have h9:¬ fi=0:=by have h8:=ne_of_beq_false hb;omega
 have hc62:¬ fi=0:=h9;clear h9;clear hb;refine St.go h52 ?_;clear h52 a52;refine so hg3 rfl rfl rfl rfl ?_;refine so hg3 rfl rfl rfl rfl ?_;refine so hg3 rfl rfl rfl rfl ?_;refine spf trivial rfl rfl rfl ?_;refine St.nil fun a63 h63=>?_;refine hK51 _ _ ?_;refine Qbl (t:=54) h63 rfl ?_;refine wp_skip ?_;refine hK50 _ _ ?_;refine wp_seq_k fun K64 hK64=>?_;refine rg h63 fun ops=>?_;clear h63 a63;refine sa trivial rfl rfl ?_;refine St.nil fun a65 h65=>?_;refine hK64 _ _ ?_;refine wp_ret ?_;with_reducible repeat first | refine Qd ?_ | refine Qc ?_
 have:=hc26.out
 have:=hc36.out
 have R:x.code fi=0:=(if_neg (by omega)).trans ((if_neg (by omega)).trans ((if_neg (by omega)).trans ((if_neg (by omega)).trans ((if_neg (by omega)).trans (rfl)))));exact Qf (t:=2) h65 rfl rfl ⟨by rw[R],hW29.bel⟩
theorem Qd0 {n:Nat}{m:List (Qe n)}{p:Option Addr}{c:Nat}{x:Qe n}{fp:FP}{fi:Nat}{y:Qh n}{bp:BP}{bi:Nat}{w:World}(hx0:FIn w All x fp) (hs0:x.small) (hy0:BIn w All y bp) (ht0:y.small) :
 Rd Tryz.prog 174 #[.agg #[.slice p m.length c,.int .i64 x.regs,.slice fp.pP x.params.length fp.cP,.slice fp.pR x.results.length fp.cR,.slice fp.pB x.blocks.length fp.cB,.int .i64 (fi:Int),.int .i64 y.regs,.slice bp.pP y.params.length bp.cP,.slice bp.pC y.code.length bp.cC,.int .i64 y.fin.op,.int .i64 y.fin.a,.int .i64 y.fin.yes.block,.slice bp.e.pYR y.fin.yes.regs.length bp.e.cYR,.slice bp.e.pYA y.fin.yes.args.length bp.e.cYA,.int .i64 y.fin.no.block,.slice bp.e.pNR y.fin.no.regs.length bp.e.cNR,.slice bp.e.pNA y.fin.no.args.length bp.e.cNA,.slice bp.e.pA y.fin.args.length bp.e.cA,.int .i64 (bi:Int)]] w (.int .i64 (y.code' x bi)):=by
 have hx:Hid _:=hx0;have hs:Hid _:=hs0;have hy:Hid _:=hy0;have ht:Hid _:=ht0;clear hx0 hs0 hy0 ht0;refine Qq (n:=41) Tryz.func174 rfl rfl rfl ?_;intro a hF;have hW:=Wd.start w;replace hF:Fr 41 a [(0,.agg #[.slice p m.length c,.int .i64 x.regs,.slice fp.pP x.params.length fp.cP,.slice fp.pR x.results.length fp.cR,.slice fp.pB x.blocks.length fp.cB,.int .i64 (fi:Int),.int .i64 y.regs,.slice bp.pP y.params.length bp.cP,.slice bp.pC y.code.length bp.cC,.int .i64 y.fin.op,.int .i64 y.fin.a,.int .i64 y.fin.yes.block,.slice bp.e.pYR y.fin.yes.regs.length bp.e.cYR,.slice bp.e.pYA y.fin.yes.args.length bp.e.cYA,.int .i64 y.fin.no.block,.slice bp.e.pNR y.fin.no.regs.length bp.e.cNR,.slice bp.e.pNA y.fin.no.args.length bp.e.cNA,.slice bp.e.pA y.fin.args.length bp.e.cA,.int .i64 (bi:Int)])]:=hF;refine wp_seq_k fun K1 hK1=>?_;refine rg hF fun ops=>?_;clear hF a;refine sB hW trivial rfl rfl ?_;clear hW;intro w2 B2 hW2 hN;clear hN;refine sa trivial rfl rfl ?_;refine St.nil fun a3 h3=>?_;refine hK1 _ _ ?_;refine wp_seq_k fun K4 hK4=>?_;refine wp_seq_k fun K5 hK5=>?_;refine Qz ?_;intro ops hops;have hg8:(ops[8]?).bind (fun o:Oper=>o.dst)=some 12:=hops 8;clear hops;refine St.go h3 ?_;clear h3 a3;refine Zn trivial rfl rfl ?_;refine QaJ trivial rfl rfl ?_;refine QN 0 hW2 trivial rfl rfl rfl rfl ?_;refine QaH trivial rfl rfl ?_;refine QT trivial rfl rfl ?_;refine Z4 trivial rfl rfl ?_;refine QN 0 hW2 trivial rfl rfl rfl rfl ?_;refine slt trivial rfl rfl rfl ?_;refine sm trivial rfl rfl ?_;intro a6 h6;rcases Bool.eq_false_or_eq_true (decide (y.regs<x.regs)) with hb | hb
 ·rw[hb] at h6
  have hc7:y.regs<x.regs:=of_decide_eq_true hb;clear hb;refine St.go h6 ?_;clear h6 a6;refine so hg8 rfl rfl rfl rfl ?_;refine so hg8 rfl rfl rfl rfl ?_;refine so hg8 rfl rfl rfl rfl ?_;refine so hg8 rfl rfl rfl rfl ?_;refine sp trivial rfl rfl rfl ?_;refine St.nil fun a8 h8=>?_;refine hK5 _ _ ?_;refine QU (t:=17) h8 rfl ?_;refine wp_seq_k fun K9 hK9=>?_;refine rg h8 fun ops=>?_;clear h8 a8;refine sa trivial rfl rfl ?_;refine St.nil fun a10 h10=>?_;refine hK9 _ _ ?_;refine wp_ret ?_;with_reducible repeat first | refine Qd ?_ | refine Qc ?_
  have R:y.code' x bi=1:=if_pos (by omega);exact Qf (t:=2) h10 rfl rfl ⟨by rw[R],hW2.bel⟩
 rw[hb] at h6
 have hc11:¬ (y.regs<x.regs):=of_decide_eq_false hb;clear hb;refine St.go h6 ?_;clear h6 a6;refine Zn ⟨_,hg8,rfl,rfl⟩ rfl rfl ?_;refine QaJ ⟨_,hg8,rfl,rfl⟩ rfl rfl ?_;refine QN 0 hW2 ⟨_,hg8,rfl,rfl⟩ rfl rfl rfl rfl ?_;refine sgt ⟨_,hg8,rfl,rfl⟩ rfl rfl rfl ?_;refine spf trivial rfl rfl rfl ?_;refine St.nil fun a12 h12=>?_;refine hK5 _ _ ?_;refine Qg (t:=17) h12 rfl (fun hb=>?_) (fun hb=>?_)
 ·have hc13:16<y.regs:=of_decide_eq_true hb
  clear hb;refine wp_seq_k fun K14 hK14=>?_;refine rg h12 fun ops=>?_;clear h12 a12;refine sa trivial rfl rfl ?_;refine St.nil fun a15 h15=>?_;refine hK14 _ _ ?_;refine wp_ret ?_;with_reducible repeat first | refine Qd ?_ | refine Qc ?_
  have R:y.code' x bi=1:=if_pos (by omega);exact Qf (t:=2) h15 rfl rfl ⟨by rw[R],hW2.bel⟩
 have hc16:¬ (16<y.regs):=of_decide_eq_false hb;clear hb;refine wp_skip ?_;refine hK4 _ _ ?_;refine wp_seq_k fun K17 hK17=>?_;refine wp_seq_k fun K18 hK18=>?_;refine rg h12 fun ops=>?_;clear h12 a12;refine Zn trivial rfl rfl ?_;refine Qbb trivial rfl rfl ?_;refine Zc 0 hW2 trivial rfl rfl rfl rfl ?_;refine Zn trivial rfl rfl ?_;refine QaJ trivial rfl rfl ?_;refine QN 0 hW2 trivial rfl rfl rfl rfl ?_;refine Qau cf172 hW2 (Qa6 (regs:=y.regs) (Lay.below hy.out.params hW2.bel) ht.out.2.1) trivial rfl rfl rfl ?_;clear hW2;intro w19 hW19;refine sa trivial rfl rfl ?_;refine St.nil fun a20 h20=>?_;refine hK18 _ _ ?_;refine wp_seq_k fun K21 hK21=>?_;refine rg h20 fun ops=>?_;clear h20 a20;refine sm trivial rfl rfl ?_;refine sne trivial rfl rfl rfl ?_;refine St.nil fun a22 h22=>?_;refine hK21 _ _ ?_;refine Qg (t:=26) h22 rfl (fun hb=>?_) (fun hb=>?_)
 ·have h9:¬ (listC y.regs y.params)=0:=bne_iff_ne.1 hb
  have hc23:¬ (listC y.regs y.params)=0:=h9;clear h9;clear hb;refine wp_seq_k fun K24 hK24=>?_;refine rg h22 fun ops=>?_;clear h22 a22;refine sm trivial rfl rfl ?_;refine sa trivial rfl rfl ?_;refine St.nil fun a25 h25=>?_;refine hK24 _ _ ?_;refine wp_ret ?_;with_reducible repeat first | refine Qd ?_ | refine Qc ?_
  have R:y.code' x bi=listC y.regs y.params:=(if_neg (by omega)).trans (if_pos (by omega));exact Qf (t:=2) h25 rfl rfl ⟨by rw[R],hW19.bel⟩
 have h9:(listC y.regs y.params)=0:=bne_eq_false_iff_eq.1 hb;have hc26:Hid ((listC y.regs y.params)=0):=h9;clear h9;clear hb;refine wp_skip ?_;refine hK17 _ _ ?_;refine wp_seq_k fun K27 hK27=>?_;refine wp_seq_k fun K28 hK28=>?_;refine Qz ?_;intro ops hops;have hg3:(ops[3]?).bind (fun o:Oper=>o.dst)=some 31:=hops 3;clear hops;refine St.go h22 ?_;clear h22 a22;refine QcM trivial rfl rfl ?_;refine QN 0 hW19 trivial rfl rfl rfl rfl ?_;refine seq trivial rfl rfl rfl ?_;refine sm trivial rfl rfl ?_;intro a29 h29;rcases Bool.eq_false_or_eq_true ((bi:Int)==0) with hb | hb
 ·rw[hb] at h29
  have h9:bi=0:=by have h8:=eq_of_beq hb;omega
  have hc30:Hid (bi=0):=h9;clear h9;clear hb;refine St.go h29 ?_;clear h29 a29;refine sS 0 19 Tryz.underlying181 rfl infblockLook hW19 ⟨_,hg3,rfl,rfl⟩ rfl rfl rfl rfl ?_;refine Qdu cf207 hW19 (QiD (m:=m) (p:=p) (c:=c) (fi:=fi) (bi:=bi) (hx.out.below hW19.bel) hs.out (hy.out.below hW19.bel) ht.out) ⟨_,hg3,rfl,rfl⟩ rfl rfl ?_;clear hW19;intro w31 hW31;refine sn ⟨_,hg3,rfl,rfl⟩ rfl rfl ?_;refine sp trivial rfl rfl rfl ?_;refine St.nil fun a32 h32=>?_;refine hK28 _ _ ?_;refine Qg (t:=35) h32 rfl (fun hb=>?_) (fun hb=>?_)
  ·have hb:(bdec (y.takes x))=false:=by simpa using hb
   have hc33:¬ (y.takes x):=fun h=>by rw[QH h] at hb;cases hb
   clear hb;refine wp_seq_k fun K34 hK34=>?_;refine rg h32 fun ops=>?_;clear h32 a32;refine sa trivial rfl rfl ?_;refine St.nil fun a35 h35=>?_;refine hK34 _ _ ?_;refine wp_ret ?_;with_reducible repeat first | refine Qd ?_ | refine Qc ?_
   have:=hc26.out
   have:=hc30.out
   have R:y.code' x bi=9:=(if_neg (by omega)).trans ((if_neg (by omega)).trans (if_pos (⟨by omega,Qgm hc33⟩)));exact Qf (t:=2) h35 rfl rfl ⟨by rw[R],hW31.bel⟩
  have hb:(bdec (y.takes x))=true:=by simpa using hb
  have hc36:(y.takes x):=ZC.1 hb;clear hb;refine wp_skip ?_;refine hK27 _ _ ?_;refine wp_seq_k fun K37 hK37=>?_;refine wp_seq_k fun K38 hK38=>?_;refine rg h32 fun ops=>?_;clear h32 a32;refine Zn trivial rfl rfl ?_;refine ZI trivial rfl rfl ?_;refine Qbm 0 hW31 trivial rfl rfl rfl rfl ?_;refine Qbs trivial rfl rfl ?_;refine sgt trivial rfl rfl rfl ?_;refine St.nil fun a39 h39=>?_;refine hK38 _ _ ?_;refine Qg (t:=40) h39 rfl (fun hb=>?_) (fun hb=>?_)
  ·have hc40:40<y.code.length:=by have:=of_decide_eq_true hb;omega
   clear hb;refine wp_seq_k fun K41 hK41=>?_;refine rg h39 fun ops=>?_;clear h39 a39;refine sa trivial rfl rfl ?_;refine St.nil fun a42 h42=>?_;refine hK41 _ _ ?_;refine wp_ret ?_;with_reducible repeat first | refine Qd ?_ | refine Qc ?_
   have:=hc26.out
   have:=hc30.out
   have R:y.code' x bi=2:=(if_neg (by omega)).trans ((if_neg (by omega)).trans ((if_neg (fun h=>QaT hc36 h.2)).trans (if_pos (by omega))));exact Qf (t:=2) h42 rfl rfl ⟨by rw[R],hW31.bel⟩
  have hc43:¬ (40<y.code.length):=by have:=of_decide_eq_false hb;omega
  clear hb;refine wp_skip ?_;refine hK37 _ _ ?_;refine wp_seq_k fun K44 hK44=>?_;refine rg h39 fun ops=>?_;clear h39 a39;refine sa trivial rfl rfl ?_;refine St.nil fun a45 h45=>?_;refine hK44 _ _ ?_;refine wp_ret ?_;with_reducible repeat first | refine Qd ?_ | refine Qc ?_
  have:=hc26.out
  have:=hc30.out
  have R:y.code' x bi=0:=(if_neg (by omega)).trans ((if_neg (by omega)).trans ((if_neg (fun h=>QaT hc36 h.2)).trans ((if_neg (by omega)).trans (rfl))));exact Qf (t:=2) h45 rfl rfl ⟨by rw[R],hW31.bel⟩
 rw[hb] at h29
 have h9:¬ bi=0:=by have h8:=ne_of_beq_false hb;omega
 have hc46:¬ bi=0:=h9;clear h9;clear hb;refine St.go h29 ?_;clear h29 a29;refine so hg3 rfl rfl rfl rfl ?_;refine so hg3 rfl rfl rfl rfl ?_;refine so hg3 rfl rfl rfl rfl ?_;refine spf trivial rfl rfl rfl ?_;refine St.nil fun a47 h47=>?_;refine hK28 _ _ ?_;refine Qbl (t:=35) h47 rfl ?_;refine wp_skip ?_;refine hK27 _ _ ?_;refine wp_seq_k fun K48 hK48=>?_;refine wp_seq_k fun K49 hK49=>?_;refine rg h47 fun ops=>?_;clear h47 a47;refine Zn trivial rfl rfl ?_;refine ZI trivial rfl rfl ?_;refine Qbm 0 hW19 trivial rfl rfl rfl rfl ?_;refine Qbs trivial rfl rfl ?_;refine sgt trivial rfl rfl rfl ?_;refine St.nil fun a50 h50=>?_;refine hK49 _ _ ?_;refine Qg (t:=40) h50 rfl (fun hb=>?_) (fun hb=>?_)
 ·have hc51:40<y.code.length:=by have:=of_decide_eq_true hb;omega
  clear hb;refine wp_seq_k fun K52 hK52=>?_;refine rg h50 fun ops=>?_;clear h50 a50;refine sa trivial rfl rfl ?_;refine St.nil fun a53 h53=>?_;refine hK52 _ _ ?_;refine wp_ret ?_;with_reducible repeat first | refine Qd ?_ | refine Qc ?_
  have:=hc26.out
  have R:y.code' x bi=2:=(if_neg (by omega)).trans ((if_neg (by omega)).trans ((if_neg (by omega)).trans (if_pos (by omega))));exact Qf (t:=2) h53 rfl rfl ⟨by rw[R],hW19.bel⟩
 have hc54:¬ (40<y.code.length):=by have:=of_decide_eq_false hb;omega
 clear hb;refine wp_skip ?_;refine hK48 _ _ ?_;refine wp_seq_k fun K55 hK55=>?_;refine rg h50 fun ops=>?_;clear h50 a50;refine sa trivial rfl rfl ?_;refine St.nil fun a56 h56=>?_;refine hK55 _ _ ?_;refine wp_ret ?_;with_reducible repeat first | refine Qd ?_ | refine Qc ?_
 have:=hc26.out
 have R:y.code' x bi=0:=(if_neg (by omega)).trans ((if_neg (by omega)).trans ((if_neg (by omega)).trans ((if_neg (by omega)).trans (rfl))));exact Qf (t:=2) h56 rfl rfl ⟨by rw[R],hW19.bel⟩
end Go.Proofs.YtacjnejckfhpoadGreat
