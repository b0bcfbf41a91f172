import Derived.Orders
import Derived.Below
import Derived.RowKit
import Derived.Test.YtiebmclhgebhpafGreatRows
import Derived.WalkKit
import Derived.WalkLawsBesides
import Derived.ProofKit
import Derived.OpenShut
import Derived.Deep.OwnRows
import Derived.Deep.AppendLies
import Derived.Deep.Draws
import Derived.Deep.Slices
import Derived.Deep.Strs
import Derived.ChangeOld
import Derived.Deep.QuietTactic
import Derived.Deep.DeepCutAuto
import Derived.Deep.CutBlock
import Derived.Deep.MidRow
import Derived.Laws.StructEq
import Derived.ChangeKeysEq
set_option maxHeartbeats 16000000
set_option maxRecDepth 100000
namespace Go.Proofs.YtiebmclhgebhpafGreat
open Go.ChangeShapes Go.WideShapes Go.ChangeAt Go.RowKit _root_.Go.Proofs.Tryz
set_option linter.unusedSimpArgs false
set_option linter.unusedVariables false
variable {w w' w6 w2 wc wr w1:World}{n b c X k m i B rc ac g cm N j fi bi bh R f q id cap most na ca fm d x fl cR rl al fc fd cA bl pages o ci lm cL fe:Nat}{O O' Q2 OO:Nat→Prop}{a p ag pm pa pR pA ra pi aa fp fq:Option Addr}{v u:Value}{Q:Exit→Act→World→Prop}{l inp:List Int}{t bt e:TypeId}{xa xc xb xk fr words xop xn:Int}{P:Program}{cs xs ds:List Value}{bs:List Bool}{ops:Array Oper}
abbrev Iv (x:Int):Value:=.int .i64 x
abbrev Pv (b o:Nat):Value:=.pointer (some ⟨b,o,none⟩)
abbrev Nv:Value:=.slice none 0 0
theorem Zr {n:Nat}{w:World}:Below n w w:=Below.refl _ _
theorem Zg {α:Type _}{l:List α}{i:Nat}(h:i<l.length):l[i]?=some l[i]:=List.getElem?_eq_getElem h
theorem Zi {α:Type _}{i:Nat}{a:α}{l:List α}(h:l[i]?=some a):∃ h,l[i]=a:=List.getElem?_eq_some_iff.1 h
theorem Za {α:Type _}{xs:Array α}{i:Nat}{d:α}:xs.getD i d=xs[i]?.getD d:=Array.getD_eq_getD_getElem?
theorem Zl {n m k:Nat}:n<m→m≤k→n<k:=Nat.lt_of_lt_of_le
theorem Zm {α:Type _}{l:List α}{i:Nat}{a:α}(h:l[i]?=some a):a∈l:=List.mem_of_getElem? h
theorem Zt {n m k:Nat}:n≤m→m≤k→n≤k:=Nat.le_trans
theorem Ze {n:Nat}:n≤n:=Nat.le_refl _
theorem Z {α:Sort _}{a:α}:a=a:=rfl
theorem Y:True:=trivial
theorem Yz {α:Sort _}{a:α}:a=a:=rfl
theorem Yy:True:=trivial
theorem Xe:type_of% @List.all_eq_true:=@List.all_eq_true
theorem Xj:type_of% @Array.getElem?_eq_getElem:=@Array.getElem?_eq_getElem
theorem Xk:type_of% @List.getElem?_eq_none:=@List.getElem?_eq_none
theorem Xm:type_of% @Calls.mono:=@Calls.mono
theorem Xn:type_of% @Option.some.inj:=@Option.some.inj
theorem Xr:type_of% @if_neg:=@if_neg
theorem Xs:type_of% @if_pos:=@if_pos
def Qc3 (o:Oper):List Tmp:=o.op.operands.toList.filterMap fun | .tmp t=>some t | _=>none
def Qp (l:List Oper):List Tmp:=l.filterMap (·.dst)
def nodupB:List Tmp->Bool
 | []=>true
 | t::r=>!r.contains t&&nodupB r
def onB (gs:List (Nat × Option Bool)) (o:Oper) (b:Bool):Bool :=
 match o.guard with
 | none=>b
 | some (g,want)=>match gs.lookup g with
   | some c=>b==(c==some want)
   | none=>false
def Qjn (gs:List (Nat × Option Bool)):List Oper->List Bool->Bool
 | [],[]=>true
 | o::l,b::bs=>onB gs o b&&Qjn gs l bs
 | _,_=>false
def Qmm (ops:Array Oper) (ds outs:List Tmp) (o:Oper):Bool :=
 (o.looksAt ops).all fun t=>(outs.contains t&&!ds.contains t)||o.after.any fun e=>Region.binds .any e&&((ops[e.on]?).bind (·.dst)==some t)
def Qcu (i:Nat):List Oper->Bool
 | []=>true
 | o::l=>(o.after.all fun e=>!Region.binds .any e||decide (e.on<i))&&Qcu (i+1) l
def Qbt (l:List Oper) (n:Nat) (outs:List Tmp) (gs:List (Nat × Option Bool)) (bs:List Bool):Bool :=
 (gs.all fun g=>((l.toArray[g.1]?).bind (·.dst)).isSome)&&nodupB (Qp l)&&((Qp l).all fun t=>decide (t<n))&&(l.all (Qmm l.toArray (Qp l) outs))&&Qjn gs l bs&&Qcu 0 l
section
variable {P:Program}(E:Tmp->Value->World->Prop) (W:World->Prop) (R:World->World->Prop)
def EO:Option Tmp->Value->World->Prop
 | some t=>E t
 | none=>fun _ _=>True
def QeG (a:Act) (w:World):List Tmp->Prop
 | []=>True
 | t::r=>E t (a.tmps.getD t undef) w/\QeG a w r
def Qlc (P:Program) (o:Oper):Prop :=
 ∀ a w,W w->QeG E a w (Qc3 o)->∀ K:Act->World->Prop,(∀ v w',R w w'->W w'->EO E o.dst v w'->K (a.put o.dst v) w')->o.wp P a w K (fun _ _ _=>False)
def Qjw (o:Oper):Prop:=∀ w,W w->EO E o.dst undef w
def Qfe (P:Program):List Oper->List Bool->Prop
 | o::l,true::bs=>Qlc E W R P o/\Qfe P l bs
 | o::l,false::bs=>Qjw E W o/\Qfe P l bs
 | _,_=>True
def QbQ (ops:Array Oper):List (Nat × Option Bool)->Prop
 | []=>True
 | (g,c)::r=>(∀ t,(ops[g]?).bind (·.dst)=some t->∀ v w,W w->E t v w->match c with | some b=>v=.bool b | none=>v=undef)/\QbQ ops r
def Qbw (a:Act) (w:World):List Tmp->Prop
 | []=>True
 | t::r=>E t (a.tmps.getD t undef) w/\Qbw a w r
def QC (a:Act) (vs:Tmp->Value):List Tmp->Act
 | []=>a
 | t::r=>QC (a.put (some t) (vs t)) vs r
end
theorem wpq {P:Program}{o:Oper}{a:Act}{K d:Act->World->Prop}(h:∀ a w,K a w->d a w)
 (c:o.wp P a w K (fun _ _ _=>False)):o.wp P a w d Q:=by
 unfold Oper.wp at *;generalize (execOp a.eval o).run P w=r at *
 cases r with
 | ok n w' =>
   cases n<;>simp only[Oper.upon] at c |- <;>
    first
     | exact h _ _ c
     | exact Xm c (fun e f b=>by cases e<;>first | exact h _ _ b | exact b.elim | (obtain⟨_,_,b⟩:=b;exact b.elim))
     | exact Rows.mono c (fun _ _ b=>h _ _ b)
 | halt x w'=>cases x<;>simp only[Oper.upon] at c |-
theorem Qaq (b:Tmp->Value):∀ (ds:List Tmp) (a:Act),(QC a b ds).defers=a.defers
 | [],_=>rfl
 | _::r,a=>by rw[QC,Qaq b r];rfl
theorem Qbv (b:Tmp->Value):∀ (ds:List Tmp) (a:Act),(QC a b ds).tmps.size=a.tmps.size
 | [],_=>rfl
 | _::r,a=>by rw[QC,Qbv b r];simp[Act.put]
theorem Qc2 (c:Tmp->Value):∀ (ds:List Tmp) (a:Act) (t:Nat),t<a.tmps.size->(QC a c ds).tmps[t]?=if t∈ds then some (c t) else a.tmps[t]?
 | [],_,_,_=>by simp[QC]
 | d::r,a,t,ht=>by
   rw[QC,Qc2 c r _ t (by simpa[Act.put] using ht)]
   by_cases f:t∈r
   ·simp[f]
   ·by_cases b:d=t
    ·subst b;simp[f,Act.put,ht]
    ·have:t≠d:=fun e=>b e.symm
     simp[f,this,Act.put,b]
theorem nodup_apart:∀ (l:List Oper) (i j:Nat) (oi oj:Oper) (t:Tmp),nodupB (Qp l)=true->l[i]?=some oi->l[j]?=some oj->oi.dst=some t->oj.dst=some t->i=j
 | [],_,_,_,_,_,_,hi,_,_,_=>by simp at hi
 | o::l,i,j,oi,oj,t,h,hi,hj,di,dj=>by
   have f:∀ {k:Nat} {c:Oper},l[k]?=some c->c.dst=some t->t∈Qp l:=fun {k c} m a=>List.mem_filterMap.2 ⟨c,Zm m,a⟩
   have n:nodupB (Qp l)=true:=by
    unfold Qp at h |-
    cases a:o.dst with
    | none=>simpa[List.filterMap_cons,a] using h
    | some d=>simp[a,nodupB] at h;exact h.2
   have b:o.dst=some t->t ∉ Qp l:=fun a=>by
    unfold Qp at h |-;simp only[List.filterMap_cons,a,nodupB,Bool.and_eq_true,Bool.not_eq_true'] at h
    intro e
    have:=h.1
    simp at this
    simp at e
    obtain⟨x,b,g⟩:=e
    exact this x b g
   cases i with
   | zero =>
     cases j with
     | zero=>rfl
     | succ j=>simp at hi hj;subst hi;exact absurd (f hj dj) (b di)
   | succ i =>
     cases j with
     | zero=>simp at hi hj;subst hj;exact absurd (f hi di) (b dj)
     | succ j=>simp at hi hj;rw[nodup_apart l i j oi oj t n hi hj di dj]
section
variable {P:Program}{E:Tmp->Value->World->Prop}{W:World->Prop}{R:World->World->Prop}
theorem Qex {a:Act}{w:World}:∀ (l:List Tmp),(∀ t∈l,E t (a.tmps.getD t undef) w)->QeG E a w l
 | [],_=>trivial
 | t::r,h=>⟨h t (by simp),Qex r fun x b=>h x (by simp[b])⟩
theorem QcV {a:Act}{w:World}:∀ (l:List Tmp),Qbw E a w l->∀ t∈l,E t (a.tmps.getD t undef) w
 | [],_,_,h=>by simp at h
 | x::r,h,t,b=>by
   rcases List.mem_cons.1 b with rfl | b
   ·exact h.1
   ·exact QcV r h.2 t b
theorem Qfh {a:Array Oper}:∀ (gs:List (Nat × Option Bool)),QbQ E W a gs->∀ g c,gs.lookup g=some c->∀ t,(a[g]?).bind (·.dst)=some t->∀ v w,W w->E t v w->match c with | some b=>v=.bool b | none=>v=undef
 | [],_,_,_,h=>by simp at h
 | (g',c')::r,h,g,c,hl=>by
   by_cases e:g=g'
   ·subst e;simp at hl;subst hl;exact h.1
   ·have d:(g==g')=false:=by simpa using e
    simp[List.lookup_cons,d] at hl;exact Qfh r h.2 g c hl
theorem mem_of_lookup:∀ (gs:List (Nat × Option Bool)) (g:Nat) (c:Option Bool),gs.lookup g=some c->(g,c)∈gs
 | [],_,_,h=>by simp at h
 | (g',c')::r,g,c,hl=>by
   by_cases e:g=g'
   ·subst e;simp at hl;subst hl;simp
   ·have a:(g==g')=false:=by simpa using e
    simp[List.lookup_cons,a] at hl;exact List.mem_cons_of_mem _ (mem_of_lookup r g c hl)
theorem filter_set:∀ (l:List Bool) (i:Nat) (h:i<l.length),l[i]=false->((l.set i true).filter (·==false)).length+1=(l.filter (·==false)).length
 | [],_,h,_=>by simp at h
 | x::l,0,_,h=>by simp at h;subst h;simp
 | x::l,i+1,hi,h=>by
   simp at h hi
   have:=filter_set l i hi h
   cases x<;>simp at this |-<;>omega
theorem QiD (gs:List (Nat × Option Bool)):∀ (l:List Oper) (bs:List Bool),Qjn gs l bs=true->Qfe E W R P l bs->∀ (i:Nat) (o:Oper),l[i]?=some o->(onB gs o true=true/\Qlc E W R P o)\/(onB gs o false=true/\Qjw E W o)
 | [],_,_,_,_,_,h=>by simp at h
 | _::_,[],h,_,_,_,_=>by simp[Qjn] at h
 | x::l,b::bs,h,ha,i,o,ho=>by
   simp only[Qjn,Bool.and_eq_true] at h
   cases i with
   | zero =>
     simp at ho;subst ho
     cases b with
     | true=>exact .inl ⟨h.1,ha.1⟩
     | false=>exact .inr ⟨h.1,ha.1⟩
   | succ i =>
     simp at ho
     cases b with
     | true=>exact QiD gs l bs h.2 ha.2 i o ho
     | false=>exact QiD gs l bs h.2 ha.2 i o ho
theorem back_at:∀ (l:List Oper) (k i:Nat) (o:Oper),Qcu k l=true->l[i]?=some o->∀ e∈o.after,Region.binds .any e=true->e.on<k+i
 | [],_,_,_,_,h=>by simp at h
 | x::l,k,i,o,h,ho=>by
   simp only[Qcu,Bool.and_eq_true] at h
   cases i with
   | zero =>
     simp at ho;subst ho
     intro e b a
     have:=Array.all_eq_true_iff_forall_mem.1 h.1 e b
     simpa[a] using this
   | succ i =>
     simp at ho
     intro e b a
     have:=back_at l (k+1) i o h.2 ho e b a
     omega
structure QnQ (E:Tmp->Value->World->Prop) (W:World->Prop) (l:List Oper) (outs:List Tmp) (a0:Act) (listed:Array Bool) (a:Act) (w:World):Prop where
 world:W w
 defers:a.defers=a0.defers
 size:a.tmps.size=a0.tmps.size
 outer:∀ t,t ∉ Qp l->a.tmps[t]?=a0.tmps[t]?
 outs:∀ t∈outs,t ∉ Qp l->E t (a.tmps.getD t undef) w
 known:∀ j o t,l[j]?=some o->o.dst=some t->listed.getD j false=true->E t (a.tmps.getD t undef) w
theorem Qhw {l:List Oper}{outs:List Tmp}{gs:List (Nat × Option Bool)}{a0:Act}
 (hB:Qbt l a0.tmps.size outs gs bs=true) (hR:∀ t v w w',R w w'->E t v w->E t v w') (hG:QbQ E W l.toArray gs) (hA:Qfe E W R P l bs)
 (ab:∀ (vs:Tmp->Value) w',W w'->(∀ t,(Qp l).contains t=true->E t (vs t) w')->Q .normal (QC a0 vs (Qp l)) w') :
 ∀ (fuel:Nat) (listed:Array Bool) (a:Act) (w:World),listed.size=l.length->(listed.toList.filter (·==false)).length<=fuel->QnQ E W l outs a0 listed a w ->
  wpAny P .any l.toArray Q fuel listed a w:=by
 simp only[Qbt,Bool.and_eq_true] at hB
 obtain⟨⟨⟨⟨⟨am,aj⟩,L⟩,ap⟩,ak⟩,al⟩:=hB
 have aa:∀ (listed:Array Bool) (a:Act) (w:World),listed.size=l.length->Region.ready .any l.toArray listed=[]->QnQ E W l outs a0 listed a w->Q .normal a w:=by
  intro listed a w V J f
  have ae:∀ j,j<l.length->listed.getD j false=true:=by
   intro j
   induction j using Nat.strongRecOn with
   | _ j ih =>
     intro z
     cases r:listed.getD j false with
     | true=>rfl
     | false =>
       exfalso
       have:j∈Region.ready .any l.toArray listed:=by
        unfold Region.ready;refine List.mem_filter.2 ⟨by simpa using z,?_⟩
        have U:listed.getD j true=false:=by
         have aq:j<listed.size:=by omega
         simp[Array.getD,aq] at r |-;exact r
        have T:l.toArray[j]?=some l[j]:=by simp[z]
        rw[U,T]
        simp only[Bool.not_false,Bool.true_and,Option.map_some,Option.getD_some]
        rw[Array.all_eq_true_iff_forall_mem]
        intro e he
        cases hbd:Region.binds .any e with
        | false=>rfl
        | true =>
          have:=back_at l 0 j l[j] al (by simp[z]) e he hbd
          simp only[Bool.not_true,Bool.false_or]
          exact ih e.on (by omega) (by omega)
       rw[J] at this
       cases this
  have ah:∀ t∈Qp l,E t (a.tmps.getD t undef) w/\t<a0.tmps.size:=by
   intro t q;obtain⟨o,ho,s⟩:=List.mem_filterMap.1 q
   obtain⟨j,z⟩:=List.getElem?_of_mem ho
   have A:j<l.length:=by
    rcases Nat.lt_or_ge j l.length with h | h
    ·exact h
    ·rw[Xk h] at z;cases z
   exact⟨f.known j o t z s (ae j A),by simpa using Xe.1 L t q⟩
  have he:a=QC a0 (fun t=>a.tmps.getD t undef) (Qp l):=by
   have U:a.tmps=(QC a0 (fun t=>a.tmps.getD t undef) (Qp l)).tmps:=by
    refine Array.ext (by rw[Qbv,f.size]) fun t K M=>?_;have h3:t<a0.tmps.size:=by rw[<-f.size];exact K
    have:=Qc2 (fun t=>a.tmps.getD t undef) (Qp l) a0 t h3
    rw[Xj M] at this
    by_cases X:t∈Qp l
    ·rw[Xs X] at this
     simp only[Option.some.injEq] at this
     rw[this];simp[Array.getD,K]
    ·rw[Xr X,<-f.outer t X,Xj K] at this
     exact(Xn this).symm
   have T:a.defers=(QC a0 (fun t=>a.tmps.getD t undef) (Qp l)).defers:=by rw[Qaq,f.defers]
   cases a with
   | mk t d =>
     simp only at U T
     generalize hp:QC a0 (fun x=>t.getD x undef) (Qp l)=p at U T |-
     cases p;simp only at U T;rw[U,T]
  rw[he]
  exact ab _ _ f.world fun t q=>(ah t (by simpa using q)).1
 intro fuel
 induction fuel with
 | zero =>
   intro listed a w V hf f
   have J:Region.ready .any l.toArray listed=[]:=by
    rw[List.eq_nil_iff_forall_not_mem]
    intro i hi;obtain⟨K,M⟩:=List.mem_filter.1 hi
    have A:i<l.length:=by simpa using K
    simp only[Bool.and_eq_true,Bool.not_eq_true'] at M
    have:listed[i]'(by omega)=false:=by
     have:=M.1;simp[Array.getD,show i<listed.size by omega] at this;exact this
    have X:false∈listed.toList.filter (·==false):=List.mem_filter.2 ⟨by rw[<-this];simp,by simp⟩
    have:=List.length_pos_of_mem X
    omega
   exact⟨J,aa listed a w V J f⟩
 | succ fuel ih =>
   intro listed a w V hf f;refine⟨fun J=>aa listed a w V J f,fun i hi=>?_⟩
   obtain⟨K,M⟩:=List.mem_filter.1 hi
   have A:i<l.length:=by simpa using K
   simp only[Bool.and_eq_true,Bool.not_eq_true'] at M
   obtain⟨ac,m⟩:=M
   have ai:i<listed.size:=by omega
   have af:listed[i]=false:=by simp[Array.getD,ai] at ac;exact ac
   have ho:l.toArray[i]?=some l[i]:=by simp[A]
   have n:l[i]?=some l[i]:=by simp[A]
   generalize az:l[i]=o at ho n;rw[ho] at m
   simp only[Option.map_some,Option.getD_some] at m
   rw[Array.all_eq_true_iff_forall_mem] at m
   have u:∀ t∈o.looksAt l.toArray,E t (a.tmps.getD t undef) w:=by
    intro t q
    have:=Xe.1 (Xe.1 ap o (Zm n)) t q
    rw[Bool.or_eq_true] at this
    rcases this with h | h
    ·simp only[Bool.and_eq_true,Bool.not_eq_true'] at h
     exact f.outs t (by simpa using h.1) (by simpa using h.2)
    ·obtain⟨k,hk,h⟩:=Array.any_eq_true.1 h
     simp only[Bool.and_eq_true,beq_iff_eq] at h
     obtain⟨r,s⟩:=h
     have H:=m _ (Array.getElem_mem hk);rw[r] at H
     simp only[Bool.not_true,Bool.false_or] at H
     generalize o.after[k]=e at *;obtain⟨oj,ar,au⟩:=Option.bind_eq_some_iff.1 s
     exact f.known e.on oj t (by simpa using ar) au H
   have ax:QeG E a w (Qc3 o):=Qex _ fun t q=>u t (by
    unfold Oper.looksAt;exact List.mem_append_left _ q)
   have hw:∀ b,onB gs o b=true->Region.wanted o (yielded l.toArray a.tmps)=b:=by
    intro b r;unfold onB at r;unfold Region.wanted
    cases hg:o.guard with
    | none=>rw[hg] at r;simp only at r |-;exact r.symm
    | some gw =>
      obtain⟨g,ay⟩:=gw
      rw[hg] at r
      simp only at r |-
      cases H:gs.lookup g with
      | none=>rw[H] at r;cases r
      | some c =>
        rw[H] at r
        simp only[beq_iff_eq] at r
        have hy:yielded l.toArray a.tmps g=c:=by
         unfold yielded;have ao:(g,c)∈gs:=mem_of_lookup gs g c H;have B:=Xe.1 am _ ao
         cases s:(l.toArray[g]?).bind (·.dst) with
         | none=>rw[s] at B;cases B
         | some t =>
           have hE:=u t (by unfold Oper.looksAt;rw[hg];simp only[s];simp);have F:=Qfh gs hG g c H t s _ _ f.world hE;obtain⟨og,aw,an⟩:=Option.bind_eq_some_iff.1 s
           have N:t<a.tmps.size:=by
            rw[f.size]
            have:=Xe.1 L t (List.mem_filterMap.2 ⟨og,Zm (by simpa using aw),an⟩)
            simpa using this
           have q:a.tmps[t]?=some (a.tmps.getD t undef):=by simp[Array.getD,N]
           simp only[Option.bind_some,q]
           cases c with
           | none=>simp only at F;rw[F];rfl
           | some b=>simp only at F;rw[F]
        rw[hy,r]
   have G:((listed.setIfInBounds i true).toList.filter (·==false)).length<=fuel:=by
    have h3:=filter_set listed.toList i (by simpa using ai) (by simpa using af);rw[Array.toList_setIfInBounds]
    omega
   have I:∀ v w',W w'->(∀ t v,E t v w->E t v w')->EO E o.dst v w'->QnQ E W l outs a0 (listed.setIfInBounds i true) (a.put o.dst v) w':=by
    intro v w' O y F
    have C:∀ t,o.dst≠some t->(a.put o.dst v).tmps[t]?=a.tmps[t]?:=by
     intro t q
     cases s:o.dst with
     | none=>rfl
     | some d =>
       have:d≠t:=fun e=>q (by rw[s,e])
       simp[Act.put,this]
    have D:∀ (b c:Array Value) (t:Nat),b[t]?=c[t]?->b.getD t undef=c.getD t undef:=by
     intro b c t h;rw[Za,Za,h]
    refine⟨O,?_,?_,?_,?_,?_⟩
    ·rw[<-f.defers];cases o.dst<;>rfl
    ·rw[<-f.size];cases o.dst<;>simp[Act.put]
    ·intro t q;rw[C t (fun e=>q (List.mem_filterMap.2 ⟨o,Zm n,e⟩)),f.outer t q]
    ·intro t q hn;rw[D _ _ t (C t (fun e=>hn (List.mem_filterMap.2 ⟨o,Zm n,e⟩)))]
     exact y _ _ (f.outs t q hn)
    ·intro j oj t z s ag;by_cases S:j=i
     ·subst S;rw[n] at z
      obtain rfl:=Xn z
      have N:t<a.tmps.size:=by
       rw[f.size]
       have:=Xe.1 L t (List.mem_filterMap.2 ⟨o,Zm n,s⟩)
       simpa using this
      rw[s] at F |-
      have:(a.put (some t) v).tmps.getD t undef=v:=by simp[Act.put,Array.getD,N]
      rw[this];exact F
     ·have av:o.dst≠some t:=fun e=>S (nodup_apart l j i oj o t aj z n s e);rw[D _ _ t (C t av)]
      refine y _ _ (f.known j oj t z s ?_);have ad:i≠j:=fun e=>S e.symm;rw[Za,Array.getElem?_setIfInBounds_ne ad] at ag
      rw[Za];exact ag
   unfold wpOp;rw[ho]
   simp only
   rcases QiD gs l bs ak hA i o n with ⟨h,y⟩|⟨h,y⟩
   ·rw[hw true h,Xs Z]
    refine .inl (wpq (fun a' w' hh=>hh) (y a w f.world ax _ fun v w' J O F=>?_));exact ih _ _ _ (by simpa using V) G (I v w' O (fun t v he=>hR t v w w' J he) F)
   ·rw[hw false h]
    simp only[Bool.false_eq_true,if_false]
    exact ih _ _ _ (by simpa using V) G (I undef w f.world (fun _ _ h=>h) (y w f.world))
theorem QbA {l:List Oper}{outs:List Tmp}{gs:List (Nat × Option Bool)}(h:n<=m) (a:Qbt l n outs gs bs=true):Qbt l m outs gs bs=true:=by
 simp only[Qbt,Bool.and_eq_true] at a |-
 obtain⟨⟨⟨⟨⟨i,f⟩,b⟩,k⟩,j⟩,d⟩:=a
 refine⟨⟨⟨⟨⟨i,f⟩,?_⟩,k⟩,j⟩,d⟩
 rw[Xe] at b |-
 intro t c;have g:t<n:=by simpa using b t c
 have e:t<m:=Zl g h;simpa using e
end
theorem Xd:type_of% @Below.heap_setCell:=@Below.heap_setCell
structure QZ (O O':Nat->Prop) (w w':World):Prop where
 os:w'.os=w.os
 tape:w'.tape=w.tape
 output:w'.output=w.output
 size:w.heap.size<=w'.heap.size
 block:∀ k,k<w.heap.size->¬ O k->w'.heap[k]?=w.heap[k]?
 own:∀ k,O' k->O k\/w.heap.size<=k
theorem QZ.refl (O:Nat->Prop) (w:World):QZ O O w w:=⟨Z,Z,Z,Ze,fun _ _ _=>rfl,fun _ h=>Or.inl h⟩
theorem QZ.trans {e:Nat->Prop}{a b c:World}(h:QZ O O' a b) (k:QZ O' e b c):QZ O e a c :=
 ⟨k.os.trans h.os,k.tape.trans h.tape,k.output.trans h.output,Zt h.size k.size,
  fun i f g=>(k.block i (Zl f h.size) (fun j=>(h.own i j).elim g (fun d=>by omega))).trans (h.block i f g),
  fun i f=>(k.own i f).elim (h.own i) (fun d=>Or.inr (Zt h.size d))⟩
theorem QZ.mono {P:Nat->Prop}{a b:World}(h:QZ O O' a b) (d:∀ k,O k->P k):QZ P O' a b :=
 ⟨h.os,h.tape,h.output,h.size,fun i c f=>h.block i c (fun e=>f (d i e)),fun i c=>(h.own i c).imp (d i) id⟩
theorem QZ.sub {P:Nat->Prop}{a b:World}(h:QZ O O' a b) (d:∀ k,P k->O' k):QZ O P a b :=
 ⟨h.os,h.tape,h.output,h.size,h.block,fun i c=>h.own i (d i c)⟩
theorem QZ.drew {a:World}(h:QZ O O' a w):QZ O O' a w.drew:=⟨h.os,h.tape,h.output,h.size,h.block,h.own⟩
theorem QZ.alloc {a:World}(h:QZ O O' a w) (o:Obj):QZ O O' a (w.alloc o) :=
 ⟨h.os,h.tape,h.output,by have:=h.size;simp;omega,fun k b c=>(Below.heap_alloc _ _ _ (by have:=h.size;omega)).trans (h.block k b c),h.own⟩
theorem QZ.setCell {a:World}(h:QZ O O' a w){p:Addr}(d:O' p.block) (u:Value):QZ O O' a (w.setCell p u) :=
 ⟨h.os,h.tape,h.output,by have:=h.size;simp;omega,
  fun k f c=>(Xd _ _ _ _ (fun e=>by subst e;rcases h.own _ d with b | b;exact c b;omega)).trans (h.block k f c),h.own⟩
theorem QZ.below {a:World}(h:QZ O O' a w) (e:B<=a.heap.size) (c:∀ k,O k->B<=k):Below B a w :=
 ⟨h.os,h.tape,h.output,h.size,fun k d=>h.block k (by omega) (fun b=>by have:=c k b;omega)⟩
theorem QZ.of_below {a:World}(h:Below a.heap.size a w) (c:∀ k,O' k->O k\/a.heap.size<=k):QZ O O' a w :=
 ⟨h.os,h.tape,h.output,h.size,fun k b _=>h.block k b,c⟩
theorem Qa {c:Array Value}(h:w.heap[b]?=some (.cells c t (0,0))) (i:Nat) (v:Value) (a:c[i]?=some v):w.cell? ⟨b,i,none⟩=some v:=by
 simp[World.cell?,h,a]
theorem Qd {c:Array Value}(h:w.heap[b]?=some (.cells c t (0,0))) (i:Nat):w.frozen? ⟨b,i,none⟩=false:=by
 simp[World.frozen?,h]
theorem Qm {c:Array Value}(h:w.heap[b]?=some (.cells c t (0,0))) (i:Nat) (v:Value) :
 (w.setCell ⟨b,i,none⟩ v).heap[b]?=some (.cells (c.setIfInBounds i v) t (0,0)):=by
 simp[World.setCell,Array.getElem?_modify,h]
theorem Qe (w:World) (c:Array Value) (t:TypeId):(w.alloc (.cells c t)).heap[w.heap.size]?=some (.cells c t (0,0)):=by
 show (w.heap.push _)[w.heap.size]?=_;simp
theorem QN {c d:Array Value}{u:TypeId}{f:Nat × Nat}(h:w.heap[b]?=some (.cells c t f)) (k:w.heap[g]?=some (.cells d u f)) (hn:t≠u):b≠g:=by
 intro e;subst e;rw[h] at k;simp at k;exact hn k.2
theorem QO {b k:Nat}(a:k≠b):∀ (vs:List Value) (o:Nat) (w:World),(w.setCells b o vs).heap[k]?=w.heap[k]?
 | [],_,_=>rfl
 | v::r,o,w=>by rw[World.setCells,QO a r];exact Xd _ _ _ _ a
theorem QZ.setCells {O O':Nat->Prop}{a:World}{b:Nat}(c:O' b):∀ (vs:List Value) (o:Nat) (w:World),QZ O O' a w->QZ O O' a (w.setCells b o vs)
 | [],_,_,h=>h
 | v::r,o,w,h=>QZ.setCells c r (o+1) _ (h.setCell (p:=⟨b,o,none⟩) c v)
structure Fr (n:Nat) (a:Act) (L:List (Tmp × Value)):Prop where
 size:a.tmps.size=n
 defers:a.defers=[]
 sl:∀ t v,L.lookup t=some v->a.tmps.getD t undef=v
section
variable {P:Program}{n:Nat}{a:Act}{L:List (Tmp × Value)}{w w':World}{Q:Exit->Act->World->Prop}{ops:Array Oper}{o:Oper}{rest:List Oper}{t:Tmp}{v:Value}
theorem Fr.put (h:Fr n a L) (f:Nat.blt t n=true):Fr n (a.put (some t) v) ((t,v)::L):=by
 have c:t<n:=by simpa[Nat.blt,Nat.ble_eq,Nat.succ_le_iff] using f
 refine⟨by simpa[Act.put] using h.size,h.defers,fun s u b=>?_⟩
 by_cases e:s=t
 ·subst e;simp at b
  subst b
  have:s<a.tmps.size:=by rw[h.size];exact c
  simp[Act.put,Array.getD,this]
 ·have g:(s==t)=false:=by simpa using e
  simp only[List.lookup_cons,g] at b
  have:=h.sl s u b
  have d:t≠s:=fun x=>e x.symm;rw[Za] at this |-
  simp only[Act.put]
  rw[Array.getElem?_setIfInBounds_ne d]
  exact this
theorem Fr.cons (h:Fr n a L) (e:a.tmps.getD t undef=v):Fr n a ((t,v)::L):=by
 refine⟨h.size,h.defers,fun s u b=>?_⟩
 by_cases d:s=t
 ·subst d;simp at b
  subst b;exact e
 ·have c:(s==t)=false:=by simpa using d
  simp only[List.lookup_cons,c] at b
  exact h.sl s u b
theorem Fr.nil (h:Fr n a L):Fr n a []:=⟨h.size,h.defers,fun s u b=>by simp at b⟩
theorem Fr.keep {b:List (Tmp × Value)}(h:Fr n a L) (k:Fr n a b) (e:L.lookup t=some v):Fr n a ((t,v)::b):=k.cons (h.sl t v e)
theorem Qap {l:List Oper}(h:∀ ops:Array Oper,(∀ g:Nat,(ops[g]?).bind (fun o:Oper=>o.dst)=(l[g]?).bind (fun o:Oper=>o.dst))->wpList P ops Q l a w):(Code.region id l.toArray false).wp P Q a w :=
 wp_region_lit (h _ fun g=>by simp)
theorem QeM (c:Fr n a L) (f:o.dst=some t) (e:o.guard=none) (b:Nat.blt t n=true)
 (h:∀ K:Act->World->Prop,K (a.put (some t) v) w'->o.wp P a w K Q)
 (k:∀ a',Fr n a' ((t,v)::L)->wpList P ops Q rest a' w'):wpList P ops Q (o::rest) a w :=
 wpList_plain e fun K d=>h K (d _ _ (k _ (c.put b)))
theorem QlP (e:Fr n a L) (d:o.dst=none) (b:o.guard=none)
 (h:∀ K:Act->World->Prop,K a w'->o.wp P a w K Q)
 (k:wpList P ops Q rest a w'):wpList P ops Q (o::rest) a w :=
 wpList_plain b fun K c=>h K (c _ _ k)
theorem QgS {d:Nat}{c:Bool}(h:Fr n a L) (j:o.guard=some (g,c)) (l:(ops[g]?).bind (fun o:Oper=>o.dst)=some d) (f:Nat.blt d n=true) (i:L.lookup d=some u) :
 Region.wanted o (yielded ops a.tmps)=(match u with | .bool b=>b==c | _=>false):=by
 have e:d<a.tmps.size:=by rw[h.size];simpa[Nat.blt,Nat.ble_eq,Nat.succ_le_iff] using f
 have:=h.sl d u i
 have k:a.tmps[d]?=some u:=by rw[<-this];simp[Array.getD,e]
 simp only[Region.wanted,j,yielded,l,Option.bind_some,k]
 cases u<;>simp
theorem Qm7 {e:Nat}{c:Bool}(f:Fr n a L) (j:o.dst=some t) (m:o.guard=some (g,c)) (q:(ops[g]?).bind (fun o:Oper=>o.dst)=some e) (d:Nat.blt e n=true) (l:L.lookup e=some u) (p:(match u with | .bool b=>b==c | _=>false)=false) (h:Nat.blt t n=true)
 (k:∀ a',Fr n a' ((t,undef)::L)->wpList P ops Q rest a' w):wpList P ops Q (o::rest) a w :=
 wpList_step fun K i=>by
  rw[QgS f m q d l,p]
  simp only[Bool.false_eq_true,if_false,j]
  exact i _ _ (k _ (f.put h))
theorem Qaf {x y:Code}{b:Bool}(f:Fr n a L) (e:L.lookup t=some (.bool b)) (d:b=true->x.wp P Q a w) (c:b=false->y.wp P Q a w):(Code.cond (.tmp t) x y).wp P Q a w :=
 wp_cond_split (f.sl t _ e) d c
theorem QbS {x y:Code}(c:Fr n a L) (b:L.lookup t=some (.bool true)) (h:x.wp P Q a w):(Code.cond (.tmp t) x y).wp P Q a w:=wp_cond_true (c.sl t _ b) h
theorem QkY {x y:Code}(c:Fr n a L) (b:L.lookup t=some (.bool false)) (h:y.wp P Q a w):(Code.cond (.tmp t) x y).wp P Q a w:=wp_cond_false (c.sl t _ b) h
theorem QeH {l1 l2:List Oper}(h:wpList P ops (Exit.then (fun a w=>wpList P ops Q l2 a w) Q) l1 a w):wpList P ops Q (l1++l2) a w:=by
 induction l1 generalizing a w with
 | nil=>exact h
 | cons o l ih =>
   simp only[List.cons_append]
   unfold wpList at h |-;split
   ·rename_i b
    rw[Xs b] at h
    refine h.imp (fun h=>Oper.wp_mono (fun a w c=>ih c) ?_) id;unfold Oper.wp at *;generalize (execOp a.eval o).run P w=r at *
    cases r with
    | ok n w'=>cases n<;>exact h
    | halt x w'=>cases x<;>exact h
   ·rename_i b
    rw[Xr b] at h
    exact ih h
theorem Qf7 {l:List Oper}(k:Nat) (Φ:Act->World->Prop) (c:∀ K:Act->World->Prop,(∀ a w,Φ a w->K a w)->wpList P ops (Exit.then K Q) (l.take k) a w) (b:∀ a w,Φ a w->wpList P ops Q (l.drop k) a w):wpList P ops Q l a w:=by
 have:=QeH (l1:=l.take k) (l2:=l.drop k) (c _ b)
 rwa [List.take_append_drop] at this
theorem Qz {K:Act->World->Prop}(h:Q .ret a w):Exit.then K Q .ret a w:=h
theorem Qw (h:Q .ret a w):Exit.inBlock id Q .ret a w:=h
theorem Qhr {f:FuncId}{fn:Func}{c:Code}{args:Array Value}{R:Ending->World->Prop}(o:P.funcs[f]?=some fn) (hb:fn.body=some c) (hn:fn.ntmps=n) (g:Nat.ble args.size n=true)
 (h:∀ a,Fr n a (args.toList.zipIdx.map fun x=>(x.2,x.1))->c.wp P (bodyPost P fn R) a w):Calls P f args w R:=by
 have i:args.size<=n:=by simpa[Nat.ble_eq] using g
 refine calls_of_wp o hb (h _ ⟨by simp[hn];omega,Z,fun t v m=>?_⟩)
 have:∀ (l:List Value) (k t:Nat),((l.zipIdx k).map fun x=>(x.2,x.1)).lookup t=some v->k<=t/\l[t - k]?=some v:=by
  intro l
  induction l with
  | nil=>intro k t h;simp at h
  | cons x l ih =>
    intro k t h;by_cases e:t=k
    ·subst e;simp at h;subst h;simp
    ·have j:(t==k)=false:=by simpa using e
     simp only[List.zipIdx_cons,List.map_cons,List.lookup_cons,j] at h
     obtain⟨p,b⟩:=ih (k+1) t h
     refine⟨by omega,?_⟩
     have:t - k=(t - (k+1))+1:=by omega
     rw[this]
     simpa using b
 obtain⟨_,b⟩:=this _ 0 t m
 simp at b
 have d:t<args.size:=(Array.getElem?_eq_some_iff.1 b).1;rw[Za,Array.getElem?_append_left d,b]
 rfl
end
section
variable {P:Program}{Q:Exit->Act->World->Prop}
theorem Qly {o:Oper}{a:Act}{K N:Act->World->Prop}(h:o.wp P a w K (Exit.then N Q)):o.wp P a w K Q:=by
 unfold Oper.wp at *;generalize (execOp a.eval o).run P w=r at *
 cases r with
 | ok n w'=>cases n<;>exact h
 | halt x w'=>cases x<;>exact h
def Qde (n:Nat) (l:List Oper):Bool:=l.all fun o=>match o.guard with | some (g,_)=>decide (g<n) | none=>true
theorem Zz {a:Array Bool}:i∈Region.ready .any ops a↔i<ops.size/\a.getD i true=false/\∃ o,ops[i]?=some o/\∀ e∈o.after,Region.binds .any e=true->a.getD e.on false=true:=by
 unfold Region.ready;rw[List.mem_filter]
 simp only[List.mem_range,Bool.and_eq_true,Bool.not_eq_true']
 refine and_congr_right fun b=>and_congr_right fun c=>?_;rw[Xj b]
 simp only[Option.map_some,Option.getD_some,Option.some.injEq,exists_eq_left']
 rw[Array.all_eq_true_iff_forall_mem]
 refine forall_congr' fun e=>forall_congr' fun d=>?_
 cases Region.binds .any e<;>simp
end
theorem XP:type_of% @List.getElem?_append_left:=@List.getElem?_append_left
theorem XQ:type_of% @List.getElem?_append_right:=@List.getElem?_append_right
section
variable {P:Program}{Q:Exit->Act->World->Prop}
def Qb0 (all:List Oper):Nat->Oper->Nat->Bool
 | 0,_,_=>false
 | f+1,o,j=>o.after.any fun e=>Region.binds .any e&&(e.on==j||(match all[e.on]? with | some o'=>Qb0 all f o' j | none=>false))
def QbD (all:List Oper) (k:Nat):List Oper->Bool
 | []=>true
 | o::l=>((List.range k).all fun j=>Qb0 all 24 o j)&&QbD all (k+1) l
theorem Qbk {all:List Oper}{j:Nat}{S:Nat->Prop}(c:∀ (q:Nat) (o':Oper),all[q]?=some o'->S q->∀ e∈o'.after,Region.binds .any e=true->S e.on):∀ (f:Nat) (o:Oper),Qb0 all f o j=true->(∀ e∈o.after,Region.binds .any e=true->S e.on)->S j
 | 0,_,h,_=>by simp[Qb0] at h
 | f+1,o,h,hS=>by
   simp only[Qb0] at h
   obtain⟨q,i,b⟩:=Array.any_eq_true.1 h
   rw[Bool.and_eq_true,Bool.or_eq_true] at b
   have d:=Array.getElem_mem i;generalize o.after[q]=g at b d;rcases b.2 with a | a
   ·have:=hS g d b.1
    rwa [beq_iff_eq.1 a] at this
   ·cases ho':all[g.on]? with
    | none=>rw[ho'] at a;simp at a
    | some o' =>
      rw[ho'] at a
      exact Qbk c f o' a (c _ o' ho' (hS g d b.1))
theorem QeK (all:List Oper):∀ (l:List Oper) (k i:Nat) (o:Oper),QbD all k l=true->l[i]?=some o->∀ j,j<k+i->∀ S:Nat->Prop,
 (∀ (q:Nat) (o':Oper),all[q]?=some o'->S q->∀ e∈o'.after,Region.binds .any e=true->S e.on)->(∀ e∈o.after,Region.binds .any e=true->S e.on)->S j
 | [],_,_,_,_,h=>by simp at h
 | x::l,k,0,o,h,ho=>by
   simp at ho;subst ho
   simp only[QbD,Bool.and_eq_true] at h
   intro j b S a c;exact Qbk a 24 x (Xe.1 h.1 j (by simpa using b)) c
 | x::l,k,i+1,o,h,ho=>by
   simp only[QbD,Bool.and_eq_true] at h
   simp at ho
   intro j b;exact QeK all l (k+1) i o h.2 ho j (by omega)
theorem QhF {l:List Oper}(hb:Qcu 0 l=true){k0:Nat}(S:QbD l k0 (l.drop k0)=true):∀ (m k fuel:Nat) (listed:Array Bool) (a:Act) (w:World),k+m=l.length->k0<=k->m<=fuel->listed.size=l.length ->
 (∀ j,j<l.length->listed.getD j false=decide (j<k))->wpList P l.toArray Q (l.drop k) a w->wpAny P .any l.toArray Q fuel listed a w:=by
 intro m
 induction m with
 | zero =>
   intro k fuel listed a w M _ _ I c h
   have v:Region.ready .any l.toArray listed=[]:=by
    rw[List.eq_nil_iff_forall_not_mem]
    intro i s;obtain⟨B,r,_⟩:=Zz.1 s
    have g:i<l.length:=by simpa using B
    have:=c i g
    have K:decide (i<k)=true:=by simp;omega
    rw[K] at this
    have p:i<listed.size:=by omega
    simp[Array.getD,p] at this r
    rw[this] at r;cases r
   have u:Q .normal a w:=by
    rw[List.drop_of_length_le (by omega)] at h
    exact h
   cases fuel with
   | zero=>exact⟨v,u⟩
   | succ fuel=>exact⟨fun _=>u,fun i s=>by rw[v] at s;cases s⟩
 | succ m ih =>
   intro k fuel listed a w M O hf I c h;have b:k<l.length:=by omega
   obtain⟨fuel,rfl⟩:∃ f,fuel=f+1:=⟨fuel - 1,by omega⟩
   have t:k<listed.size:=by omega
   have C:k∈Region.ready .any l.toArray listed:=by
    refine Zz.2 ⟨by simpa using b,?_,l[k],by simp[b],fun e G n=>?_⟩
    ·have:=c k b
     simp[Array.getD,t] at this |-;exact this
    ·have:=back_at l 0 k l[k] hb (by simp[b]) e G n
     rw[c _ (by omega)];simp;omega
   refine⟨fun v=>absurd (v ▸ C) (by simp),fun i s=>?_⟩
   have D:i=k:=by
    obtain⟨B,r,o,A,N⟩:=Zz.1 s
    have g:i<l.length:=by simpa using B
    have H:listed.getD i false=false:=by
     have p:i<listed.size:=by omega
     simp[Array.getD,p] at r |-;exact r
    have y:k<=i:=by
     have:=c i g
     rw[H] at this
     have:¬ i<k:=by simpa using this.symm
     omega
    rcases Nat.eq_or_lt_of_le y with e | V
    ·exact e.symm
    ·exfalso
     have:=QeK l (l.drop k0) k0 (i - k0) o S (by rw[List.getElem?_drop,show k0+(i - k0)=i by omega];simpa using A) k (by omega) (fun j=>listed.getD j false=true)
      (fun q T u W e G n=>by
       have z:q<l.length:=(Zi u).1;have U:=back_at l 0 q T hb u e G n;have J:listed.getD q false=true:=W;rw[c q z] at J
       have X:q<k:=by simpa using J
       show listed.getD e.on false=true;rw[c e.on (by omega)];simp;omega) N
     rw[c k b] at this
     simp at this
   subst D;rw[List.drop_eq_getElem_cons b] at h
   have A:l.toArray[i]?=some l[i]:=by simp[b]
   have d:∀ a w,wpList P l.toArray Q (l.drop (i+1)) a w->wpAny P .any l.toArray Q fuel (listed.setIfInBounds i true) a w:=fun a w L =>
    ih (i+1) fuel _ a w (by omega) (by omega) (by omega) (by simpa using I) (fun j R=>by
     by_cases e:j=i
     ·subst e;simp[Array.getD,t]
     ·have F:i≠j:=fun x=>e x.symm;rw[Za,Array.getElem?_setIfInBounds_ne F,<-Za,c j R]
      simp;omega) L
   unfold wpOp;rw[A]
   simp only
   unfold wpList at h;split
   ·rename_i E
    rw[Xs E] at h
    exact h.imp (Oper.wp_mono d) id
   ·rename_i E
    rw[Xr E] at h
    exact d _ _ h
theorem Qdm {l l2:List Oper}(hb:Qcu 0 (l++l2)=true) (hg:Qde l.length l=true) (ht:QbD (l++l2) l.length l2=true):∀ (fuel:Nat) (listed:Array Bool) (a:Act) (w:World),listed.size=l.length→(∀ (q:Nat) (o:Oper),l[q]?=some o→listed.getD q false=true→∀ e∈o.after,Region.binds .any e=true→listed.getD e.on false=true) →
 wpAny P .any l.toArray (Exit.then (fun a w=>wpList P (l++l2).toArray Q l2 a w) Q) fuel listed a w →
 wpAny P .any (l++l2).toArray Q (fuel+l2.length) (listed++Array.replicate l2.length false) a w:=by
 have z:∀ (i:Nat) (o:Oper),l[i]?=some o→∀ e∈o.after,Region.binds .any e=true→e.on<i:=fun i o p e n c=>by
  have r:i<l.length:=(Zi p).1
  have:=back_at (l++l2) 0 i o hb (by rw[XP r];exact p) e n c
  omega
 have f:∀ (listed:Array Bool) (j:Nat) (d:Bool),listed.size=l.length→j<l.length→(listed++Array.replicate l2.length false).getD j d=listed.getD j d:=fun listed j d k x=>by
  rw[Za,Za,Array.getElem?_append_left (by omega)]
 have D:∀ (listed:Array Bool) (j:Nat),listed.size=l.length→l.length≤j→(listed++Array.replicate l2.length false).getD j false=false:=fun listed j k x=>by
  rw[Za,Array.getElem?_append_right (by omega)]
  cases h:(Array.replicate l2.length false)[j - listed.size]? with
  | none=>rfl
  | some b =>
    have:=Array.mem_of_getElem? h
    simp at this
    simp[this.2]
 -- all of the first part are listed
 have C:∀ (fuel:Nat) (listed:Array Bool) (a:Act) (w:World),listed.size=l.length→(∀ j,j<l.length→listed.getD j false=true)→wpList P (l++l2).toArray Q l2 a w →
  wpAny P .any (l++l2).toArray Q (fuel+l2.length) (listed++Array.replicate l2.length false) a w:=fun fuel listed a w k m h=>by
  refine QhF hb (k0:=l.length) (by simpa using ht) l2.length l.length _ _ a w (by simp) Ze (by omega) (by simp[k]) (fun j x=>?_) (by simpa using h);by_cases v:j<l.length
  ·rw[f listed j false k v,m j v];simp[v]
  ·rw[D listed j k (by omega)];simp;omega
 have t:∀ (listed:Array Bool),listed.size=l.length→Region.ready .any l.toArray listed=[]→∀ j,j<l.length→listed.getD j false=true:=fun listed k V j=>by
  induction j using Nat.strongRecOn with
  | _ j ih =>
    intro x
    cases hc:listed.getD j false with
    | true=>rfl
    | false =>
      exfalso
      have v:j<listed.size:=by omega
      have W:listed.getD j true=false:=by simp[Array.getD,v] at hc ⊢;exact hc
      have:j∈Region.ready .any l.toArray listed:=Zz.2 ⟨by simpa using x,W,l[j],by simp[x],fun e n c=>by
       have:=z j l[j] (by simp[x]) e n c
       exact ih e.on this (by omega)⟩
      rw[V] at this;cases this
 intro fuel
 induction fuel with
 | zero =>
   intro listed a w k F h;exact C 0 listed a w k (t listed k h.1) h.2
 | succ fuel ih =>
   intro listed a w k F h;by_cases m:∀ j,j<l.length→listed.getD j false=true
   ·refine C (fuel+1) listed a w k m (h.1 ?_);rw[List.eq_nil_iff_forall_not_mem]
    intro i r;obtain⟨G,B,_⟩:=Zz.1 r
    have R:i<l.length:=by simpa using G
    have:=m i R
    have u:i<listed.size:=by omega
    simp[Array.getD,u] at this B
    rw[this] at B;cases B
   ·have X:Region.ready .any l.toArray listed≠[]:=fun e=>m (t listed k e)
    have A:∀ i,i∈Region.ready .any (l++l2).toArray (listed++Array.replicate l2.length false)↔i∈Region.ready .any l.toArray listed:=fun i=>by
     rw[Zz,Zz]
     by_cases r:i<l.length
     ·have e1:(l++l2).toArray[i]?=l.toArray[i]?:=by simp[List.getElem?_append_left r]
      rw[f listed i true k r,e1]
      constructor
      ·rintro ⟨_,B,o,p,E⟩;refine⟨by simpa using r,B,o,p,fun e n c=>?_⟩
       have:=z i o (by simpa using p) e n c
       have h4:=E e n c;rwa [f listed e.on false k (by omega)] at h4
      ·rintro ⟨_,B,o,p,E⟩;refine⟨by simp;omega,B,o,p,fun e n c=>?_⟩
       have:=z i o (by simpa using p) e n c
       rw[f listed e.on false k (by omega)]
       exact E e n c
     ·constructor
      ·rintro ⟨G,B,o,p,E⟩;exfalso
       refine m fun j x=>?_;have L:(l++l2)[i]?=some o:=by simpa using p
       rw[XQ (by omega)] at L
       have:=QeK (l++l2) l2 l.length (i - l.length) o ht L j (by omega) (fun q=>(listed++Array.replicate l2.length false).getD q false=true)
        (fun q o' H N e n c=>by
         have O:(listed++Array.replicate l2.length false).getD q false=true:=N;by_cases I:q<l.length
         ·rw[f listed q false k I] at O
          rw[XP I] at H
          have h6:=z q o' H e n c;show (listed++Array.replicate l2.length false).getD e.on false=true;rw[f listed e.on false k (by omega)]
          exact F q o' H O e n c
         ·rw[D listed q k (by omega)] at O
          cases O) E
       rwa [f listed j false k x] at this
      ·rintro ⟨G,_⟩;exact absurd (by simpa using G) r
    rw[show fuel+1+l2.length=(fuel+l2.length)+1 by omega]
    refine⟨fun V=>?_,fun i r=>?_⟩
    ·exfalso
     apply X
     rw[List.eq_nil_iff_forall_not_mem]
     intro i r
     have:=(A i).2 r
     rw[V] at this;cases this
    ·have u:=(A i).1 r;have s:=h.2 i u;obtain⟨G,_⟩:=Zz.1 u
     have y:i<l.length:=by simpa using G
     have p:l.toArray[i]?=some l[i]:=by simp[y]
     have U:(l++l2).toArray[i]?=some l[i]:=by simp[List.getElem?_append_left y,y]
     unfold wpOp at s ⊢;rw[p] at s
     rw[U]
     simp only at s ⊢
     have hy:Region.wanted l[i] (yielded (l++l2).toArray a.tmps)=Region.wanted l[i] (yielded l.toArray a.tmps):=by
      unfold Region.wanted
      cases hgd:(l[i]).guard with
      | none=>rfl
      | some gw =>
        obtain⟨g,aa⟩:=gw
        have:=Xe.1 hg l[i] (List.getElem_mem y)
        rw[hgd] at this
        have S:g<l.length:=by simpa using this
        simp only
        have:yielded (l++l2).toArray a.tmps g=yielded l.toArray a.tmps g:=by
         unfold yielded
         have:(l++l2).toArray[g]?=l.toArray[g]?:=by simp[List.getElem?_append_left S]
         rw[this]
        rw[this]
     rw[hy]
     have nx:∀ a w,wpAny P .any l.toArray (Exit.then (fun a w=>wpList P (l++l2).toArray Q l2 a w) Q) fuel (listed.setIfInBounds i true) a w→wpAny P .any (l++l2).toArray Q (fuel+l2.length) ((listed++Array.replicate l2.length false).setIfInBounds i true) a w:=fun a w hh=>by
      have K:∀ (q:Nat) (o:Oper),l[q]?=some o→(listed.setIfInBounds i true).getD q false=true→∀ e∈o.after,Region.binds .any e=true→(listed.setIfInBounds i true).getD e.on false=true:=fun q o H N e n c=>by
       have up:∀ j,listed.getD j false=true→(listed.setIfInBounds i true).getD j false=true:=fun j x=>by
        by_cases J:i=j
        ·subst J
         have:i<listed.size:=by omega
         simp[Array.getD,this]
        ·rw[Za,Array.getElem?_setIfInBounds_ne J,← Za];exact x
       by_cases J:i=q
       ·subst J;obtain⟨_,_,o2,M,E⟩:=Zz.1 u
        have:o2=o:=by
         have h7:l[i]?=some o2:=by simpa using M
         rw[H] at h7;exact(Xn h7).symm
        subst this;exact up _ (E e n c)
       ·rw[Za,Array.getElem?_setIfInBounds_ne J,← Za] at N
        exact up _ (F q o H N e n c)
      have:=ih (listed.setIfInBounds i true) a w (by simpa using k) K hh
      have e:(listed++Array.replicate l2.length false).setIfInBounds i true=listed.setIfInBounds i true++Array.replicate l2.length false:=by
       rw[Array.setIfInBounds_append_left (by omega)]
      rw[e];exact this
     split
     ·rename_i T
      rw[Xs T] at s
      rcases s with s | s
      ·exact .inl (Oper.wp_mono nx (Qly s))
      ·exact .inr s
     ·rename_i T
      rw[Xr T] at s
      exact nx _ _ s
end
theorem QhT {P:Program}{l l2:List Oper}{outs:List Tmp}{gs:List (Nat × Option Bool)}{a:Act}{Q:Exit->Act->World->Prop}
 (E:Tmp->Value->World->Prop) (W:World->Prop) (R:World->World->Prop)
 (k:P.follows .mixedOrders=true)  (hn:a.tmps.size=m) (g:n<=m) (A:Qbt l n outs gs bs=true)
 (i:(Qcu 0 (l++l2)&&(Qde l.length l&&QbD (l++l2) l.length l2))=true)
 (y:∀ t v w w',R w w'->E t v w->E t v w') (s:QbQ E W l.toArray gs) (B:W w.drew) (x:Qbw E a w.drew outs)
 (u:Qfe E W R P l bs)
 (b:∀ (vs:Tmp->Value) w',W w'->(∀ t,(Qp l).contains t=true->E t (vs t) w')->wpList P (l++l2).toArray Q l2 (QC a vs (Qp l)) w') :
 (Code.region id (l++l2).toArray true).wp P Q a w:=by
 simp only[Bool.and_eq_true] at i
 obtain⟨c,f,d⟩:=i
 refine wp_region_any k ?_
 have h:wpAny P .any l.toArray (Exit.then (fun a w=>wpList P (l++l2).toArray Q l2 a w) Q) l.length (Array.replicate l.length false) a w.drew:=by
  refine Qhw (E:=E) (W:=W) (R:=R) (a0:=a) (outs:=outs) (gs:=gs) (bs:=bs) (QbA (hn ▸ g) A) y s u b _ _ _ _ (by simp) ?_ ⟨B,Z,Z,fun _ _=>rfl,fun t z _=>QcV outs x t z,?_⟩
  ·simp only[Array.toList_replicate]
   exact Zt (List.length_filter_le _ _) (by simp)
  ·intro j o t G D p;simp[Array.getD] at p
 have:=Qdm (Q:=Q) c f d l.length (Array.replicate l.length false) a w.drew (by simp) (fun q o F C=>by simp[Array.getD] at C) h
 have e:(Array.replicate l.length false++Array.replicate l2.length false:Array Bool)=Array.replicate (l++l2).toArray.size false:=by
  simp
 have r:l.length+l2.length=(l++l2).toArray.size:=by simp
 rw[e,r] at this
 exact this
theorem Qj {P:Program}{lo:List Oper}{outs:List Tmp}{gs:List (Nat × Option Bool)}{a:Act}{Q:Exit->Act->World->Prop}
 (k:Nat) (E:Tmp->Value->World->Prop) (W:World->Prop) (R:World->World->Prop)
 (f:P.follows .mixedOrders=true)  (hn:a.tmps.size=m) (c:n<=m) (e:Qbt (lo.take k) n outs gs bs=true)
 (i:(Qcu 0 lo&&(Qde (lo.take k).length (lo.take k)&&QbD lo (lo.take k).length (lo.drop k)))=true)
 (d:∀ t v w w',R w w'->E t v w->E t v w') (p:QbQ E W (lo.take k).toArray gs) (g:W w.drew) (o:Qbw E a w.drew outs)
 (j:Qfe E W R P (lo.take k) bs)
 (b:∀ ops (vs:Tmp->Value) w',W w'->(∀ t,(Qp (lo.take k)).contains t=true->E t (vs t) w')->wpList P ops Q (lo.drop k) (QC a vs (Qp (lo.take k))) w') :
 (Code.region id lo.toArray true).wp P Q a w:=by
 have h:=QhT (id:=id) (l:=lo.take k) (l2:=lo.drop k) (Q:=Q) E W R f hn c e (by rw[List.take_append_drop];exact i) d p g o j (b _);rwa [List.take_append_drop] at h
def Qll (L:List (Tmp × (Value->World->Prop))) (T:List (Tmp × Value)) (t:Tmp) (v:Value) (w:World):Prop :=
 match L.lookup t with
 | some p=>p v w
 | none=>v=(T.lookup t).getD undef
def Qn9 (v:Value) (w w':World):List (Tmp × (Value->World->Prop))->Prop
 | []=>True
 | p::l=>(p.2 v w->p.2 v w')/\Qn9 v w w' l
theorem Qll.keep {T:List (Tmp × Value)}{t:Tmp}{v:Value}{w w':World}:∀ {L:List (Tmp × (Value->World->Prop))},Qll L T t v w->Qn9 v w w' L->Qll L T t v w'
 | [],h,_=>h
 | (s,p)::l,h,k=>by
   have a:=fun h=>Qll.keep (T:=T) (t:=t) (L:=l) h k.2;unfold Qll at h a |-;simp only[List.lookup_cons] at h |-
   cases e:t==s with
   | true=>rw[e] at h;exact k.1 h
   | false=>rw[e] at h;exact a h
def Qm8 (S S':Nat->Bool) (t:Tmp) (v:Value) (w w':World):List (Tmp × ((Nat->Bool)->Value->World->Prop))->Prop
 | []=>True
 | p::l=>(t=p.1->p.2 S v w->p.2 S' v w')/\Qm8 S S' t v w w' l
theorem Qhs {S a:Nat->Bool}{t:Tmp}{v:Value}{w w':World}{R:Prop}:∀ {L:List (Tmp × ((Nat->Bool)->Value->World->Prop))},Qm8 S a t v w w' L->(match L.lookup t with | some p=>p S v w | none=>R)->(match L.lookup t with | some p=>p a v w' | none=>R)
 | [],_,h=>h
 | (s,p)::l,k,h=>by
   have b:=Qhs (R:=R) (L:=l) k.2;simp only[List.lookup_cons] at h |-
   cases e:t==s with
   | true=>rw[e] at h;exact k.1 (by simpa using e) h
   | false=>rw[e] at h;exact b h
theorem XC:type_of% @lt_of_block:=@lt_of_block
theorem QaZ (h:Below B (w.drewN m) w'):Below B w w':=⟨h.os,h.tape,h.output,h.size,h.block⟩
theorem Qgu (h:Below B w w'):Below B w (w'.drewN m):=⟨h.os,h.tape,h.output,h.size,h.block⟩
theorem QaL {c:Array Value}{ty:TypeId}(h:wr.heap[B]?=some (.cells c ty (0,0))) (b:Below wr.heap.size wr w):w.heap[B]?=some (.cells c ty (0,0)) :=
 (b.block B (XC h)).trans h
abbrev Blk (w:World) (B:Nat) (c:Array Value) (t:TypeId):Prop:=w.heap[B]?=some (.cells c t (0,0))
theorem Blk.below {c:Array Value}(h:Blk w B c t) (b:Below w.heap.size w w'):Blk w' B c t:=QaL h b
theorem Blk.alloc {c:Array Value}(h:Blk w B c t) (o:Obj):Blk (w.alloc o) B c t:=QaL h ((Below.refl _ w).alloc Ze _)
theorem Blk.new (w:World) (c:Array Value) (t:TypeId):Blk (w.alloc (.cells c t)) w.heap.size c t:=Qe w c t
theorem Blk.lt {c:Array Value}(h:Blk w B c t):B<w.heap.size:=XC h
theorem Blk.setOther {c:Array Value}(h:Blk w B c t){p:Addr}(a:p.block≠B) (v:Value):Blk (w.setCell p v) B c t:=(Xd _ _ _ _ (fun e=>a e.symm)).trans h
theorem ZR (w:World) (o:Obj):Below w.heap.size w (w.alloc o):=(Below.refl _ w).alloc Ze _
theorem Qih (w:World) (o p:Obj):Below w.heap.size w ((w.alloc o).alloc p):=(ZR w o).alloc (by simp) _
theorem Below.andThen (h:Below w.heap.size w w1) (b:Below w1.heap.size w1 w2):Below w.heap.size w w2:=h.trans (b.mono h.size)
theorem Blk.new1 (w:World) (c d:Array Value) (t u:TypeId):Blk ((w.alloc (.cells c t)).alloc (.cells d u)) w.heap.size c t:=(Blk.new w c t).alloc _
theorem Blk.new2 (w:World) (o:Obj) (d:Array Value) (u:TypeId):Blk ((w.alloc o).alloc (.cells d u)) (w.heap.size+1) d u:=by
 have:=Blk.new (w.alloc o) d u
 simpa using this
theorem Xf:type_of% @List.length_eq_zero_iff:=@List.length_eq_zero_iff
theorem Xp:type_of% @Nat.mul_le_mul_right:=@Nat.mul_le_mul_right
theorem XK:type_of% @Nat.zero_add:=@Nat.zero_add
theorem XO:type_of% @List.take_of_length_le:=@List.take_of_length_le
theorem XR:type_of% @List.getElem?_take:=@List.getElem?_take
section
open Go.Deep
structure Lay (α:Type) where
 size:Nat
 In:World->(Nat->Prop)->α->List Value->Prop
 len:∀ {w O x cs},In w O x cs->cs.length=size
 keep:∀ {w w':World} {O O':Nat->Prop} {x cs},(∀ k,O k->k<w.heap.size->w'.heap[k]?=w.heap[k]?)->(∀ k,O k->k<w.heap.size->O' k)->In w O x cs->In w' O' x cs
section
variable {α β:Type}{L:Lay α}{w w':World}{O O':Nat->Prop}{x:α}{cs:List Value}
theorem Lay.below (h:L.In w O x cs) (b:Below w.heap.size w w'):L.In w' O x cs:=L.keep (fun k _ a=>b.block k a) (fun _ h _=>h) h
theorem Ya:type_of% @Lay.below:=@Lay.below
theorem Lay.mono (h:L.In w O x cs) (a:∀ k,O k->k<w.heap.size->O' k):L.In w O' x cs:=L.keep (fun k _ _=>rfl) a h
theorem Yc:type_of% @Lay.mono:=@Lay.mono
theorem Lay.setCell (h:L.In w O x cs){p:Addr}(b:¬ O p.block) (v:Value):L.In (w.setCell p v) O x cs :=
 L.keep (fun k a _=>Xd _ _ _ _ (fun e=>by subst e;exact b a)) (fun _ h _=>h) h
theorem Lay.drewN (h:L.In w O x cs) (m:Nat):L.In (w.drewN m) O x cs:=L.keep (w:=w) (w':=w.drewN m) (fun k _ _=>rfl) (fun _ h _=>h) h
end
def Lay.int:Lay Int where
 size:=1
 In:=fun _ _ x cs=>cs=[Iv x]/\-9223372036854775808<=x/\x<=9223372036854775807
 len:=fun h=>by rw[h.1];rfl
 keep:=fun _ _ h=>h
def Lay.pair {α β:Type}(A:Lay α) (B:Lay β):Lay (α × β) where
 size:=A.size+B.size
 In:=fun w O x cs=>∃ c d,cs=c++d/\A.In w O x.1 c/\B.In w O x.2 d
 len:=fun ⟨c,d,e,h1,h2⟩=>by rw[e,List.length_append,A.len h1,B.len h2]
 keep:=fun hb hl ⟨c,d,e,h1,h2⟩=>⟨c,d,e,A.keep hb hl h1,B.keep hb hl h2⟩
def Lay.list {α:Type}(A:Lay α):Lay (List α) where
 size:=1
 In:=fun w O l cs=>∃ a c,cs=[.slice a l.length c]/\∀ (i:Nat) (x:α),l[i]?=some x->∃ g o ds,a=some ⟨g,o,none⟩/\O g/\g<w.heap.size/\(∀ j,j<A.size->w.cell? ⟨g,o+i*A.size+j,none⟩=ds[j]?)/\A.In w O x ds
 len:=fun ⟨_,_,e,_⟩=>by rw[e];rfl
 keep:=fun {w w' O O' l cs} hb hl ⟨a,c,e,h⟩=>⟨a,c,e,fun i x hx=>by
  obtain⟨g,o,ds,e1,hg,hlt,hc,hi⟩:=h i x hx
  have hk:w'.heap[g]?=w.heap[g]?:=hb g hg hlt;refine⟨g,o,ds,e1,hl g hg hlt,?_,fun j hj=>?_,A.keep hb hl hi⟩
  ·rcases Nat.lt_or_ge g w'.heap.size with h' | h'
   ·exact h'
   ·rw[Array.getElem?_eq_none h',Array.getElem?_eq_getElem hlt] at hk;cases hk
  ·exact(World.cell?_of_block (w:=w) (a:=⟨g,o+i*A.size+j,none⟩) hk).trans (hc j hj)⟩
theorem Lay.int_mk (w:World) (O:Nat->Prop){x:Int}(h:-9223372036854775808<=x/\x<=9223372036854775807):Lay.int.In w O x [Iv x]:=⟨Z,h⟩
theorem Lay.list_nil {α:Type}(A:Lay α) (w:World) (O:Nat->Prop) (a:Option Addr) (c:Nat):A.list.In w O [] [.slice a 0 c]:=⟨a,c,Z,fun i x h=>by simp at h⟩
theorem Yg:type_of% @Lay.list_nil:=@Lay.list_nil
theorem Lay.list_at {α:Type}{A:Lay α}{w:World}{O:Nat->Prop}{l:List α}(h:A.list.In w O l [.slice a n c]){x:α}(b:l[i]?=some x) :
 ∃ g o ds,a=some ⟨g,o,none⟩/\O g/\g<w.heap.size/\(∀ j,j<A.size->w.cell? ⟨g,o+i*A.size+j,none⟩=ds[j]?)/\A.In w O x ds:=by
 obtain⟨d,f,e,h⟩:=h
 simp at e
 obtain⟨rfl,_,rfl⟩:=e
 exact h i x b
theorem Yf:type_of% @Lay.list_at:=@Lay.list_at
theorem Lay.list_len {α:Type}{A:Lay α}{w:World}{O:Nat->Prop}{l:List α}(h:A.list.In w O l [.slice a n c]):n=l.length:=by
 obtain⟨b,d,e,h⟩:=h
 simp at e
 exact e.2.1
theorem QkB {α:Type}{P:Nat->α->Prop}(m:Nat) (h:∀ i,i<m->∃ x,P i x):∃ l:List α,l.length=m/\∀ i x,l[i]?=some x->P i x:=by
 induction m with
 | zero=>exact⟨[],Z,fun i x b=>by simp at b⟩
 | succ m ih =>
   obtain⟨l,c,d⟩:=ih (fun i e=>h i (by omega))
   obtain⟨x,b⟩:=h m (by omega)
   refine⟨l++[x],by simp[c],fun i y a=>?_⟩
   rw[List.getElem?_append] at a
   split at a
   ·exact d i y a
   ·rename_i e
    have:i=m:=by
     have:=(Zi a).1
     simp at this
     omega
    subst this;simp[c] at a
    subst a;exact b
structure Qag {α:Type}(A:Lay α) (e:TypeId) (w:World) (lo:Nat) (v:Value) (l:List α) (xs:List Value):Prop where
 own:w.ownsRow lo e A.size v l.length xs
 kids:∀ (i:Nat) (x:α),l[i]?=some x->A.In w (fun g=>lo<=g/\v.ownBlock≠some g) x ((xs.drop (i*A.size)).take A.size)
section
variable {α:Type}{A:Lay α}{e:TypeId}{w w':World}{lo:Nat}{v:Value}{l:List α}{xs:List Value}
theorem Qag.nil (A:Lay α) (e:TypeId) (w:World) (lo:Nat):Qag A e w lo (Nv) [] []:=⟨⟨by simp,Or.inl ⟨Z,Z⟩⟩,fun i x h=>by simp at h⟩
theorem Qag.lo_le (h:Qag A e w lo v l xs)(b:v.ownBlock=some g):lo<=g/\g<w.heap.size:=by
 obtain⟨⟨k,i⟩,m⟩:=h
 rcases i with ⟨rfl,n⟩|⟨j,c,f,rfl,a,d,r⟩
 ·simp[Value.ownBlock] at b
 ·simp[Value.ownBlock] at b;subst b;exact⟨a,XC d⟩
theorem Qag.below (h:Qag A e w lo v l xs) (b:Below w.heap.size w w'):Qag A e w' lo v l xs:=by
 obtain⟨⟨k,n⟩,f⟩:=h
 refine⟨⟨k,?_⟩,fun i x m=>Ya (f i x m) b⟩
 rcases n with o | ⟨g,a,c,e,j,d,r⟩
 ·exact Or.inl o
 ·exact Or.inr ⟨g,a,c,e,j,(b.block g (XC d)).trans d,r⟩
theorem Qag.lay (h:Qag A e w lo v l xs):A.list.In w (fun g=>lo<=g) l [v]:=by
 obtain⟨⟨B,u⟩,t⟩:=h
 rcases u with ⟨rfl,n⟩|⟨g,a,c,rfl,s,m,y,z,C,o⟩
 ·have:l=[]:=Xf.1 n
  subst this;exact Yg A _ _ _ _
 ·refine⟨some ⟨g,0,none⟩,a,Z,fun i x f=>⟨g,0,_,Z,s,XC m,fun j p=>?_,Yc (t i x f) (fun k r _=>r.1)⟩⟩
  have q:i<l.length:=(Zi f).1
  have d:i*A.size+j<l.length*A.size:=by
   have:(i+1)*A.size<=l.length*A.size:=Xp _ q
   rw[Nat.add_mul] at this
   omega
  rw[XR,Xs p,List.getElem?_drop,<-o,XR,Xs d,XK]
  have b:i*A.size+j<c.size:=by
   have:l.length*A.size<=a*A.size:=Xp _ y
   omega
  rw[Array.getElem?_toList]
  exact(Qa m _ c[i*A.size+j] (Xj b)).trans (Xj b).symm
theorem Qag.push (h:Qag A e w lo v l xs){x:α}(m:A.In w (fun g=>lo<=g/\v.ownBlock≠some g) x ds)
  (u:w.grownBy w' v.ownBlock) (j:v.ownBlock=some g\/g=w.heap.size)
 (t:w'.ownsRow lo e A.size (.slice (some ⟨g,0,none⟩) (l.length+1) cap) (l.length+1) (xs++ds)) :
 Qag A e w' lo (.slice (some ⟨g,0,none⟩) (l.length+1) cap) (l++[x]) (xs++ds):=by
 obtain⟨z,B⟩:=h
 have d:=z.1;have s:=A.len m
 have b:∀ {y:α} {es:List Value},A.In w (fun g=>lo<=g/\v.ownBlock≠some g) y es->A.In w' (fun o=>lo<=o/\(Value.slice (some ⟨g,0,none⟩) (l.length+1) cap).ownBlock≠some o) y es:=fun a=>by
  refine A.keep (fun k c p=>?_) (fun k c p=>⟨c.1,?_⟩) a
  ·exact u.block k p (fun e=>c.2 e.symm)
  ·simp only[Value.ownBlock,ne_eq,Option.some.injEq]
   intro e;subst e;rcases j with n | n
   ·exact c.2 n
   ·omega
 refine⟨by rw[List.length_append];exact t,fun i y a=>?_⟩
 rw[List.getElem?_append] at a
 split at a
 ·rename_i q
  have r:(i+1)*A.size<=l.length*A.size:=Xp _ q;rw[Nat.add_mul] at r
  have:=B i y a
  rw[List.drop_append_of_le_length (by omega),List.take_append_of_le_length (by simp;omega)]
  exact b this
 ·rename_i q
  have f:i=l.length:=by
   have:=(Zi a).1
   simp at this
   omega
  subst f;simp at a
  subst a;rw[List.drop_append,List.drop_of_length_le (by omega),<-d,Nat.sub_self,List.drop_zero,List.nil_append,XO (by omega)]
  exact b m
end
end
def TT:Nat->Type
 | 0=>Empty
 | n+1=>Int × Int × List (TT n)
def TT.kind:{n:Nat}->TT n->Int
 | 0,t=>Empty.elim t
 | _+1,t=>t.1
def TT.r:{n:Nat}->TT n->Int
 | 0,t=>Empty.elim t
 | _+1,t=>t.2.1
def TT.len:{n:Nat}->TT n->Nat
 | 0,t=>Empty.elim t
 | _+1,t=>t.2.2.length
def TT.count:{n:Nat}->TT n->Nat
 | 0,t=>Empty.elim t
 | n+1,t=>1+(t.2.2.map (TT.count (n:=n))).sum
def TT.height:{n:Nat}->TT n->Nat
 | 0,t=>Empty.elim t
 | n+1,t=>(t.2.2.map (fun x=>1+TT.height (n:=n) x)).foldl max 0
def ownC (k r:Int) (len:Nat) (regs:Int):Int :=
 if k<1\/4<k then 3
 else if k=1/\r≠0 then 4
 else if k≠3/\0<len then 4
 else if 8<len then 2
 else if k≠1/\(r<0\/regs<=r) then 1
 else 0
def QD {α:Type}(f:α->Int):List α->Int
 | []=>0
 | x::xs=>if f x≠0 then f x else QD f xs
def TT.fault:{n:Nat}->Int->TT n->Int
 | 0,_,t=>Empty.elim t
 | n+1,regs,t=>if ownC t.1 t.2.1 t.2.2.length regs≠0 then ownC t.1 t.2.1 t.2.2.length regs else QD (TT.fault (n:=n) regs) t.2.2
def TT.check {n:Nat}(regs:Int) (t:TT n):Int:=if 4<t.height then 19 else t.fault regs
def Qah (m:Nat) (too:Nat->Int) (k r:Int):Option Int :=
 if k=1 then some r else if r<0\/(m:Int)<=r then none else if too r.toNat<0 then none else some (too r.toNat)
def Qal {α:Type}(f:α->Option α):List α->Option (List α)
 | []=>some []
 | x::xs=>match f x with
   | none=>none
   | some y=>match Qal f xs with
     | none=>none
     | some ys=>some (y::ys)
def TT.ren:{n:Nat}->Nat->(Nat->Int)->TT n->Option (TT n)
 | 0,_,_,t=>Empty.elim t
 | n+1,m,too,t=>match Qah m too t.1 t.2.1 with
   | none=>none
   | some r=>match Qal (TT.ren (n:=n) m too) t.2.2 with
     | none=>none
     | some l=>some ((t.1,r,l):Int × Int × List (TT n))
def TT.ok:{n:Nat}->TT n->Prop
 | 0,t=>Empty.elim t
 | n+1,t=>(-9223372036854775808<=t.2.1/\t.2.1<=9223372036854775807)/\∀ x∈t.2.2,TT.ok (n:=n) x
theorem ZX {α:Type}{f:α->Option α}:∀ {l l':List α},Qal f l=some l'↔(l'.length=l.length/\∀ (i:Nat) x,l[i]?=some x->f x=l'[i]?)
 | [],l'=>by
   simp only[Qal,Option.some.injEq]
   constructor
   ·intro h;subst h;simp
   ·intro h;exact(Xf.1 h.1).symm
 | x::xs,l'=>by
   simp only[Qal]
   constructor
   ·intro h
    cases a:f x with
    | none=>simp[a] at h
    | some y =>
      simp only[a] at h
      cases b:Qal f xs with
      | none=>simp[b] at h
      | some ys =>
        simp only[b,Option.some.injEq] at h
        subst h;obtain⟨d,e⟩:=ZX.1 b
        refine⟨by simp[d],fun i z c=>?_⟩
        cases i with
        | zero=>simp at c;subst c;simpa using a
        | succ i=>simpa using e i z (by simpa using c)
   ·rintro ⟨d,e⟩
    cases l' with
    | nil=>simp at d
    | cons y ys =>
      have a:f x=some y:=by simpa using e 0 x Z
      have b:Qal f xs=some ys:=ZX.2 ⟨by simpa using d,fun i z c=>by simpa using e (i+1) z (by simpa using c)⟩;simp[a,b]
theorem Qdh {α:Type}{f:α->Option α}:∀ {l:List α}{i:Nat}{x:α},l[i]?=some x->f x=none->Qal f l=none
 | [],i,x,h,_=>by simp at h
 | y::ys,0,x,h,hf=>by simp at h;subst h;simp[Qal,hf]
 | y::ys,i+1,x,h,hf=>by
   have:=Qdh (l:=ys) (i:=i) (by simpa using h) hf
   simp only[Qal,this]
   cases f y<;>rfl
theorem QdE {α:Type}{f:α->Int}:∀ {l:List α}{i:Nat}{x:α},l[i]?=some x->(∀ (j:Nat) y,j<i->l[j]?=some y->f y=0)->f x≠0->QD f l=f x
 | [],i,x,h,_,_=>by simp at h
 | y::ys,0,x,h,_,hf=>by simp at h;subst h;simp[QD,hf]
 | y::ys,i+1,x,h,hz,hf=>by
   have b:f y=0:=hz 0 y (by omega) Z;simp only[QD,b,ne_eq,not_true_eq_false,if_false]
   exact QdE (by simpa using h) (fun j z c a=>hz (j+1) z (by omega) (by simpa using a)) hf
theorem QbN {α:Type}{f:α->Int}:∀ {l:List α},(∀ (j:Nat) y,l[j]?=some y->f y=0)->QD f l=0
 | [],_=>rfl
 | y::ys,h=>by
   have a:f y=0:=h 0 y Z;simp only[QD,a,ne_eq,not_true_eq_false,if_false]
   exact QbN (fun j z b=>h (j+1) z (by simpa using b))
theorem QP {α:Type}{f:α->Int}:∀ {l:List α},QD f l=0↔∀ x∈l,f x=0
 | []=>by simp[QD]
 | y::ys=>by
   simp only[QD]
   by_cases h:f y=0
   ·simp[h,QP]
   ·simp[h]
theorem QcC {α β:Type}{f:α->Int}{g:β->Int}:∀ {l:List α}{l':List β},l'.length=l.length->(∀ (i:Nat) x y,l[i]?=some x->l'[i]?=some y->f x=g y)->QD f l=QD g l'
 | [],[],_,_=>rfl
 | [],_::_,h,_=>by simp at h
 | _::_,[],h,_=>by simp at h
 | x::xs,y::ys,h,k=>by
   have j:f x=g y:=k 0 x y Z Z;have e:=QcC (f:=f) (g:=g) (l:=xs) (l':=ys) (by simpa using h) (fun i a b d c=>k (i+1) a b (by simpa using d) (by simpa using c));simp only[QD,j,e]
theorem TT.count_pos:{n:Nat}->(t:TT n)->1<=t.count
 | 0,t=>Empty.elim t
 | n+1,t=>by simp only[TT.count];omega
theorem Qgl (l:List Nat):∀ i,(l.take i).sum<=l.sum:=by
 intro i
 have:=congrArg List.sum (List.take_append_drop i l)
 rw[List.sum_append] at this
 omega
theorem length_le_sum:∀ (l:List Nat),(∀ x∈l,1<=x)->l.length<=l.sum
 | [],_=>by simp
 | x::xs,h=>by
   have c:=h x (by simp);have b:=length_le_sum xs (fun y a=>h y (by simp[a]));simp only[List.length_cons,List.sum_cons]
   omega
theorem TT.len_lt_count:{n:Nat}->(t:TT n)->t.len<t.count
 | 0,t=>Empty.elim t
 | n+1,t=>by
   have:=length_le_sum (t.2.2.map (TT.count (n:=n))) (fun x a=>by simp only[List.mem_map] at a;obtain⟨y,_,rfl⟩:=a;exact y.count_pos)
   simp only[TT.count,TT.len]
   simp at this
   omega
theorem le_sum_of_mem:∀ {l:List Nat}{x:Nat},x∈l->x<=l.sum
 | y::ys,x,h=>by
   rcases List.mem_cons.1 h with rfl | h
   ·simp
   ·have:=le_sum_of_mem h
    simp only[List.sum_cons];omega
theorem TT.count_kid (t:TT (n+1)){x:TT n}(h:x∈t.2.2):x.count<t.count:=by
 have:=le_sum_of_mem (l:=t.2.2.map (TT.count (n:=n))) (List.mem_map_of_mem h)
 simp only[TT.count]
 omega
theorem Qbb {l:List Nat}{a:Nat}:l.foldl max a<=m↔a<=m/\∀ x∈l,x<=m:=by
 induction l generalizing a with
 | nil=>simp
 | cons y ys ih =>
   simp only[List.foldl_cons,ih,List.mem_cons,forall_eq_or_imp,Nat.max_le,and_assoc]
theorem Zo {t:TT (n+1)}:t.height<=m↔∀ x∈t.2.2,1+x.height<=m:=by
 simp only[TT.height,Qbb,List.mem_map,Nat.zero_le,true_and,forall_exists_index,and_imp,forall_apply_eq_imp_iff₂]
theorem TT.ren_height {m:Nat}{too:Nat->Int}:{n:Nat}->{t u:TT n}->t.ren m too=some u->u.height=t.height
 | 0,t,_,_=>Empty.elim t
 | n+1,t,u,h=>by
   simp only[TT.ren] at h
   cases e1:Qah m too t.1 t.2.1 with
   | none=>simp[e1] at h
   | some r1 =>
     simp only[e1] at h
     cases e2:Qal (TT.ren m too) t.2.2 with
     | none=>simp[e2] at h
     | some l1 =>
       simp only[e2] at h
       have h:=Xn h;subst h;simp only[TT.height]
       congr 1
       obtain⟨d,e⟩:=ZX.1 e2
       apply List.ext_getElem (by simp[d])
       intro i b c;simp at b c
       have a:=e i t.2.2[i] (Zg c);rw[Zg b] at a
       simp[TT.ren_height a]
theorem TT.fault_zero {t:TT (n+1)}{regs:Int}(h:t.fault regs=0):ownC t.1 t.2.1 t.2.2.length regs=0/\∀ x∈t.2.2,x.fault regs=0:=by
 simp only[TT.fault] at h
 split at h
 ·contradiction
 ·rename_i a
  exact⟨by simpa using a,QP.1 h⟩
theorem Xb:type_of% @Nat.zero_le:=@Nat.zero_le
theorem Xi:type_of% @World.block_lt_of_cell?:=@World.block_lt_of_cell?
theorem XU:type_of% @World.cell?_of_block:=@World.cell?_of_block
section
open Go.Deep
abbrev All:Nat->Prop:=fun _=>True
abbrev QdN (lo:Nat):Nat->Prop:=fun g=>lo<=g
abbrev But (lo:Nat) (v:Value):Nat->Prop:=fun g=>lo<=g/\v.ownBlock≠some g
def TIn (w:World) (O:Nat->Prop):{n:Nat}->TT n->Option Addr->Prop
 | 0,t,_=>Empty.elim t
 | n+1,t,a=>∀ (i:Nat) (x:TT n),t.2.2[i]?=some x->∃ g o a' c',a=some ⟨g,o,none⟩/\O g /\
  w.cell? ⟨g,o+i*3,none⟩=some (Iv x.kind)/\w.cell? ⟨g,o+i*3+1,none⟩=some (Iv x.r)/\w.cell? ⟨g,o+i*3+2,none⟩=some (.slice a' x.len c')/\TIn w O (n:=n) x a'
abbrev Tv {n:Nat}(t:TT n) (a:Option Addr) (c:Nat):Value:=.agg #[Iv t.kind,Iv t.r,.slice a t.len c]
abbrev mkT {n:Nat}(k r:Int) (l:List (TT n)):TT (n+1):=(k,r,l)
abbrev LIn (w:World) (O:Nat->Prop){n:Nat}(l:List (TT n)) (a:Option Addr):Prop:=TIn w O (mkT 0 0 l) a
theorem TIn.list {w:World}{O:Nat->Prop}{n:Nat}{t:TT (n+1)}{a:Option Addr}(h:TIn w O t a):LIn w O t.2.2 a:=h
theorem LIn.tree {w:World}{O:Nat->Prop}{n:Nat}{k r:Int}{l:List (TT n)}{a:Option Addr}(h:LIn w O l a):TIn w O (mkT k r l) a:=h
theorem LIn.at {w:World}{O:Nat->Prop}{n:Nat}{l:List (TT n)}{a:Option Addr}(h:LIn w O l a){x:TT n}(b:l[i]?=some x) :
 ∃ g o a' c',a=some ⟨g,o,none⟩/\O g /\
  w.cell? ⟨g,o+i*3,none⟩=some (Iv x.kind)/\w.cell? ⟨g,o+i*3+1,none⟩=some (Iv x.r)/\w.cell? ⟨g,o+i*3+2,none⟩=some (.slice a' x.len c')/\TIn w O x a':=h i x b
theorem LIn.nil {w:World}{O:Nat->Prop}{n:Nat}{a:Option Addr}:LIn w O ([]:List (TT n)) a:=fun i x h=>by simp at h
theorem TIn.keep {w w':World}{O O':Nat->Prop}(hb:∀ k,O k->k<w.heap.size->w'.heap[k]?=w.heap[k]?) (d:∀ k,O k->k<w.heap.size->O' k):{n:Nat}->{t:TT n}->{a:Option Addr}->TIn w O t a->TIn w' O' t a
 | 0,t,_,_=>Empty.elim t
 | n+1,t,a,h=>fun i x q=>by
   obtain⟨g,o,p,m,e,f,j,r,l,s⟩:=h i x q
   have b:g<w.heap.size:=Xi w ⟨g,o+i*3,none⟩ j;have c:w'.heap[g]?=w.heap[g]?:=hb g f b;refine⟨g,o,p,m,e,d g f b,?_,?_,?_,TIn.keep hb d s⟩
   ·exact(XU (w:=w) (a:=⟨g,o+i*3,none⟩) c).trans j
   ·exact(XU (w:=w) (a:=⟨g,o+i*3+1,none⟩) c).trans r
   ·exact(XU (w:=w) (a:=⟨g,o+i*3+2,none⟩) c).trans l
section
variable {w w':World}{O O':Nat->Prop}{n:Nat}{t:TT n}{a:Option Addr}
theorem TIn.below (h:TIn w O t a) (b:Below w.heap.size w w'):TIn w' O t a:=h.keep (fun k _ c=>b.block k c) (fun _ h _=>h)
theorem TIn.mono (h:TIn w O t a) (b:∀ k,O k->k<w.heap.size->O' k):TIn w O' t a:=h.keep (fun k _ _=>rfl) b
theorem TIn.all (h:TIn w O t a):TIn w All t a:=h.mono (fun _ _ _=>trivial)
theorem TIn.alloc (h:TIn w O t a) (o:Obj):TIn (w.alloc o) O t a:=h.keep (fun k _ b=>Below.heap_alloc _ _ _ b) (fun _ h _=>h)
theorem TIn.setCell (h:TIn w O t a){p:Addr}(c:¬ O p.block) (v:Value):TIn (w.setCell p v) O t a :=
 h.keep (fun k b _=>Xd _ _ _ _ (fun e=>by subst e;exact c b)) (fun _ h _=>h)
theorem TIn.drewN (h:TIn w O t a) (m:Nat):TIn (w.drewN m) O t a:=h.keep (w:=w) (w':=w.drewN m) (fun k _ _=>rfl) (fun _ h _=>h)
end
theorem TT.len_eq {n:Nat}(t:TT (n+1)):t.len=t.2.2.length:=rfl
theorem Qlk {α:Type}{P:Nat->α->Prop}(m:Nat) (h:∀ i,i<m->∃ x,P i x):∃ l:List α,l.length=m/\∀ i x,l[i]?=some x->P i x:=by
 induction m with
 | zero=>exact⟨[],Z,fun i x b=>by simp at b⟩
 | succ m ih =>
   obtain⟨l,c,d⟩:=ih (fun i e=>h i (by omega))
   obtain⟨x,b⟩:=h m (by omega)
   refine⟨l++[x],by simp[c],fun i y a=>?_⟩
   rw[List.getElem?_append] at a
   split at a
   ·exact d i y a
   ·rename_i e
    have:i=m:=by
     have:=(Zi a).1
     simp at this
     omega
    subst this;simp[c] at a
    subst a;exact b
theorem Qmx {H:Type}{enc:TypeId × Value->H}{w:World}{f:Nat}{g:Nat->Bool}{u:Bool}{F ts ti:TypeId}{z A v:Field}
 (hs:P.underlying ts=some (.slice F)) (ht:P.underlying F=some (.struct #[z,A,v])) (hc:P.cellsOf F=3)
 (Q:z.offset=0/\P.cellsOf z.type=1/\P.underlying z.type=some (.int .i64)) (R:A.offset=1/\P.cellsOf A.type=1/\P.underlying A.type=some (.int .i64))
 (S:v.offset=2/\P.cellsOf v.type=1/\v.type=ts):∀ (n fuel:Nat),fuel<=n->∀ {cs:List Value} {x:DataW H × List MemPlace},
 DataW.trod enc P w f g u fuel F cs=some x->∃ (T:TT n) (a:Option Addr) (c:Nat),cs=[Iv T.kind,Iv T.r,.slice a T.len c]/\TIn w All T a/\T.ok:=by
 intro n
 induction n with
 | zero =>
   intro fuel hf cs x h;obtain rfl:fuel=0:=by omega
   simp[DataW.trod] at h
 | succ n ih =>
   intro fuel hf cs x h;obtain⟨xs,m,rfl,_,B,X,o⟩:=DataW.trod_struct ht h
   have ae:xs.length=3:=X;have g0:=o 0 z Z;have g1:=o 1 A Z;have g2:=o 2 v Z;rw[Q.1,Q.2.1,Zg (by omega)] at g0
   rw[R.1,R.2.1,Zg (by omega)] at g1
   rw[S.1,S.2.1,S.2.2,Zg (by omega)] at g2
   obtain⟨k,e0,_,_⟩:=DataW.trod_int Q.2.2 g0
   obtain⟨r,e1,_,U⟩:=DataW.trod_int R.2.2 g1
   have ew:-9223372036854775808<=r/\r<=9223372036854775807:=by
    have:=Go.bounds_i64 U
    omega
   rw[hc] at B
   obtain⟨V,N,c2,rfl⟩:∃ V N c2,cs=[V,N,c2]:=by
    match cs,B with
    | [V,N,c2],_=>exact⟨_,_,_,Z⟩
   simp at e0 e1
   subst e0 e1;rcases DataW.trod_slice hs g2 with ⟨y,_⟩|⟨a,len,W,aa,ad,q,rfl,y,_,hb,hl,hm,ab,M,_,_⟩
   ·simp at y
    subst y;exact⟨mkT k r [],none,0,Z,LIn.nil,ew,fun x t=>by cases t⟩
   ·simp at y
    subst y
    obtain⟨l,K,L⟩:=Qlk (P:=fun i (T:TT n)=>∃ p s,w.cells? f (a.add (i*3)) 3=some [Iv T.kind,Iv T.r,.slice p T.len s]/\TIn w All T p/\T.ok) len (fun i D=>by
     have he:=M i D;rw[Zg (by omega),hc] at he
     rw[Option.bind_eq_some_iff] at he
     obtain⟨af,e,O⟩:=he
     obtain⟨T,p,s,rfl,I,G⟩:=ih q (by omega) O
     exact⟨T,p,s,e,I,G⟩)
    refine⟨mkT k r l,some a,W,by simp[TT.kind,TT.r,TT.len,K],fun i x t=>?_,ew,fun x t=>?_⟩
    ·obtain⟨p,s,e,I,G⟩:=L i x t
     obtain⟨_,ac,d⟩:=World.cells?_some e
     have q0:=d 0 (by omega);have q1:=d 1 (by omega);have q2:=d 2 (by omega);obtain⟨b,J,E⟩:=a
     have j:E=none:=by
      have D:0<l.length:=Nat.lt_of_le_of_lt (Xb i) (Zi t).1;obtain⟨_,_,C,_,_⟩:=L 0 l[0] (Zg D)
      have:=(World.cells?_some C).2.2 0 (by omega)
      simpa[Addr.add] using World.cell?_spot this
     subst j;rw[Go.WideShapes.add_plain,Go.WideShapes.add_plain] at q0 q1 q2
     exact⟨b,J,p,s,Z,Y,q0,q1,q2,I⟩
    ·obtain⟨i,D,rfl⟩:=List.mem_iff_getElem.1 t
     obtain⟨p,s,e,I,G⟩:=L i l[i] (Zg D)
     exact G
end
theorem XL:type_of% @Nat.mul_one:=@Nat.mul_one
section
open Go.Deep
structure Qx where
 op:Int
 a:Int
 b:Int
 c:Int
 k:Int
 n:Int
 regs:List Int
 args:List Int
structure MTo where
 block:Int
 regs:List Int
 args:List Int
structure MEnd where
 op:Int
 a:Int
 yes:MTo
 no:MTo
 args:List Int
structure MBlock (n:Nat) where
 regs:Int
 params:List (TT n)
 code:List Qx
 fin:MEnd
structure MFunc (n:Nat) where
 regs:Int
 params:List (TT n)
 results:List (TT n)
 blocks:List (MBlock n)
def Lay.via {α β:Type}(A:Lay α) (f:β->α):Lay β where
 size:=A.size
 In:=fun w O x cs=>A.In w O (f x) cs
 len:=fun h=>A.len h
 keep:=fun hb hl h=>A.keep hb hl h
def Lay.tt (n:Nat):Lay (TT n) where
 size:=3
 In:=fun w O t cs=>∃ a c,cs=[Iv t.kind,Iv t.r,.slice a t.len c]/\TIn w O t a/\t.ok
 len:=fun ⟨_,_,e,_⟩=>by rw[e];rfl
 keep:=fun hb hl ⟨a,c,e,h1,h2⟩=>⟨a,c,e,h1.keep hb hl,h2⟩
abbrev intsL:Lay (List Int):=Lay.int.list
abbrev Qt (n:Nat):Lay (List (TT n)):=(Lay.tt n).list
def insL:Lay Qx:=(Lay.int.pair (Lay.int.pair (Lay.int.pair (Lay.int.pair (Lay.int.pair (Lay.int.pair (intsL.pair intsL))))))).via (fun x=>(x.op,x.a,x.b,x.c,x.k,x.n,x.regs,x.args))
def toL:Lay MTo:=(Lay.int.pair (intsL.pair intsL)).via (fun x=>(x.block,x.regs,x.args))
def endL:Lay MEnd:=(Lay.int.pair (Lay.int.pair (toL.pair (toL.pair intsL)))).via (fun x=>(x.op,x.a,x.yes,x.no,x.args))
def ZV (n:Nat):Lay (MBlock n):=(Lay.int.pair ((Qt n).pair (insL.list.pair endL))).via (fun x=>(x.regs,x.params,x.code,x.fin))
def QaF (n:Nat):Lay (MFunc n):=(Lay.int.pair ((Qt n).pair ((Qt n).pair (ZV n).list))).via (fun x=>(x.regs,x.params,x.results,x.blocks))
abbrev Qar (n:Nat):Lay (List (MFunc n)):=(QaF n).list
section
variable {w:World}{O:Nat->Prop}{n:Nat}{cs:List Value}
theorem Q6 {α:Type}{A:Lay α}{l:List α}(h:A.list.In w O l cs):∃ a c,cs=[.slice a l.length c]/\A.list.In w O l [.slice a l.length c]:=by
 obtain⟨a,c,e,h⟩:=h
 exact⟨a,c,e,a,c,Z,h⟩
theorem Qgv {x:MTo}(h:toL.In w O x cs):∃ a c b d,cs=[Iv x.block,.slice a x.regs.length c,.slice b x.args.length d]/\intsL.In w O x.regs [.slice a x.regs.length c]/\intsL.In w O x.args [.slice b x.args.length d]/\(-9223372036854775808<=x.block/\x.block<=9223372036854775807):=by
 obtain⟨_,_,rfl,⟨rfl,g⟩,⟨_,_,rfl,f,e⟩⟩:=h
 obtain⟨a,c,rfl,f⟩:=Q6 f
 obtain⟨b,d,rfl,e⟩:=Q6 e
 exact⟨a,c,b,d,Z,f,e,g⟩
theorem Qnu {x:MTo}{b:Option Addr}(g:intsL.In w O x.regs [.slice a x.regs.length c]) (e:intsL.In w O x.args [.slice b x.args.length d]) (f:-9223372036854775808<=x.block/\x.block<=9223372036854775807) :
 toL.In w O x [Iv x.block,.slice a x.regs.length c,.slice b x.args.length d]:=⟨_,_,Z,⟨Z,f⟩,⟨_,_,Z,g,e⟩⟩
theorem Qhc {x:Qx}(h:insL.In w O x cs):∃ a c b d,cs=[Iv x.op,Iv x.a,Iv x.b,Iv x.c,Iv x.k,Iv x.n,.slice a x.regs.length c,.slice b x.args.length d]/\intsL.In w O x.regs [.slice a x.regs.length c]/\intsL.In w O x.args [.slice b x.args.length d] /\
 ((-9223372036854775808<=x.op/\x.op<=9223372036854775807)/\(-9223372036854775808<=x.a/\x.a<=9223372036854775807)/\(-9223372036854775808<=x.b/\x.b<=9223372036854775807)/\(-9223372036854775808<=x.c/\x.c<=9223372036854775807)/\(-9223372036854775808<=x.k/\x.k<=9223372036854775807)/\(-9223372036854775808<=x.n/\x.n<=9223372036854775807)):=by
 obtain⟨_,_,rfl,⟨rfl,i⟩,⟨_,_,rfl,⟨rfl,j⟩,⟨_,_,rfl,⟨rfl,g⟩,⟨_,_,rfl,⟨rfl,l⟩,⟨_,_,rfl,⟨rfl,o⟩,⟨_,_,rfl,⟨rfl,m⟩,⟨_,_,rfl,e,f⟩⟩⟩⟩⟩⟩⟩:=h
 obtain⟨a,c,rfl,e⟩:=Q6 e
 obtain⟨b,d,rfl,f⟩:=Q6 f
 exact⟨a,c,b,d,Z,e,f,i,j,g,l,o,m⟩
theorem Qd4 {x:Qx}{b:Option Addr}(g:intsL.In w O x.regs [.slice a x.regs.length c]) (f:intsL.In w O x.args [.slice b x.args.length d])
 (e:(-9223372036854775808<=x.op/\x.op<=9223372036854775807)/\(-9223372036854775808<=x.a/\x.a<=9223372036854775807)/\(-9223372036854775808<=x.b/\x.b<=9223372036854775807)/\(-9223372036854775808<=x.c/\x.c<=9223372036854775807)/\(-9223372036854775808<=x.k/\x.k<=9223372036854775807)/\(-9223372036854775808<=x.n/\x.n<=9223372036854775807)) :
 insL.In w O x [Iv x.op,Iv x.a,Iv x.b,Iv x.c,Iv x.k,Iv x.n,.slice a x.regs.length c,.slice b x.args.length d] :=
 ⟨_,_,Z,⟨Z,e.1⟩,⟨_,_,Z,⟨Z,e.2.1⟩,⟨_,_,Z,⟨Z,e.2.2.1⟩,⟨_,_,Z,⟨Z,e.2.2.2.1⟩,⟨_,_,Z,⟨Z,e.2.2.2.2.1⟩,⟨_,_,Z,⟨Z,e.2.2.2.2.2⟩,⟨_,_,Z,g,f⟩⟩⟩⟩⟩⟩⟩
theorem Qhe {x:MEnd}(h:endL.In w O x cs):∃ c1 c2 a c,cs=Iv x.op::Iv x.a::(c1++(c2++[.slice a x.args.length c]))/\toL.In w O x.yes c1/\toL.In w O x.no c2/\intsL.In w O x.args [.slice a x.args.length c]/\((-9223372036854775808<=x.op/\x.op<=9223372036854775807)/\(-9223372036854775808<=x.a/\x.a<=9223372036854775807)):=by
 obtain⟨_,_,rfl,⟨rfl,d⟩,⟨_,_,rfl,⟨rfl,e⟩,⟨c1,_,rfl,g,⟨c2,_,rfl,f,b⟩⟩⟩⟩:=h
 obtain⟨a,c,rfl,b⟩:=Q6 b
 exact⟨c1,c2,a,c,Z,g,f,b,d,e⟩
theorem Qm2 {x:MEnd}{b d:List Value}(g:toL.In w O x.yes b) (f:toL.In w O x.no d) (h:intsL.In w O x.args [.slice a x.args.length c]) (e:(-9223372036854775808<=x.op/\x.op<=9223372036854775807)/\(-9223372036854775808<=x.a/\x.a<=9223372036854775807)) :
 endL.In w O x (Iv x.op::Iv x.a::(b++(d++[.slice a x.args.length c]))):=⟨[_],_,Z,⟨Z,e.1⟩,⟨[_],_,Z,⟨Z,e.2⟩,⟨b,_,Z,g,⟨d,_,Z,f,h⟩⟩⟩⟩
theorem Qcs {x:MBlock n}(h:(ZV n).In w O x cs):∃ a c b d es,cs=Iv x.regs::.slice a x.params.length c::.slice b x.code.length d::es/\(Qt n).In w O x.params [.slice a x.params.length c]/\insL.list.In w O x.code [.slice b x.code.length d]/\endL.In w O x.fin es/\(-9223372036854775808<=x.regs/\x.regs<=9223372036854775807):=by
 obtain⟨_,_,rfl,⟨rfl,i⟩,⟨_,_,rfl,f,⟨_,es,rfl,e,g⟩⟩⟩:=h
 obtain⟨a,c,rfl,f⟩:=Q6 f
 obtain⟨b,d,rfl,e⟩:=Q6 e
 exact⟨a,c,b,d,es,Z,f,e,g,i⟩
theorem QgU {x:MBlock n}{b:Option Addr}{e:List Value}(g:(Qt n).In w O x.params [.slice a x.params.length c]) (i:insL.list.In w O x.code [.slice b x.code.length d]) (h:endL.In w O x.fin e) (f:-9223372036854775808<=x.regs/\x.regs<=9223372036854775807) :
 (ZV n).In w O x (Iv x.regs::.slice a x.params.length c::.slice b x.code.length d::e):=⟨[_],_,Z,⟨Z,f⟩,⟨[_],_,Z,g,⟨[_],e,Z,i,h⟩⟩⟩
theorem QaO {x:MFunc n}(h:(QaF n).In w O x cs):∃ a c b d e f,cs=[Iv x.regs,.slice a x.params.length c,.slice b x.results.length d,.slice e x.blocks.length f]/\(Qt n).In w O x.params [.slice a x.params.length c]/\(Qt n).In w O x.results [.slice b x.results.length d]/\(ZV n).list.In w O x.blocks [.slice e x.blocks.length f]/\(-9223372036854775808<=x.regs/\x.regs<=9223372036854775807):=by
 obtain⟨_,_,rfl,⟨rfl,k⟩,⟨_,_,rfl,j,⟨_,_,rfl,i,g⟩⟩⟩:=h
 obtain⟨a,c,rfl,j⟩:=Q6 j
 obtain⟨b,d,rfl,i⟩:=Q6 i
 obtain⟨e,f,rfl,g⟩:=Q6 g
 exact⟨a,c,b,d,e,f,Z,j,i,g,k⟩
theorem QiL {x:MFunc n}{b e:Option Addr}(j:(Qt n).In w O x.params [.slice a x.params.length c]) (h:(Qt n).In w O x.results [.slice b x.results.length d]) (g:(ZV n).list.In w O x.blocks [.slice e x.blocks.length f]) (i:-9223372036854775808<=x.regs/\x.regs<=9223372036854775807) :
 (QaF n).In w O x [Iv x.regs,.slice a x.params.length c,.slice b x.results.length d,.slice e x.blocks.length f]:=⟨[_],_,Z,⟨Z,i⟩,⟨[_],_,Z,j,⟨[_],_,Z,h,g⟩⟩⟩
theorem ZW (h:intsL.In w O l [.slice a m c])(hi:i<l.length):∃ g o,a=some ⟨g,o,none⟩/\O g/\g<w.heap.size/\w.cell? ⟨g,o+i,none⟩=some (Iv (l.getD i 0)):=by
 obtain⟨g,o,k,e,b,f,d,rfl,_⟩:=Yf h (Zg hi)
 refine⟨g,o,e,b,f,?_⟩
 have:=d 0 (by decide)
 have j:Lay.int.size=1:=rfl;rw[j,XL,Nat.add_zero] at this
 rw[this]
 simp[List.getD,hi]
theorem Q8 {l:List (TT n)}(h:(Qt n).In w O l [.slice a m c]):LIn w O l a/\∀ x∈l,x.ok:=by
 refine⟨fun i x d=>?_,fun x d=>?_⟩
 ·obtain⟨g,o,q,e,p,s,b,k,j,rfl,f,_⟩:=Yf h d
  have u:(Lay.tt n).size=3:=rfl;rw[u] at b
  exact⟨g,o,k,j,e,p,b 0 (by omega),b 1 (by omega),b 2 (by omega),f⟩
 ·obtain⟨i,t,rfl⟩:=List.mem_iff_getElem.1 d
  obtain⟨g,o,q,e,p,s,b,k,j,rfl,f,r⟩:=Yf h (Zg t)
  exact r
theorem Qft {l:List (TT n)}(h:LIn w O l a) (d:∀ x∈l,x.ok):(Qt n).In w O l [.slice a l.length c]:=by
 refine⟨a,c,Z,fun i x f=>?_⟩
 obtain⟨g,o,p,k,e,u,m,v,q,t⟩:=LIn.at h f
 refine⟨g,o,[Iv x.kind,Iv x.r,.slice p x.len k],e,u,Xi w ⟨g,o+i*3,none⟩ m,fun j s=>?_,p,k,Z,t,d x (Zm f)⟩
 have b:j<3:=s;have y:(Lay.tt n).size=3:=rfl;rw[y]
 match j,b with
 | 0,_=>exact m
 | 1,_=>exact v
 | 2,_=>exact q
end
end
def QJ (op:Int):Option (Bool × Bool × Bool × Bool × Bool × Bool × Bool) :=
 if op=1 then some (false,false,false,false,true,false,false)
 else if op=2\/op=7 then some (true,true,false,true,false,false,false)
 else if op=3\/op=12 then some (false,false,false,false,false,false,false)
 else if op=4\/op=11\/op=13 then some (true,false,false,false,false,false,false)
 else if op=5 then some (true,false,false,false,false,false,true)
 else if op=6 then some (true,false,false,true,false,false,false)
 else if op=8\/op=9 then some (true,true,false,false,false,false,false)
 else if op=10 then some (true,true,true,false,false,false,false)
 else if op=14 then some (false,false,false,true,false,true,true)
 else none
def Qx.formless (x:Qx):Bool:=match QJ x.op with
 | none=>false
 | some (a,b,c,k,n,rg,ar)=>(!a&&x.a != 0)||(!b&&x.b != 0)||(!c&&x.c != 0)||(!k&&x.k != 0)||(!n&&x.n != 0)||(!rg&&decide (0<x.regs.length))||(!ar&&decide (0<x.args.length))
def Qx.form (funcs:Nat) (x:Qx):Int :=
 if (QJ x.op).isNone then 3
 else if x.formless then 4
 else if x.op=2/\(x.k<1\/9<x.k) then 1
 else if x.op=5/\8<x.args.length then 2
 else if (x.op=6\/x.op=7)/\(x.k<0\/7<x.k) then 1
 else if x.op=14/\(x.k<0\/(funcs:Int)<=x.k) then 1
 else if x.op=14/\(6<x.regs.length\/8<x.args.length) then 2
 else 0
def MTo.form (blocks:Nat) (has:Bool) (t:MTo):Int :=
 if has=false then (if t.block≠0\/0<t.regs.length+t.args.length then 4 else 0)
 else if t.block<0\/(blocks:Int)<=t.block then 1
 else if 16<t.regs.length\/8<t.args.length then 2
 else 0
def MEnd.form (blocks:Nat) (e:MEnd):Int :=
 if e.op<1\/3<e.op then 3
 else if (e.a≠0/\e.op≠2)\/(0<e.args.length/\e.op≠3) then 4
 else if 8<e.args.length then 2
 else if e.yes.form blocks (decide (e.op≠3))≠0 then e.yes.form blocks (decide (e.op≠3))
 else e.no.form blocks (decide (e.op=2))
def listC {n:Nat}(regs:Int) (l:List (TT n)):Int:=if 8<l.length then 2 else QD (TT.check regs) l
def firstF {α:Type}(f:Nat->α->Int × Int):Nat->List α->Int × Int
 | _,[]=>(0,0)
 | i,x::xs=>if (f i x).1≠0 then f i x else firstF f (i+1) xs
def TT.dec:(n:Nat)->DecidableEq (TT n)
 | 0=>fun t _=>Empty.elim t
 | n+1=>fun t u=>match (TT.dec n) with
   | d=>if h1:t.1=u.1 then if h2:t.2.1=u.2.1 then match (@List.hasDecEq _ d t.2.2 u.2.2) with
    | isTrue h3=>isTrue (by obtain⟨a,b,c⟩:=t;obtain⟨a',b',c'⟩:=u;simp only at h1 h2 h3;subst h1 h2 h3;rfl)
    | isFalse h3=>isFalse (fun e=>h3 (by rw[e]))
    else isFalse (fun e=>h2 (by rw[e])) else isFalse (fun e=>h1 (by rw[e]))
def Qbr {n:Nat}(l m:List (TT n)):Bool:=match @List.hasDecEq _ (TT.dec n) l m with
 | isTrue _=>true
 | isFalse _=>false
theorem Qbm {l m:List (TT n)}:Qbr l m=true↔l=m:=by
 unfold Qbr;split
 ·rename_i h _;simp[h]
 ·rename_i h _;simp[h]
def MBlock.fault {n:Nat}(funcs:Nat) (f:Nat) (fn:MFunc n) (b:Nat) (x:MBlock n):Int × Int :=
 if x.regs<fn.regs\/16<x.regs then (1,10000*f+100*b+90)
 else if listC x.regs x.params≠0 then (listC x.regs x.params,10000*f+100*b+90)
 else if b=0/\(x.regs≠fn.regs\/Qbr x.params fn.params=false) then (9,10000*f+100*b+90)
 else if 40<x.code.length then (2,10000*f+100*b+90)
 else if (firstF (fun i y=>(Qx.form funcs y,(10000*f+100*b+i:Int))) 0 x.code).1≠0 then firstF (fun i y=>(Qx.form funcs y,(10000*f+100*b+i:Int))) 0 x.code
 else if x.fin.form fn.blocks.length≠0 then (x.fin.form fn.blocks.length,10000*f+100*b+91)
 else (0,0)
def MFunc.fault {n:Nat}(funcs:Nat) (f:Nat) (x:MFunc n):Int × Int :=
 if x.regs<0\/6<x.regs then (1,10000*f+9999)
 else if listC x.regs x.params≠0 then (listC x.regs x.params,10000*f+9999)
 else if listC x.regs x.results≠0 then (listC x.regs x.results,10000*f+9999)
 else if x.blocks.length<1\/12<x.blocks.length then (2,10000*f+9999)
 else if f=0/\¬ (x.regs=0/\x.params.length=0/\x.results.all (fun t=>t.kind==1)=true) then (18,10000*f+9999)
 else firstF (fun b y=>MBlock.fault funcs f x b y) 0 x.blocks
def modFault {n:Nat}(m:List (MFunc n)):Int × Int :=
 if m.length<1\/8<m.length then (2,-1) else firstF (fun f x=>MFunc.fault m.length f x) 0 m
def ZO {n:Nat}(l:List (TT n)):Prop:=200<l.length\/∃ t∈l,2000<t.count
def MBlock.great {n:Nat}(x:MBlock n):Prop:=200<x.code.length\/ZO x.params\/300<x.fin.args.length\/300<x.fin.yes.regs.length\/300<x.fin.yes.args.length\/300<x.fin.no.regs.length\/300<x.fin.no.args.length\/∃ y∈x.code,300<y.regs.length\/300<y.args.length
def MFunc.great {n:Nat}(x:MFunc n):Prop:=30<x.blocks.length\/ZO x.params\/ZO x.results\/∃ y∈x.blocks,y.great
def QS {n:Nat}(m:List (MFunc n)):Prop:=20<m.length\/∃ x∈m,x.great
theorem ZT {α:Type}{f:Nat->α->Int × Int}:∀ {l:List α}{i j:Nat}{x:α},l[i]?=some x->(∀ k y,k<i->l[k]?=some y->(f (j+k) y).1=0)->(f (j+i) x).1≠0->firstF f j l=f (j+i) x
 | [],i,j,x,h,_,_=>by simp at h
 | y::ys,0,j,x,h,_,hf=>by
   simp at h;subst h
   simp only[firstF]
   rw[Xs (by simpa using hf)]
   rfl
 | y::ys,i+1,j,x,h,hz,hf=>by
   have b:(f j y).1=0:=by simpa using hz 0 y (by omega) Z
   simp only[firstF,b,ne_eq,not_true_eq_false,if_false]
   have:=ZT (f:=f) (l:=ys) (i:=i) (j:=j+1) (x:=x) (by simpa using h) (fun k z c a=>by have:=hz (k+1) z (by omega) (by simpa using a);rwa [show j+1+k=j+(k+1) by omega]) (by rwa [show j+1+i=j+(i+1) by omega])
   rw[this,show j+1+i=j+(i+1) by omega]
theorem Zv {α:Type}{f:Nat->α->Int × Int}:∀ {l:List α}{j:Nat},(∀ (k:Nat) y,l[k]?=some y->(f (j+k) y).1=0)->firstF f j l=(0,0)
 | [],_,_=>rfl
 | y::ys,j,h=>by
   have a:(f j y).1=0:=by simpa using h 0 y Z
   simp only[firstF,a,ne_eq,not_true_eq_false,if_false]
   exact Zv (fun k z b=>by have:=h (k+1) z (by simpa using b);rwa [show j+1+k=j+(k+1) by omega])
theorem XS:type_of% @List.getElem?_map:=@List.getElem?_map
theorem XV:type_of% @List.take_add_one:=@List.take_add_one
structure Bx (w wr:World) (k r:Int) (a:Option Addr) (len c:Nat):Prop where
 bel:Below w.heap.size w wr
 box:wr.heap[w.heap.size]?=some (.cells #[Iv k,Iv r,.slice a len c] 105 (0,0))
theorem Bx.start (w:World) (k r:Int) (a:Option Addr) (len c:Nat):Bx w (w.alloc (.cells #[Iv k,Iv r,.slice a len c] 105)) k r a len c :=
 ⟨(Below.refl _ w).alloc Ze _,Qe w _ _⟩
theorem Bx.below {k r:Int}{len:Nat}(h:Bx w wr k r a len c) (b:Below wr.heap.size wr w'):Bx w w' k r a len c :=
 ⟨h.bel.trans (b.mono h.bel.size),QaL h.box b⟩
theorem Bx.alloc {k r:Int}{len:Nat}(h:Bx w wr k r a len c) (o:Obj):Bx w (wr.alloc o) k r a len c :=
 h.below ((Below.refl _ wr).alloc Ze _)
theorem QeT {α:Type}(f:α->Nat) (l:List α) (i:Nat) (x:α) (h:l[i]?=some x):((l.map f).take (i+1)).sum=((l.map f).take i).sum+f x:=by
 rw[XV,XS,h]
 simp
def QeS (f:Nat) (n:Nat):Prop:=∀ (t:TT n) (a:Option Addr) (c:Nat) (regs:Int) (w:World),TIn w All t a->t.count<=100000 ->
 Calls prog f #[Tv t a c,Iv regs] w fun e w'=>e=.returned (Iv (t.fault regs))/\Below w.heap.size w w'
def Rd (P:Program) (f:FuncId) (args:Array Value) (w:World) (V:Value):Prop:=Calls P f args w fun e w'=>e=.returned V/\Below w.heap.size w w'
noncomputable def bdec (A:Prop):Bool:=@decide A (Classical.propDecidable A)
theorem QcU {A:Prop}:bdec A=true↔A:=by unfold bdec;simp
theorem QG {A:Prop}(h:A):bdec A=true:=QcU.2 h
theorem Qy {A:Prop}(h:¬ A):bdec A=false:=by
 cases e:bdec A with
 | false=>rfl
 | true=>exact absurd (QcU.1 e) h
theorem Qjr {A:Prop}{q:Bool}(h:q=true↔A):q=bdec A:=by
 cases q with
 | false=>exact(Qy fun a=>by have:=h.2 a;cases this).symm
 | true=>exact(QG (h.1 Z)).symm
theorem Xl:type_of% @Below.andThen:=@Below.andThen
theorem Xy:type_of% @bodyPost_ret:=@bodyPost_ret
structure Wd (w0 w:World) (Bs:List (Nat × Array Value × TypeId)):Prop where
 bel:Below w0.heap.size w0 w
 blk:∀ (i:Nat) x,Bs[i]?=some x->Blk w x.1 x.2.1 x.2.2
 new:∀ (i:Nat) x,Bs[i]?=some x->w0.heap.size<=x.1
 nd:∀ (i j:Nat) x y,Bs[i]?=some x->Bs[j]?=some y->x.1=y.1->i=j
section
variable {w0 w w':World}{Bs:List (Nat × Array Value × TypeId)}
theorem Wd.start (w:World):Wd w w []:=⟨Zr,fun i x h=>by simp at h,fun i x h=>by simp at h,fun i j x y h=>by simp at h⟩
theorem Ye:type_of% @Wd.start:=@Wd.start
theorem Wd.below (h:Wd w0 w Bs) (b:Below w.heap.size w w'):Wd w0 w' Bs:=⟨Xl h.bel b,fun i x a=>(h.blk i x a).below b,h.new,h.nd⟩
theorem Wd.get (h:Wd w0 w Bs) (i:Nat){c:Array Value}{t:TypeId}(hi:Bs[i]?=some (B,c,t)):Blk w B c t:=h.blk i _ hi
theorem Wd.new' (h:Wd w0 w Bs) (c:Array Value) (t:TypeId):Wd w0 (w.alloc (.cells c t)) ((w.heap.size,c,t)::Bs):=by
 refine⟨Xl h.bel (ZR w _),fun i x a=>?_,fun i x a=>?_,fun i j x y a b e=>?_⟩
 ·cases i with
  | zero=>simp at a;subst a;exact Blk.new w c t
  | succ i=>exact(h.blk i x (by simpa using a)).alloc _
 ·cases i with
  | zero=>simp at a;subst a;exact h.bel.size
  | succ i=>exact h.new i x (by simpa using a)
 ·cases i with
  | zero =>
    cases j with
    | zero=>rfl
    | succ j =>
      simp at a b;subst a
      have:=(h.blk j y b).lt
      simp at e;omega
  | succ i =>
    cases j with
    | zero =>
      simp at a b;subst b
      have:=(h.blk i x a).lt
      simp at e;omega
    | succ j=>rw[h.nd i j x y (by simpa using a) (by simpa using b) e]
theorem Wd.set (h:Wd w0 w Bs) (i:Nat){c c':Array Value}{t:TypeId}{m:List (Nat × Array Value × TypeId)}(hi:Bs[i]?=some (B,c,t)) (j:Nat) (v:Value)
 (z:c.setIfInBounds j v=c') (s:Bs.set i (B,c',t)=m):Wd w0 (w.setCell ⟨B,j,none⟩ v) m:=by
 subst s;subst z
 have o:∀ (k:Nat) x,(Bs.set i (B,c.setIfInBounds j v,t))[k]?=some x->(k=i/\x=(B,c.setIfInBounds j v,t))\/(k≠i/\Bs[k]?=some x):=by
  intro k x a;rw[List.getElem?_set] at a
  split at a
  ·rename_i e
   subst e;have q:i<Bs.length:=(Zi hi).1;rw[Xs q] at a
   exact .inl ⟨Z,(Xn a).symm⟩
  ·rename_i e
   exact .inr ⟨fun u=>e u.symm,a⟩
 have g:∀ (k:Nat) x,Bs[k]?=some x->k≠i->x.1≠B:=fun k x a f e=>f (h.nd k i x _ a hi e);refine⟨h.bel.setCell (p:=⟨B,j,none⟩) (h.new i _ hi) v,fun k x a=>?_,fun k x a=>?_,fun k l x y a r e=>?_⟩
 ·rcases o k x a with ⟨rfl,rfl⟩|⟨f,a⟩
  ·exact Qm (h.blk k _ hi) j v
  ·exact(h.blk k x a).setOther (fun e=>g k x a f e.symm) v
 ·rcases o k x a with ⟨rfl,rfl⟩|⟨f,a⟩
  ·exact h.new k (B,c,t) hi
  ·exact h.new k x a
 ·rcases o k x a with ⟨f,d⟩|⟨f,d⟩
  ·rcases o l y r with ⟨n,b⟩|⟨n,b⟩
   ·rw[f,n]
   ·rw[d] at e;exact absurd e.symm (g l y b n)
  ·rcases o l y r with ⟨n,b⟩|⟨n,b⟩
   ·rw[b] at e;exact absurd e (g k x d f)
   ·exact h.nd k l x y d b e
def ZU (c:Array Value) (j:Nat) (vs:List Value):Array Value:=(c.toList.take j++(vs++c.toList.drop (j+vs.length))).toArray
theorem QcA (c:Array Value) (j:Nat) (v:Value) (b:List Value) (h:j+(v::b).length<=c.size):ZU (c.setIfInBounds j v) (j+1) b=ZU c j (v::b):=by
 unfold ZU;congr 1
 have d:j<c.toList.length:=by simp at h |-;omega
 simp only[Array.toList_setIfInBounds]
 rw[List.take_set,List.drop_set_of_lt (by omega),XV,Zg d]
 simp only[Option.toList,List.length_cons]
 have:(c.toList.take j++[c.toList[j]]).set j v=c.toList.take j++[v]:=by
  rw[List.set_append_right _ _ (by simp;omega)]
  have a:j<c.size:=by simpa using d
  simp[Nat.min_eq_left (Nat.le_of_lt a)]
 rw[this,Nat.add_assoc,Nat.add_comm 1]
 simp
theorem Wd.setAt (h:Wd w0 w Bs) (i:Nat){c c':Array Value}{t:TypeId}{d:List (Nat × Array Value × TypeId)}(hi:Bs[i]?=some (B,c,t)) (j:Nat) (a:List Value)
 (l:Nat.ble (j+a.length) c.size=true) (m:ZU c j a=c') (g:Bs.set i (B,c',t)=d):Wd w0 (w.setCells B j a) d:=by
 have b:j+a.length<=c.size:=by simpa[Nat.ble_eq] using l
 clear l
 induction a generalizing w Bs c j with
 | nil =>
   subst g
   have:c=c':=by rw[<-m];unfold ZU;simp
   subst this
   have:Bs.set i (B,c,t)=Bs:=by
    apply List.ext_getElem?
    intro k;rw[List.getElem?_set]
    split
    ·rename_i e;subst e;rw[hi];simp[(Zi hi).1]
    ·rfl
   rw[this];exact h
 | cons v a ih =>
   have f:i<Bs.length:=(Zi hi).1;refine ih (c:=c.setIfInBounds j v) (h.set i hi j v Z Z) (by rw[List.getElem?_set];simp[f]) (j+1) ?_ ?_ ?_
   ·rw[<-m,QcA _ _ _ _ b]
   ·rw[List.set_set];exact g
   ·simp at b |-;omega
end
structure New (w w':World) (B:Nat):Prop where
 bel:Below w.heap.size w w'
 at_:B=w.heap.size
 size:w'.heap.size=B+1
section
variable {P:Program}{n:Nat}{a:Act}{L:List (Tmp × Value)}{w0 w w':World}{Bs Bs':List (Nat × Array Value × TypeId)}{Q:Exit->Act->World->Prop}{ops:Array Oper}{o:Oper}{rest:List Oper}{t:Tmp}{v:Value}
theorem QmD (e:Fr n a L) (c:Wd w0 w' Bs') (b:o.dst=none) (d:o.guard=none)
 (h:∀ K:Act->World->Prop,K a w'->o.wp P a w K Q)
 (k:∀ w',Wd w0 w' Bs'->wpList P ops Q rest a w'):wpList P ops Q (o::rest) a w :=
 QlP e b d h (k _ c)
theorem Zw {fn:Func}{R:Ending->World->Prop}(b:Fr n a L) (c:fn.results=#[.tmp t]) (d:L.lookup t=some v) (e:R (.returned v) w):bodyPost P fn R .ret a w :=
 Xy ((results_tmp c _ _ _).trans (by rw[b.sl t v d])) b.defers e
end
def Qiz (o:Oper) (j:Nat):Bool:=o.after.any fun e=>Region.binds .any e&&e.on==j
theorem Qjp {o:Oper}(h:Qiz o j=true):∃ e∈o.after,Region.binds .any e=true/\e.on=j:=by
 obtain⟨q,b,a⟩:=Array.any_eq_true.1 h
 simp only[Bool.and_eq_true,beq_iff_eq] at a
 exact⟨_,Array.getElem_mem b,a.1,a.2⟩
def Zj (L:List (Tmp × Value)):Operand->Option Value
 | .tmp t=>L.lookup t
 | .const v=>some v
 | .func f=>some (.func (.func f) #[] #[])
 | _=>none
abbrev St (n:Nat) (L:List (Tmp × Value)) (ops:Array Oper) (Q:Exit->Act->World->Prop) (l:List Oper) (w:World):Prop:=∀ a,Fr n a L->wpList prog ops Q l a w
def Gok (ops:Array Oper) (n:Nat) (L:List (Tmp × Value)):Option (Nat × Bool)->Prop
 | none=>True
 | some (g,want)=>∃ tg,(ops[g]?).bind (fun o:Oper=>o.dst)=some tg/\Nat.blt tg n=true/\L.lookup tg=some (.bool want)
section
variable {n:Nat}{a:Act}{L:List (Tmp × Value)}{w0 w:World}{Bs:List (Nat × Array Value × TypeId)}{Q:Exit->Act->World->Prop}{ops:Array Oper}{rest:List Oper}{t:Tmp}{u v:Value}{ty ty2 ty3:TypeId}{pos:String}{aft:Array Edge}{gd:Option (Nat × Bool)}{x y z:Operand}{g tg:Nat}{want b:Bool}
theorem Fr.ev (h:Fr n a L) (e:Zj L x=some v):a.eval x=v:=by
 cases x<;>simp only[Zj,Option.some.injEq,reduceCtorEq] at e
 ·exact h.sl _ _ e
 ·exact e
 ·subst e;rfl
theorem Gok.on {o:Oper}(c:Fr n a L) (h:Gok ops n L o.guard):Region.wanted o (yielded ops a.tmps)=true:=by
 cases hg:o.guard with
 | none=>simp[Region.wanted,hg]
 | some p =>
   obtain⟨g,b⟩:=p
   rw[hg] at h
   obtain⟨i,d,f,e⟩:=h
   rw[QgS c hg d f e];simp
theorem St.go {l:List Oper}(b:Fr n a L) (h:St n L ops Q l w):wpList prog ops Q l a w:=h a b
theorem rg {l:List Oper}(b:Fr n a L) (h:∀ ops,St n L ops Q l w):(Code.region id l.toArray false).wp prog Q a w:=Qap fun ops _=>h ops a b
theorem St.nil (h:∀ a,Fr n a L->Q .normal a w):St n L ops Q [] w:=h
theorem Yb:type_of% @St.nil:=@St.nil
theorem ZQ {o:Oper}(g:Gok ops n L o.guard) (f:o.dst=some t) (c:Nat.blt t n=true)
 (h:∀ ev:Operand->Value,(∀ x v,Zj L x=some v->ev x=v)->(execOp ev o).run prog w=.ok (.value v) w)
 (k:St n ((t,v)::L) ops Q rest w):St n L ops Q (o::rest) w:=fun a b =>
 wpList_step fun K d=>by
  rw[Xs (g.on b)]
  unfold Oper.wp;rw[h a.eval (fun x v e=>b.ev e),Oper.upon_value,f]
  exact d _ _ (k _ (b.put c))
theorem so {op:Op}(i:(ops[g]?).bind (fun o:Oper=>o.dst)=some tg) (c:Nat.blt tg n=true) (f:L.lookup tg=some u) (h:(match u with | .bool b=>b==want | _=>false)=false) (d:Nat.blt t n=true)
 (k:St n ((t,undef)::L) ops Q rest w):St n L ops Q (⟨some t,op,ty,pos,aft,some (g,want)⟩::rest) w:=fun a e =>
 Qm7 e Z Z i c f h d k
theorem sm (c:Gok ops n L gd) (d:Zj L x=some (v)) (b:Nat.blt t n=true)
 (k:St n ((t,v)::L) ops Q rest w):St n L ops Q (⟨some t,.move x,ty,pos,aft,gd⟩::rest) w :=
 ZQ c Z b (fun f a=>by have e:=a _ _ d;simp[go_sem,e]) k
theorem sa (c:Gok ops n L gd) (d:Zj L x=some (v)) (b:Nat.blt t n=true)
 (k:St n ((t,v)::L) ops Q rest w):St n L ops Q (⟨some t,.assign x,ty,pos,aft,gd⟩::rest) w :=
 ZQ c Z b (fun f a=>by have e:=a _ _ d;simp[go_sem,e]) k
theorem sn (d:Gok ops n L gd) (f:Zj L x=some (.bool b)) (c:Nat.blt t n=true)
 (k:St n ((t,.bool (!b))::L) ops Q rest w):St n L ops Q (⟨some t,.unOp .not ty2 x,ty,pos,aft,gd⟩::rest) w :=
 ZQ d Z c (fun g a=>by have e:=a _ _ f;simp[go_sem,e]) k
theorem sp (f:Gok ops n L gd) (b:Zj L x=some (.bool true)) (d:Zj L y=some (v)) (c:Nat.blt t n=true)
 (k:St n ((t,v)::L) ops Q rest w):St n L ops Q (⟨some t,.pick x y z,ty,pos,aft,gd⟩::rest) w :=
 ZQ f Z c (fun h a=>by have e:=a _ _ b;have g:=a _ _ d;simp[go_sem,e,g]) k
theorem spf (d:Gok ops n L gd) (b:Zj L x=some (.bool false)) (g:Zj L z=some (v)) (c:Nat.blt t n=true)
 (k:St n ((t,v)::L) ops Q rest w):St n L ops Q (⟨some t,.pick x y z,ty,pos,aft,gd⟩::rest) w :=
 ZQ d Z c (fun h a=>by have e:=a _ _ b;have f:=a _ _ g;simp[go_sem,e,f]) k
theorem seq {p q:Int}(f:Gok ops n L gd) (b:Zj L x=some (Iv p)) (d:Zj L y=some (Iv q)) (c:Nat.blt t n=true)
 (k:St n ((t,.bool (p==q))::L) ops Q rest w):St n L ops Q (⟨some t,.binOp .eql 3 x y 3,ty,pos,aft,gd⟩::rest) w :=
 ZQ f Z c (fun h a=>by have e:=a _ _ b;have g:=a _ _ d;simp[go_sem,e,g]) k
theorem sne {p q:Int}(f:Gok ops n L gd) (b:Zj L x=some (Iv p)) (d:Zj L y=some (Iv q)) (c:Nat.blt t n=true)
 (k:St n ((t,.bool (p != q))::L) ops Q rest w):St n L ops Q (⟨some t,.binOp .neq 3 x y 3,ty,pos,aft,gd⟩::rest) w :=
 ZQ f Z c (fun h a=>by have e:=a _ _ b;have g:=a _ _ d;simp[go_sem,e,g]) k
theorem slt {p q:Int}(f:Gok ops n L gd) (b:Zj L x=some (Iv p)) (d:Zj L y=some (Iv q)) (c:Nat.blt t n=true)
 (k:St n ((t,.bool (decide (p<q)))::L) ops Q rest w):St n L ops Q (⟨some t,.binOp .lss 3 x y 3,ty,pos,aft,gd⟩::rest) w :=
 ZQ f Z c (fun h a=>by have e:=a _ _ b;have g:=a _ _ d;simp[go_sem,e,g]) k
theorem sgt {p q:Int}(f:Gok ops n L gd) (b:Zj L x=some (Iv p)) (d:Zj L y=some (Iv q)) (c:Nat.blt t n=true)
 (k:St n ((t,.bool (decide (q<p)))::L) ops Q rest w):St n L ops Q (⟨some t,.binOp .gtr 3 x y 3,ty,pos,aft,gd⟩::rest) w :=
 ZQ f Z c (fun h a=>by have e:=a _ _ b;have g:=a _ _ d;simp[go_sem,e,g]) k
theorem sge {p q:Int}(f:Gok ops n L gd) (b:Zj L x=some (Iv p)) (d:Zj L y=some (Iv q)) (c:Nat.blt t n=true)
 (k:St n ((t,.bool (decide (q<=p)))::L) ops Q rest w):St n L ops Q (⟨some t,.binOp .geq 3 x y 3,ty,pos,aft,gd⟩::rest) w :=
 ZQ f Z c (fun h a=>by have e:=a _ _ b;have g:=a _ _ d;simp[go_sem,e,g]) k
theorem QoK {p q:Int}(f:Gok ops n L gd) (b:Zj L x=some (Iv p)) (d:Zj L y=some (Iv q)) (c:Nat.blt t n=true)
 (k:St n ((t,.bool (p != q))::L) ops Q rest w):St n L ops Q (⟨some t,.binOp .neq 2 x y 2,ty,pos,aft,gd⟩::rest) w :=
 ZQ f Z c (fun h a=>by have e:=a _ _ b;have g:=a _ _ d;simp[go_sem,e,g]) k
theorem Qfv (d:Gok ops n L gd) (f:Zj L x=some (.slice p m c)) (b:Nat.blt t n=true)
 (k:St n ((t,Iv (m:Int))::L) ops Q rest w):St n L ops Q (⟨some t,.call { callee:=.builtin .len,args:=#[x],argTypes:=#[76] },3,pos,aft,gd⟩::rest) w :=
 ZQ d Z b (fun g a=>by have e:=a _ _ f;simp[go_sem,e]) k
theorem QlW (d:Gok ops n L gd) (f:Zj L x=some (.slice p m c)) (b:Nat.blt t n=true)
 (k:St n ((t,Iv (m:Int))::L) ops Q rest w):St n L ops Q (⟨some t,.call { callee:=.builtin .len,args:=#[x],argTypes:=#[22] },3,pos,aft,gd⟩::rest) w :=
 ZQ d Z b (fun g a=>by have e:=a _ _ f;simp[go_sem,e]) k
def SF0 (T:TypeId) (f:Nat):Prop:=∀ {n:Nat}{L:List (Tmp × Value)}{ops:Array Oper}{Q:Exit->Act->World->Prop}{rest:List Oper}{w:World}{t:Tmp}{x:Operand}{ty:TypeId}{pos:String}{aft:Array Edge}{gd:Option (Nat × Bool)}{B j:Nat},Gok ops n L gd->Zj L x=some (Pv B j)->Nat.blt t n=true->St n ((t,Pv B j)::L) ops Q rest w->St n L ops Q (⟨some t,.fieldAddr T x f,ty,pos,aft,gd⟩::rest) w
theorem QiA {T:TypeId}(h:∀ (ev:Operand->Value) (x:Operand) (t:Tmp) (ty:TypeId) (pos:String) (aft:Array Edge) (gd:Option (Nat × Bool)) (B j:Nat) (w:World),ev x=Pv B j->(execOp ev ⟨some t,.fieldAddr T x f,ty,pos,aft,gd⟩).run prog w=.ok (.value (Pv B j)) w):SF0 T f :=
 fun d b c k=>ZQ d Z c (fun ev a=>h ev _ _ _ _ _ _ _ _ _ (a _ _ b)) k
def SF (T:TypeId) (f o:Nat):Prop:=∀ {n:Nat}{L:List (Tmp × Value)}{ops:Array Oper}{Q:Exit->Act->World->Prop}{rest:List Oper}{w:World}{t:Tmp}{x:Operand}{ty:TypeId}{pos:String}{aft:Array Edge}{gd:Option (Nat × Bool)}{B j:Nat},Gok ops n L gd->Zj L x=some (Pv B j)->Nat.blt t n=true->St n ((t,Pv B (j+o))::L) ops Q rest w->St n L ops Q (⟨some t,.fieldAddr T x f,ty,pos,aft,gd⟩::rest) w
theorem Qcp {T:TypeId}(h:∀ (ev:Operand->Value) (x:Operand) (t:Tmp) (ty:TypeId) (pos:String) (aft:Array Edge) (gd:Option (Nat × Bool)) (B j:Nat) (w:World),ev x=Pv B j->(execOp ev ⟨some t,.fieldAddr T x f,ty,pos,aft,gd⟩).run prog w=.ok (.value (Pv B (j+o))) w):SF T f o :=
 fun d b c k=>ZQ d Z c (fun ev a=>h ev _ _ _ _ _ _ _ _ _ (a _ _ b)) k
theorem sfIns0:SF0 78 0:=QiA fun _ _ _ _ _ _ _ _ _ _ e=>by simp[go_sem,e]
theorem sfIns1:SF 78 1 1:=Qcp fun _ _ _ _ _ _ _ _ _ _ e=>by simp[go_sem,e]
theorem sfIns2:SF 78 2 2:=Qcp fun _ _ _ _ _ _ _ _ _ _ e=>by simp[go_sem,e]
theorem sfIns3:SF 78 3 3:=Qcp fun _ _ _ _ _ _ _ _ _ _ e=>by simp[go_sem,e]
theorem sfIns4:SF 78 4 4:=Qcp fun _ _ _ _ _ _ _ _ _ _ e=>by simp[go_sem,e]
theorem sfIns5:SF 78 5 5:=Qcp fun _ _ _ _ _ _ _ _ _ _ e=>by simp[go_sem,e]
theorem sfIns6:SF 78 6 6:=Qcp fun _ _ _ _ _ _ _ _ _ _ e=>by simp[go_sem,e]
theorem sfIns7:SF 78 7 7:=Qcp fun _ _ _ _ _ _ _ _ _ _ e=>by simp[go_sem,e]
theorem sfModule0:SF0 24 0:=QiA fun _ _ _ _ _ _ _ _ _ _ e=>by simp[go_sem,e]
theorem sfFields0:SF0 200 0:=QiA fun _ _ _ _ _ _ _ _ _ _ e=>by simp[go_sem,e]
theorem sfFields1:SF 200 1 1:=Qcp fun _ _ _ _ _ _ _ _ _ _ e=>by simp[go_sem,e]
theorem sfFields2:SF 200 2 2:=Qcp fun _ _ _ _ _ _ _ _ _ _ e=>by simp[go_sem,e]
theorem sfFields3:SF 200 3 3:=Qcp fun _ _ _ _ _ _ _ _ _ _ e=>by simp[go_sem,e]
theorem sfFields4:SF 200 4 4:=Qcp fun _ _ _ _ _ _ _ _ _ _ e=>by simp[go_sem,e]
theorem sfFields5:SF 200 5 5:=Qcp fun _ _ _ _ _ _ _ _ _ _ e=>by simp[go_sem,e]
theorem sfFields6:SF 200 6 6:=Qcp fun _ _ _ _ _ _ _ _ _ _ e=>by simp[go_sem,e]
theorem QnS (d:w.cell? ⟨B,j,none⟩=some v) (c:Gok ops n L gd) (f:Zj L x=some (Pv B j)) (b:Nat.blt t n=true)
 (k:St n ((t,v)::L) ops Q rest w):St n L ops Q (⟨some t,.load 3 x,ty,pos,aft,gd⟩::rest) w :=
 ZQ c Z b (fun g a=>by have e:=a _ _ f;simp[go_sem,e,d]) k
theorem QbW (i:Nat){c:Array Value}(d:Wd w0 w Bs) (b:Gok ops n L gd) (f:Zj L x=some (Pv B j)) (hb:Bs[i]?=some (B,c,bt)) (e:c[j]?=some v) (a:Nat.blt t n=true)
 (k:St n ((t,v)::L) ops Q rest w):St n L ops Q (⟨some t,.load 3 x,ty,pos,aft,gd⟩::rest) w:=QnS (Qa (d.get i hb) j v e) b f a k
theorem Qnc (d:w.cell? ⟨B,j,none⟩=some v) (c:Gok ops n L gd) (f:Zj L x=some (Pv B j)) (b:Nat.blt t n=true)
 (k:St n ((t,v)::L) ops Q rest w):St n L ops Q (⟨some t,.load 2 x,ty,pos,aft,gd⟩::rest) w :=
 ZQ c Z b (fun g a=>by have e:=a _ _ f;simp[go_sem,e,d]) k
theorem QmR (i:Nat){c:Array Value}(d:Wd w0 w Bs) (b:Gok ops n L gd) (f:Zj L x=some (Pv B j)) (hb:Bs[i]?=some (B,c,bt)) (e:c[j]?=some v) (a:Nat.blt t n=true)
 (k:St n ((t,v)::L) ops Q rest w):St n L ops Q (⟨some t,.load 2 x,ty,pos,aft,gd⟩::rest) w:=Qnc (Qa (d.get i hb) j v e) b f a k
theorem Qmg (d:w.cell? ⟨B,j,none⟩=some v) (c:Gok ops n L gd) (f:Zj L x=some (Pv B j)) (b:Nat.blt t n=true)
 (k:St n ((t,v)::L) ops Q rest w):St n L ops Q (⟨some t,.load 4 x,ty,pos,aft,gd⟩::rest) w :=
 ZQ c Z b (fun g a=>by have e:=a _ _ f;simp[go_sem,e,d]) k
theorem Qdk (i:Nat){c:Array Value}(d:Wd w0 w Bs) (b:Gok ops n L gd) (f:Zj L x=some (Pv B j)) (hb:Bs[i]?=some (B,c,bt)) (e:c[j]?=some v) (a:Nat.blt t n=true)
 (k:St n ((t,v)::L) ops Q rest w):St n L ops Q (⟨some t,.load 4 x,ty,pos,aft,gd⟩::rest) w:=Qmg (Qa (d.get i hb) j v e) b f a k
theorem QmN (d:w.cell? ⟨B,j,none⟩=some v) (c:Gok ops n L gd) (f:Zj L x=some (Pv B j)) (b:Nat.blt t n=true)
 (k:St n ((t,v)::L) ops Q rest w):St n L ops Q (⟨some t,.load 76 x,ty,pos,aft,gd⟩::rest) w :=
 ZQ c Z b (fun g a=>by have e:=a _ _ f;simp[go_sem,e,d]) k
theorem QfK (i:Nat){c:Array Value}(d:Wd w0 w Bs) (b:Gok ops n L gd) (f:Zj L x=some (Pv B j)) (hb:Bs[i]?=some (B,c,bt)) (e:c[j]?=some v) (a:Nat.blt t n=true)
 (k:St n ((t,v)::L) ops Q rest w):St n L ops Q (⟨some t,.load 76 x,ty,pos,aft,gd⟩::rest) w:=QmN (Qa (d.get i hb) j v e) b f a k
theorem QlJ (d:w.cell? ⟨B,j,none⟩=some v) (c:Gok ops n L gd) (f:Zj L x=some (Pv B j)) (b:Nat.blt t n=true)
 (k:St n ((t,v)::L) ops Q rest w):St n L ops Q (⟨some t,.load 22 x,ty,pos,aft,gd⟩::rest) w :=
 ZQ c Z b (fun g a=>by have e:=a _ _ f;simp[go_sem,e,d]) k
theorem QlV (i:Nat){c:Array Value}(d:Wd w0 w Bs) (b:Gok ops n L gd) (f:Zj L x=some (Pv B j)) (hb:Bs[i]?=some (B,c,bt)) (e:c[j]?=some v) (a:Nat.blt t n=true)
 (k:St n ((t,v)::L) ops Q rest w):St n L ops Q (⟨some t,.load 22 x,ty,pos,aft,gd⟩::rest) w:=QlJ (Qa (d.get i hb) j v e) b f a k
theorem QlX {w:World}{c:Array Value}{t:TypeId}(h:Blk w B c t) (j m:Nat) (hn:Nat.ble (j+m) c.size=true):w.rangeAt B j ((c.toList.drop j).take m):=fun k v a=>by
 have b:k<((c.toList.drop j).take m).length:=(Zi a).1;have d:k<m:=by simp at b;omega
 rw[XR,Xs d,List.getElem?_drop] at a
 exact Qa h (j+k) v (by simpa using a)
theorem QiG {w:World}{c:Array Value}{t:TypeId}(h:Blk w B c t) (j n:Nat) (hn:j+n<=c.size):w.there B j n:=fun k a =>
 ⟨by rw[Qa h (j+k) c[j+k] (by simp[show j+k<c.size by omega])];rfl,Qd h (j+k)⟩
theorem Ql9 {o:Oper}(c:Array Value) (d:TypeId) (j:Wd w0 w Bs) (i:o.dst=some t) (l:Gok ops n L o.guard) (f:Nat.blt t n=true)
 (h:∀ ev:Operand->Value,(∀ x v,Zj L x=some v->ev x=v)->(execOp ev o).run prog w=.ok (.value (Pv w.heap.size 0)) (w.alloc (.cells c d)))
 (k:∀ w' B,Wd w0 w' ((B,c,d)::Bs)->New w w' B->St n ((t,Pv B 0)::L) ops Q rest w'):St n L ops Q (o::rest) w:=fun a b =>
 wpList_step fun K g=>by
  rw[Xs (l.on b)]
  unfold Oper.wp;rw[h a.eval (fun x v e=>b.ev e),Oper.upon_value,i]
  exact g _ _ (k _ _ (j.new' c d) ⟨ZR w _,Z,by simp⟩ _ (b.put f))
theorem sB {cs:Array Value}(d:Wd w0 w Bs) (c:Gok ops n L gd) (f:Zj L x=some (.agg cs)) (b:Nat.blt t n=true)
 (k:∀ w' B,Wd w0 w' ((B,cs,ty2)::Bs)->New w w' B->St n ((t,Pv B 0)::L) ops Q rest w'):St n L ops Q (⟨some t,.box ty2 x,ty,pos,aft,gd⟩::rest) w :=
 Ql9 cs ty2 d Z c b (fun g a=>by have e:=a _ _ f;simp[go_sem,e]) k
theorem Qhb (d:Wd w0 w Bs) (c:Gok ops n L gd) (a:Nat.blt t n=true)
 (k:∀ w' B,Wd w0 w' ((B,#[.bool false,.bool false,.bool false,.bool false,.bool false,.bool false,.bool false],200)::Bs)->New w w' B->St n ((t,Pv B 0)::L) ops Q rest w'):St n L ops Q (⟨some t,.alloc 200,ty,pos,aft,gd⟩::rest) w :=
 Ql9 #[.bool false,.bool false,.bool false,.bool false,.bool false,.bool false,.bool false] 200 d Z c a (fun e b=>by simp[go_sem]) k
theorem sT (i:Nat){c:Array Value}{b:List Value}(g:Wd w0 w Bs)
 (l:Zj L x=some (Pv B j)) (o:Zj L y=some (.agg b.toArray)) (hi:(prog.info? ty2).map (·.size)=some b.length) (p:b.all (·.oneCell')=true)
 (hb:Bs[i]?=some (B,c,bt)) (h:Nat.ble (j+b.length) c.size=true)
 (k:∀ w',Wd w0 w' (Bs.set i (B,ZU c j b,bt))->St n L ops Q rest w'):St n L ops Q (⟨none,.store ty2 x y,ty,pos,aft,none⟩::rest) w:=fun a d=>by
 have r:j+b.length<=c.size:=by simpa[Nat.ble_eq] using h
 refine QmD d (g.setAt i hb j b h Z Z) Z Z (fun K m=>?_) (fun w' f=>k w' f a d);have e:=d.ev l;have q:=d.ev o
 have:=run_storeAt_mid (P:=prog) w B j ty2 b.toArray (by simpa using QiG (g.get i hb) j b.length r) (by simpa using hi) (by simpa using p)
 unfold Oper.wp execOp;simp only[e,q,Sem.run_bind,this,Result.andThen_ok,Sem.run_pure]
 rw[Oper.upon_skip];simpa[Act.put] using m
theorem Qnd {o:Oper}{f:FuncId}{args:Array Value}{V:Value}(l:Wd w0 w Bs) (j:Gok ops n L o.guard) (m:Rd prog f args w V) (i:o.dst=some t) (c:Nat.blt t n=true)
 (h:∀ ev:Operand->Value,(∀ x v,Zj L x=some v->ev x=v)->(execOp ev o).run prog w=.ok (.enter f args) w)
 (k:∀ w',Wd w0 w' Bs->St n ((t,V)::L) ops Q rest w'):St n L ops Q (o::rest) w:=fun a b =>
 wpList_step fun K g=>by
  rw[Xs (j.on b)]
  unfold Oper.wp;rw[h a.eval (fun x v e=>b.ev e),Oper.upon_enter]
  refine m.mono ?_;rintro e p ⟨rfl,d⟩;rw[i]
  exact g _ _ (k _ (l.below d) _ (b.put c))
def CF (f:FuncId):Prop:=∀ (args:Array Value) (w:World),(callFunc f args).run prog w=.ok (.enter f args) w
theorem QnR {f : FuncId} {fn : Func} (hf : prog.funcs[f]? = some fn) (h1 : (fn.name == "runtime.NumGoroutine") = false) (h2 : fn.body.isNone = false) : CF f := fun args w => by
 have h3 : ¬ fn.name = "runtime.NumGoroutine" := by simpa using h1
 have h4:¬ fn.body=none:=by intro h;rw[h] at h2;cases h2
 simp[callFunc,hf,h3,h4]
theorem Qoa {f:FuncId}{ts:Array TypeId}{e:Operand}{d:Value}{V:Value}(b:CF f) (i:Wd w0 w Bs) (l:Rd prog f #[d] w V) (j:Gok ops n L gd) (m:Zj L e=some d) (g:Nat.blt t n=true)
 (k:∀ w',Wd w0 w' Bs->St n ((t,V)::L) ops Q rest w'):St n L ops Q (⟨some t,.call { callee:=.value (.func f),args:=#[e],argTypes:=ts },ty,pos,aft,gd⟩::rest) w :=
 Qnd i j l Z g (fun p a=>by have h:=a _ _ m;have o:=a (.func f) _ Z;have c:=b;unfold CF at c;simp[go_sem,o,c,h]) k
theorem cf128:CF 128:=QnR func128 (by kernel_rfl) (by kernel_rfl)
theorem infFields:(prog.info? 200).map (·.size)=some 7:=by kernel_rfl
end
def Qnm (B:Nat) (w w':World):Prop:=∀ k,k≠B->w'.heap[k]?=w.heap[k]?
theorem QbG (w:World) (B j:Nat) (a:List Value):Qnm B w (w.setCells B j a):=fun k b=>QO b a j w
theorem XM:type_of% @Nat.one_mul:=@Nat.one_mul
theorem Qbh {B:Nat}{t:TypeId}:∀ (vs:List Value) (w:World) (c:Array Value) (j:Nat),Blk w B c t->j+vs.length<=c.size->Blk (w.setCells B j vs) B (ZU c j vs) t
 | [],w,c,j,h,hs=>by
   have:ZU c j []=c:=by unfold ZU;simp
   rw[this];exact h
 | v::vs,w,c,j,h,hs=>by
   have:=Qbh vs (w.setCell ⟨B,j,none⟩ v) (c.setIfInBounds j v) (j+1) (Qm h j v) (by simp at hs |-;omega)
   rw[QcA _ _ _ _ hs] at this
   exact this
theorem QI {B b:Nat}(hb:B<=b):∀ (vs:List Value) (w w0:World) (j:Nat),Below B w0 w->Below B w0 (w.setCells b j vs)
 | [],w,w0,j,h=>h
 | v::vs,w,w0,j,h=>QI hb vs _ _ _ (h.setCell hb v)
theorem QdU (w:World) (b j:Nat) (c:List Value):w.grownBy (w.setCells b j c) (some b):=by
 have h:=QI (Xb b) c w w j (Below.refl 0 w);exact⟨h.os,h.tape,h.output,h.size,fun k d a=>QO (fun e=>a (by rw[e])) c j w⟩
section
variable {α:Type}{A:Lay α}{e:TypeId}{w:World}{lo g n:Nat}{l:List α}{xs:List Value}
theorem Qag.fill (h:Qag A e w lo (.slice (some ⟨g,0,none⟩) l.length n) l xs){x:α}(p:A.In w (fun k=>lo<=k/\k≠g) x ds) (m:l.length<n) :
 Qag A e (w.setCells g (l.length*A.size) ds) lo (.slice (some ⟨g,0,none⟩) (l.length+1) n) (l++[x]) (xs++ds):=by
 have b:=A.len p;refine Qag.push h (Yc p (fun k o _=>⟨o.1,fun e=>o.2 (by simpa[Value.ownBlock] using e.symm)⟩)) (QdU w g _ ds) (.inl Z) ?_;obtain⟨j,u⟩:=h.own
 rcases u with ⟨d,_⟩|⟨y,q,c,d,r,t,v,i,f,a⟩
 ·simp at d
 ·simp only[Value.slice.injEq,Option.some.injEq,Addr.mk.injEq,and_true,true_and] at d
  obtain⟨rfl,rfl⟩:=d
  have s:(l.length+1)*A.size<=n*A.size:=Xp _ m;rw[Nat.add_mul,XM] at s
  refine⟨by rw[List.length_append,j,b,Nat.add_mul,XM],.inr ⟨g,n,ZU c (l.length*A.size) ds,Z,r,Qbh ds w c _ t (by omega),m,i,?_,?_⟩⟩
  ·rw[<-f];unfold ZU;simp;omega
  ·unfold ZU;rw[a,Nat.add_mul,XM]
   rw[show l.length*A.size+A.size=(xs++ds).length by rw[List.length_append,j,b],List.toList_toArray,<-List.append_assoc]
   exact List.take_left' Z
end
section
variable {P:Program}{Q:Exit->Act->World->Prop}
def Z8 (l:List Oper) (S:Nat->Bool):Prop:=∀ (j:Nat) (o:Oper),l[j]?=some o->S j=true->∀ e∈o.after,Region.binds .any e=true->S e.on=true
def Qhj (o:Oper) (S:Nat->Bool):Prop:=∀ e∈o.after,Region.binds .any e=true->S e.on=true
theorem Qhj.at {o:Oper}{S:Nat->Bool}(h:Qhj o S) (j:Nat) (a:Qiz o j=true):S j=true:=by
 obtain⟨e,c,b,rfl⟩:=Qjp a
 exact h e c b
def ZF (i:Nat) (S:Nat->Bool):Nat->Bool:=fun j=>j==i||S j
def Qdd (P:Program) (l:List Oper) (I:(Nat->Bool)->Act->World->Prop):Nat->List Oper->Prop
 | _,[]=>True
 | i,o::r=>(∀ (S:Nat->Bool) (a:Act) (w:World),S i=false->Qhj o S->Z8 l S->I S a w->∀ K:Act->World->Prop,(∀ a' w',I (ZF i S) a' w'->K a' w')->o.wp P a w K (fun _ _ _=>False))/\Qdd P l I (i+1) r
theorem Qg1 {l:List Oper}{I:(Nat->Bool)->Act->World->Prop}:∀ (r:List Oper) (k i:Nat) (o:Oper),Qdd P l I k r->r[i]?=some o ->
 ∀ (S:Nat->Bool) (a:Act) (w:World),S (k+i)=false->Qhj o S->Z8 l S->I S a w->∀ K:Act->World->Prop,(∀ a' w',I (ZF (k+i) S) a' w'->K a' w')->o.wp P a w K (fun _ _ _=>False)
 | [],_,_,_,_,h=>by simp at h
 | x::r,k,0,o,h,ho=>by simp at ho;subst ho;exact h.1
 | x::r,k,i+1,o,h,ho=>by
   simp at ho
   have:=Qg1 r (k+1) i o h.2 ho
   rwa [show k+1+i=k+(i+1) by omega] at this
theorem Qjq {l:List Oper}(hb:Qcu 0 l=true) (R:(l.all fun o=>o.guard.isNone)=true) (I:(Nat->Bool)->Act->World->Prop) (H:Qdd P l I 0 l)
 (s:∀ S a w,(∀ j,j<l.length->S j=true)->I S a w->Q .normal a w) :
 ∀ (fuel:Nat) (listed:Array Bool) (a:Act) (w:World),listed.size=l.length->(listed.toList.filter (·==false)).length<=fuel->Z8 l (fun j=>listed.getD j false)->I (fun j=>listed.getD j false) a w ->
  wpAny P .any l.toArray Q fuel listed a w:=by
 have r:∀ (listed:Array Bool) (a:Act) (w:World),listed.size=l.length->Region.ready .any l.toArray listed=[]->I (fun j=>listed.getD j false) a w->Q .normal a w:=by
  intro listed a w u p m;refine s _ a w ?_ m;intro j
  induction j using Nat.strongRecOn with
  | _ j ih =>
    intro n
    cases hc:listed.getD j false with
    | true=>rfl
    | false =>
      exfalso
      have F:j<listed.size:=by omega
      have J:listed.getD j true=false:=by simp[Array.getD,F] at hc |-;exact hc
      have:j∈Region.ready .any l.toArray listed:=Zz.2 ⟨by simpa using n,J,l[j],by simp[n],fun e y b=>by
       have:=back_at l 0 j l[j] hb (by simp[n]) e y b
       exact ih e.on (by omega) (by omega)⟩
      rw[p] at this;cases this
 intro fuel
 induction fuel with
 | zero =>
   intro listed a w u T k m
   have p:Region.ready .any l.toArray listed=[]:=by
    rw[List.eq_nil_iff_forall_not_mem]
    intro i L;obtain⟨D,t,_⟩:=Zz.1 L
    have z:i<l.length:=by simpa using D
    have:listed[i]'(by omega)=false:=by
     simp[Array.getD,show i<listed.size by omega] at t;exact t
    have O:false∈listed.toList.filter (·==false):=List.mem_filter.2 ⟨by rw[<-this];simp,by simp⟩
    have:=List.length_pos_of_mem O
    omega
   exact⟨p,r listed a w u p m⟩
 | succ fuel ih =>
   intro listed a w u T k m;refine⟨fun p=>r listed a w u p m,fun i L=>?_⟩
   obtain⟨D,t,o,v,f⟩:=Zz.1 L
   have z:i<l.length:=by simpa using D
   have c:i<listed.size:=by omega
   have g:listed[i]=false:=by simp[Array.getD,c] at t;exact t
   have C:listed.getD i false=false:=by simp[Array.getD,c,g]
   have q:((listed.setIfInBounds i true).toList.filter (·==false)).length<=fuel:=by
    have h3:=filter_set listed.toList i (by simpa using c) (by simpa using g);rw[Array.toList_setIfInBounds]
    omega
   have h:(fun j=>(listed.setIfInBounds i true).getD j false)=ZF i (fun j=>listed.getD j false):=by
    funext j
    unfold ZF;by_cases e:j=i
    ·subst e;simp[Array.getD,c]
    ·have G:i≠j:=fun x=>e x.symm;rw[Za,Array.getElem?_setIfInBounds_ne G,<-Za]
     simp[e]
   unfold wpOp;rw[v]
   simp only
   have B:o.guard=none:=by
    have:=Xe.1 R o (Zm (by simpa using v))
    simpa using this
   have V:Region.wanted o (yielded l.toArray a.tmps)=true:=by unfold Region.wanted;rw[B]
   rw[V,Xs Z]
   have d:=Qg1 l 0 i o H (by simpa using v) (fun j=>listed.getD j false) a w (by rw[XK];exact C) f k m;rw[XK] at d
   refine .inl (wpq (fun X W U=>U) (d _ fun X W A=>?_));refine ih _ _ _ (by simpa using u) q ?_ (by rw[h];exact A);rw[h]
   intro j N n K e y b;unfold ZF at K |-;by_cases M:j=i
   ·subst M;have E:some N=some o:=by rw[<-n];simpa using v
    cases E
    have:=f e y b
    simp[this]
   ·have:(j==i)=false:=by simpa using M
    rw[this,Bool.false_or] at K
    have:=k j N n K e y b
    simp only at this
    simp[this]
theorem QeJ {l:List Oper}{a:Act}{w:World}(I:(Nat->Bool)->Act->World->Prop) (g:P.follows .mixedOrders=true) (c:(Qcu 0 l&&(l.all fun o=>o.guard.isNone))=true) (i:I (fun _=>false) a w.drew) (d:Qdd P l I 0 l)
 (b:∀ S a w,(∀ j,j<l.length->S j=true)->I S a w->Q .normal a w):(Code.region id l.toArray true).wp P Q a w:=by
 rw[Bool.and_eq_true] at c
 have f:(fun j=>(Array.replicate l.length false).getD j false)=fun _=>false:=by
  funext j
  rw[Za,Array.getElem?_replicate]
  split<;>rfl
 have e:=Qjq (Q:=Q) c.1 c.2 I d b l.length (Array.replicate l.length false) a w.drew (by simp) (Zt (List.length_filter_le _ _) (by simp)) (by rw[f];intro j o _ h;cases h) (by rw[f];exact i);refine wp_region_any g ?_;simpa using e
end
structure DI (n:Nat) (a0:Act) (w00:World) (ds:List Tmp) (Ti:List (Nat × Tmp)) (Ai:List (Nat × Tmp × Nat × TypeId)) (Oi:List (Nat × Tmp × Nat × TypeId)) (M:List (Tmp × Value)) (C:List (Tmp × List Value)) (S:Nat->Bool) (a:Act) (w:World):Prop where
 size:a.tmps.size=n
 defers:a.defers=[]
 outer:∀ t,ds.contains t=false->a.tmps.getD t undef=a0.tmps.getD t undef
 bel:Below w00.heap.size w00 w
 vals:∀ x∈Ti,S x.1=true->∀ v,M.lookup x.2=some v->a.tmps.getD x.2 undef=v
 new:∀ x∈Ai,S x.1=true->∃ B,a.tmps.getD x.2.1 undef=Pv B 0/\w00.heap.size<=B/\∃ c,Blk w B c x.2.2.2/\c.size=x.2.2.1
 ne:∀ x∈Ai,∀ y∈Ai,x.2.1≠y.2.1->S x.1=true->S y.1=true->a.tmps.getD x.2.1 undef≠a.tmps.getD y.2.1 undef
 did:∀ x∈Oi,S x.1=true->∀ c,C.lookup x.2.1=some c->∃ B,a.tmps.getD x.2.1 undef=Pv B 0/\Blk w B c.toArray x.2.2.2
def diB (l:List Oper) (n:Nat) (Ti:List (Nat × Tmp)) (Ai Oi:List (Nat × Tmp × Nat × TypeId)):Bool :=
 (nodupB (Ti.map (·.1))&&nodupB (Ai.map (·.1))&&nodupB (Oi.map (·.1)))&&(nodupB (Ti.map (·.2)++Ai.map (·.2.1))&&nodupB (Oi.map (·.2.1))&&((Ti.map (·.2)++Ai.map (·.2.1)).all fun t=>decide (t<n)&&(Qp l).contains t) &&
 (Oi.all fun x=>Ai.any fun y=>y.2.1==x.2.1&&y.2.2.1==x.2.2.1&&y.2.2.2==x.2.2.2&&(match l[x.1]? with | some o=>Qiz o y.1 | none=>false)))
theorem Qcg {l1 l2:List Tmp}:∀ {t:Tmp},nodupB (l1++l2)=true->t∈l1->t∈l2->False:=by
 induction l1 with
 | nil=>intro t _ h;cases h
 | cons x r ih =>
   intro t h a b;simp only[List.cons_append,nodupB,Bool.and_eq_true,Bool.not_eq_true'] at h
   rcases List.mem_cons.1 a with rfl | a
   ·have:=h.1
    simp at this
    exact this.2 b
   ·exact ih h.2 a b
theorem ZZ {α:Type}{f:α->Tmp}:∀ {l:List α},nodupB (l.map f)=true->∀ x∈l,∀ y∈l,f x=f y->x=y
 | [],_,_,h,_,_,_=>by cases h
 | z::r,h,x,hx,y,hy,e=>by
   simp only[List.map_cons,nodupB,Bool.and_eq_true,Bool.not_eq_true'] at h
   have c:∀ u∈r,f u≠f z:=fun u d e=>by
    have:=h.1
    simp at this
    exact this u d e
   rcases List.mem_cons.1 hx with b | b
   ·rcases List.mem_cons.1 hy with a | a
    ·rw[b,a]
    ·exact absurd e.symm (b ▸ c y a)
   ·rcases List.mem_cons.1 hy with a | a
    ·exact absurd e (a ▸ c x b)
    ·exact ZZ h.2 x b y a e
theorem QfT {l1 l2:List Tmp}(h:nodupB (l1++l2)=true):nodupB l2=true:=by
 induction l1 with
 | nil=>exact h
 | cons x r ih =>
   simp only[List.cons_append,nodupB,Bool.and_eq_true,Bool.not_eq_true'] at h
   exact ih h.2
section
variable {n i:Nat}{a0 a:Act}{w00 w w':World}{l:List Oper}{Ti:List (Nat × Tmp)}{Ai Oi:List (Nat × Tmp × Nat × TypeId)}{M:List (Tmp × Value)}{C:List (Tmp × List Value)}{S:Nat->Bool}{t:Tmp}{v:Value}{s:Nat}{ty:TypeId}
theorem Zh {u:Tmp}(h:t<a.tmps.size):(a.put (some t) v).tmps.getD u undef=if u=t then v else a.tmps.getD u undef:=by
 by_cases e:u=t
 ·subst e;simp[Act.put,Array.getD,h]
 ·rw[Xr e]
  have b:t≠u:=fun x=>e x.symm;rw[Za,Za]
  simp only[Act.put]
  rw[Array.getElem?_setIfInBounds_ne b]
theorem Zd (a:j≠i) (h:ZF i S j=true):S j=true:=by
 have:(j==i)=false:=by simpa using a
 unfold ZF at h;rwa [this,Bool.false_or] at h
theorem DI.pure (P:diB l n Ti Ai Oi=true) (j:DI n a0 w00 (Qp l) Ti Ai Oi M C S a w) (hi:(i,t)∈Ti) (T:M.lookup t=some v) (X:S i=false) (hb:Below w.heap.size w w')
 (D:(Ai.all fun x=>x.1 != i)=true) (s:(Oi.all fun x=>x.1 != i)=true):DI n a0 w00 (Qp l) Ti Ai Oi M C (ZF i S) (a.put (some t) v) w':=by
 simp only[diB,Bool.and_eq_true] at P
 obtain⟨E,⟨⟨A,N⟩,p⟩,V⟩:=P
 have r:t∈Ti.map (·.2):=List.mem_map.2 ⟨(i,t),hi,Z⟩;have I:=Xe.1 p t (List.mem_append_left _ r);simp only[Bool.and_eq_true,decide_eq_true_eq] at I
 have g:t<a.tmps.size:=by rw[j.size];exact I.1
 have d:∀ x∈Ai,x.2.1≠t:=fun x b e=>Qcg A r (e ▸ List.mem_map.2 ⟨x,b,Z⟩)
 have m:∀ x∈Oi,x.2.1≠t:=fun x b e=>by
  obtain⟨y,q,O⟩:=List.any_eq_true.1 (Xe.1 V x b)
  simp only[Bool.and_eq_true,beq_iff_eq] at O
  exact d y q (O.1.1.1.trans e)
 have L:∀ x∈Ai,ZF i S x.1=true->S x.1=true:=fun x b h=>Zd (by have:=Xe.1 D x b;simpa using this) h;have z:∀ x∈Oi,ZF i S x.1=true->S x.1=true:=fun x b h=>Zd (by have:=Xe.1 s x b;simpa using this) h;refine⟨by rw[<-j.size];simp[Act.put],j.defers,fun u k=>?_,Xl j.bel hb,fun x b o u k=>?_,fun x b o=>?_,fun x b y q J G K=>?_,fun x b o c Q=>?_⟩
 ·have:u≠t:=fun e=>by subst e;rw[I.2] at k;cases k
  rw[Zh g,Xr this];exact j.outer u k
 ·rw[Zh g]
  by_cases e:x.2=t
  ·rw[Xs e];rw[e,T] at k;exact Xn k
  ·rw[Xr e]
   refine j.vals x b (Zd (fun R=>e ?_) o) u k;exact congrArg (·.2) (ZZ (f:=fun x:Nat × Tmp=>x.1) E.1.1 x b (i,t) hi R)
 ·obtain⟨B,F,H,c,U,W⟩:=j.new x b (L x b o)
  exact⟨B,by rw[Zh g,Xr (d x b)];exact F,H,c,U.below hb,W⟩
 ·rw[Zh g,Xr (d x b),Zh g,Xr (d y q)]
  exact j.ne x b y q J (L x b G) (L y q K)
 ·obtain⟨B,F,H⟩:=j.did x b (z x b o) c Q
  exact⟨B,by rw[Zh g,Xr (m x b)];exact F,H.below hb⟩
theorem DI.alloc (hB:diB l n Ti Ai Oi=true) (g:DI n a0 w00 (Qp l) Ti Ai Oi M C S a w) (hi:(i,t,s,ty)∈Ai){c:Array Value}(hc:c.size=s) (hS:S i=false) (U:Z8 l S)
 (aa:(Ti.all fun x=>x.1 != i)=true) (P:(Oi.all fun x=>x.1 != i)=true):DI n a0 w00 (Qp l) Ti Ai Oi M C (ZF i S) (a.put (some t) (Pv w.heap.size 0)) (w.alloc (.cells c ty)):=by
 simp only[diB,Bool.and_eq_true] at hB
 obtain⟨R,⟨⟨z,ab⟩,H⟩,hO⟩:=hB
 have W:Below w.heap.size w (w.alloc (.cells c ty)):=ZR w _;have D:t∈Ai.map (·.2.1):=List.mem_map.2 ⟨(i,t,s,ty),hi,Z⟩;have X:=Xe.1 H t (List.mem_append_right _ D);simp only[Bool.and_eq_true,decide_eq_true_eq] at X
 have d:t<a.tmps.size:=by rw[g.size];exact X.1
 have v:∀ x∈Ti,x.2≠t:=fun x b e=>Qcg z (e ▸ List.mem_map.2 ⟨x,b,Z⟩) D;have J:∀ x∈Ai,x.2.1=t->x=(i,t,s,ty):=fun x b e=>ZZ (f:=fun x:Nat × Tmp × Nat × TypeId=>x.2.1) (QfT z) x b _ hi e;have j:∀ x∈Ai,x.2.1≠t->ZF i S x.1=true->S x.1=true:=fun x b p h=>Zd (fun e=>p (congrArg (·.2.1) (ZZ (f:=fun x:Nat × Tmp × Nat × TypeId=>x.1) R.1.2 x b _ hi e))) h;refine⟨by rw[<-g.size];simp[Act.put],g.defers,fun u A=>?_,Xl g.bel W,fun x b m u A=>?_,fun x b m=>?_,fun x b y I K E L=>?_,fun x b m O Q=>?_⟩
 ·have:u≠t:=fun e=>by subst e;rw[X.2] at A;cases A
  rw[Zh d,Xr this];exact g.outer u A
 ·rw[Zh d,Xr (v x b)]
  exact g.vals x b (Zd (by have:=Xe.1 aa x b;simpa using this) m) u A
 ·by_cases e:x.2.1=t
  ·rw[J x b e]
   exact⟨w.heap.size,by rw[Zh d,Xs Z],g.bel.size,c,Blk.new w c ty,hc⟩
  ·obtain⟨B,G,N,O,T,h4⟩:=g.new x b (j x b e m)
   exact⟨B,by rw[Zh d,Xr e];exact G,N,O,T.below W,h4⟩
 ·have lt:∀ x∈Ai,x.2.1≠t->ZF i S x.1=true->a.tmps.getD x.2.1 undef≠Pv w.heap.size 0:=fun x b e m h=>by
   obtain⟨B,G,N,O,T,h4⟩:=g.new x b (j x b e m)
   rw[G] at h
   simp at h
   have:=T.lt
   omega
  by_cases q:x.2.1=t
  ·by_cases k:y.2.1=t
   ·exact absurd (q.trans k.symm) K
   ·rw[Zh d,Xs q,Zh d,Xr k]
    exact fun h=>lt y I k L h.symm
  ·by_cases k:y.2.1=t
   ·rw[Zh d,Xr q,Zh d,Xs k]
    exact lt x b q E
   ·rw[Zh d,Xr q,Zh d,Xr k]
    exact g.ne x b y I K (j x b q E) (j y I k L)
 ·have F:S x.1=true:=Zd (by have:=Xe.1 P x b;simpa using this) m
  have p:x.2.1≠t:=fun e=>by
   obtain⟨y,I,r⟩:=List.any_eq_true.1 (Xe.1 hO x b)
   simp only[Bool.and_eq_true,beq_iff_eq] at r
   have V:=J y I (r.1.1.1.trans e)
   cases ho:l[x.1]? with
   | none=>rw[ho] at r;simp at r
   | some o =>
     rw[ho] at r
     have:=Qhj.at (U x.1 o ho F) y.1 r.2
     rw[V] at this
     simp only at this
     rw[hS] at this
     cases this
  obtain⟨B,G,N⟩:=g.did x b F O Q
  exact⟨B,by rw[Zh d,Xr p];exact G,N.below W⟩
theorem DI.box (b:DI n a0 w00 (Qp l) Ti Ai Oi M C S a w) (hi:(i,t,s,ty)∈Ai) (d:S i=true):∃ B,a.tmps.getD t undef=Pv B 0/\w00.heap.size<=B/\∃ c,Blk w B c ty/\c.size=s:=b.new _ hi d
theorem QlZ {w:World}{c:Array Value}{ty:TypeId}(h:Blk w B c ty) (a:c.size=cs.length):Blk (w.setCells B 0 cs) B cs.toArray ty:=by
 have:=Qbh cs w c 0 h (by omega)
 have e:ZU c 0 cs=cs.toArray:=by
  unfold ZU;have b:c.toList.drop (0+cs.length)=[]:=List.drop_of_length_le (by simp[a]);rw[b];simp
 rwa [e] at this
theorem DI.store (hB:diB l n Ti Ai Oi=true) (g:DI n a0 w00 (Qp l) Ti Ai Oi M C S a w) (hi:(i,t,s,ty)∈Oi){c:Array Value}(hj:(j,t,s,ty)∈Ai) (G:S j=true) (W:a.tmps.getD t undef=Pv B 0) (A:Blk w B c ty) (ad:c.size=s) (R:w00.heap.size<=B) (hC:C.lookup t=some cs) (ab:cs.length=s) (hS:S i=false) (O:Z8 l S)
 (U:(Ti.all fun x=>x.1 != i)=true) (H:(Ai.all fun x=>x.1 != i)=true):DI n a0 w00 (Qp l) Ti Ai Oi M C (ZF i S) a (w.setCells B 0 cs):=by
 simp only[diB,Bool.and_eq_true] at hB
 obtain⟨I,⟨⟨ac,q⟩,aa⟩,hO⟩:=hB
 have X:=QbG w B 0 cs;have k:=QlZ (cs:=cs) A (by omega);have V:∀ x∈Ai,ZF i S x.1=true->S x.1=true:=fun x b h=>Zd (by have:=Xe.1 H x b;simpa using this) h;refine⟨g.size,g.defers,g.outer,QI R cs w w00 0 g.bel,fun x b z u hu=>?_,fun x b z=>?_,fun x b y E Q L T=>g.ne x b y E Q (V x b L) (V y E T),fun x b z F d=>?_⟩
 ·exact g.vals x b (Zd (by have:=Xe.1 U x b;simpa using this) z) u hu
 ·obtain⟨m,v,D,F,h3,h4⟩:=g.new x b (V x b z)
  by_cases e:m=B
  ·subst e
   have:some (Obj.cells F x.2.2.2 (0,0))=some (Obj.cells c ty (0,0)):=by rw[<-h3,<-A]
   simp at this
   obtain⟨rfl,K⟩:=this
   exact⟨m,v,D,_,by rw[K];exact k,by simp;omega⟩
  ·exact⟨m,v,D,F,(X m e).trans h3,h4⟩
 ·by_cases e:x.2.1=t
  ·have J:=ZZ (f:=fun x:Nat × Tmp × Nat × TypeId=>x.2.1) q x b _ hi e;subst J;simp only at d |-
   rw[hC] at d
   cases d
   exact⟨B,W,k⟩
  ·have r:S x.1=true:=Zd (fun N=>e (congrArg (·.2.1) (ZZ (f:=fun x:Nat × Tmp × Nat × TypeId=>x.1) I.2 x b _ hi N))) z;obtain⟨m,v,D⟩:=g.did x b r F d
   have P:m≠B:=fun N=>by
    obtain⟨y,E,p⟩:=List.any_eq_true.1 (Xe.1 hO x b)
    simp only[Bool.and_eq_true,beq_iff_eq] at p
    cases ho:l[x.1]? with
    | none=>rw[ho] at p;simp at p
    | some o =>
      rw[ho] at p
      exact g.ne y E _ hj (by rw[p.1.1.1];exact e) (Qhj.at (O x.1 o ho r) y.1 p.2) G (by rw[p.1.1.1,v,N];exact W.symm)
   exact⟨m,v,(X m P).trans D⟩
theorem QlG {Q:Exit->Act->World->Prop}{K:Act->World->Prop}{c:Array Value}{d g:TypeId}{b:List Value}{x y:Tmp}{h:String}{f:Array Edge}(j:Blk w B c bt)
 (i:a.tmps.getD x undef=Pv B 0) (l:a.tmps.getD y undef=.agg b.toArray) (hi:(prog.info? d).map (·.size)=some b.length) (m:b.all (·.oneCell')=true) (o:b.length=c.size)
 (k:K a (w.setCells B 0 b)):Oper.wp prog ⟨none,.store d (.tmp x) (.tmp y),g,h,f,none⟩ a w K Q:=by
 have e:a.eval (.tmp x)=Pv B 0:=i;have n:a.eval (.tmp y)=.agg b.toArray:=l
 have:=run_storeAt_mid (P:=prog) w B 0 d b.toArray (by simpa using QiG j 0 b.length (by omega)) (by simpa using hi) (by simpa using m)
 unfold Oper.wp execOp;simp only[e,n,Sem.run_bind,this,Result.andThen_ok,Sem.run_pure]
 rw[Oper.upon_skip];simpa[Act.put] using k
end
section
variable (E:Tmp->Value->World->Prop) (W:(Nat->Bool)->World->Prop) (R:World->World->Prop) (P:Program) (l:List Oper)
def Qas (ops:Array Oper):List (Nat × Option Bool)->Prop
 | []=>True
 | (g,c)::r=>(∀ t,(ops[g]?).bind (·.dst)=some t->∀ v w,E t v w->match c with | some b=>v=.bool b | none=>v=undef)/\Qas ops r
end
section
variable {P:Program}{E:Tmp->Value->World->Prop}{W:(Nat->Bool)->World->Prop}{R:World->World->Prop}
theorem Qek {a:Array Oper}:∀ (gs:List (Nat × Option Bool)),Qas E a gs->∀ g c,gs.lookup g=some c->∀ t,(a[g]?).bind (·.dst)=some t->∀ v w,E t v w->match c with | some b=>v=.bool b | none=>v=undef
 | [],_,_,_,h=>by simp at h
 | (g',c')::r,h,g,c,hl=>by
   by_cases e:g=g'
   ·subst e;simp at hl;subst hl;exact h.1
   ·have d:(g==g')=false:=by simpa using e
    simp[List.lookup_cons,d] at hl;exact Qek r h.2 g c hl
end
def QnH (l:List Oper) (S:Nat->Bool) (t:Tmp):Prop:=t∈Qp l->∃ j o,l[j]?=some o/\o.dst=some t/\S j=true
def PEx (PX:List PanicEntry->World->Prop):Exit->Act->World->Prop:=fun e _ w=>∃ ch,e=.panic ch/\PX ch w
theorem Qog {o:Oper}{a:Act}{K f:Act->World->Prop}{PX:List PanicEntry->World->Prop}(h:∀ a w,K a w->f a w) (d:∀ e w,PEx PX e a w->Q e a w)
 (b:o.wp P a w K (PEx PX)):o.wp P a w f Q:=by
 unfold Oper.wp at *;generalize (execOp a.eval o).run P w=r at *
 cases r with
 | ok n w' =>
   cases n<;>simp only[Oper.upon] at b |- <;>
    first
     | exact h _ _ b
     | exact d _ _ b
     | exact Xm b (fun e g c=>by cases e<;>first | exact h _ _ c | exact d _ _ c | (obtain⟨x,y,i,c,_⟩:=c;cases c))
     | exact Rows.mono b (fun _ _ c=>h _ _ c)
 | halt x w'=>cases x<;>simp only[Oper.upon] at b |-<;>first | exact d _ _ b | exact b
section
variable (E:(Nat->Bool)->Tmp->Value->World->Prop) (W:(Nat->Bool)->World->Prop) (PX:List PanicEntry->World->Prop) (P:Program) (l:List Oper)
def QiB (i:Nat) (o:Oper):Prop :=
 ∀ (S:Nat->Bool) a w,S i=false->Qhj o S->Z8 l S->W S w->QeG (E S) a w (Qc3 o)->∀ K:Act->World->Prop,(∀ v w',(∀ t,QnH l S t->E S t (a.tmps.getD t undef) w->E (ZF i S) t (a.tmps.getD t undef) w')->W (ZF i S) w'->EO (E (ZF i S)) o.dst v w'->K (a.put o.dst v) w')->o.wp P a w K (PEx PX)
def QgO (i:Nat) (o:Oper):Prop:=∀ (S:Nat->Bool) (a:Act) w,S i=false->Qhj o S->Z8 l S->W S w->(W (ZF i S) w/\EO (E (ZF i S)) o.dst undef w/\∀ t,QnH l S t->E S t (a.tmps.getD t undef) w->E (ZF i S) t (a.tmps.getD t undef) w)
structure Ql1 (outs:List Tmp) (a0:Act) (listed:Array Bool) (a:Act) (w:World):Prop where
 world:W (fun j=>listed.getD j false) w
 closed:Z8 l (fun j=>listed.getD j false)
 defers:a.defers=a0.defers
 size:a.tmps.size=a0.tmps.size
 outer:∀ t,t ∉ Qp l->a.tmps[t]?=a0.tmps[t]?
 outs:∀ t∈outs,t ∉ Qp l->E (fun j=>listed.getD j false) t (a.tmps.getD t undef) w
 known:∀ j o t,l[j]?=some o->o.dst=some t->listed.getD j false=true->E (fun j=>listed.getD j false) t (a.tmps.getD t undef) w
def AllOkY:Nat->List Oper->List Bool->Prop
 | i,o::r,true::bs=>QiB E W PX P l i o/\AllOkY (i+1) r bs
 | i,o::r,false::bs=>QgO E W l i o/\AllOkY (i+1) r bs
 | _,_,_=>True
end
section
variable {P:Program}{E:(Nat->Bool)->Tmp->Value->World->Prop}{W:(Nat->Bool)->World->Prop}{PX:List PanicEntry->World->Prop}
theorem Qgx {a:List Oper}(gs:List (Nat × Option Bool)):∀ (l:List Oper) (k:Nat) (bs:List Bool),Qjn gs l bs=true->AllOkY E W PX P a k l bs->∀ (i:Nat) (o:Oper),l[i]?=some o->(onB gs o true=true/\QiB E W PX P a (k+i) o)\/(onB gs o false=true/\QgO E W a (k+i) o)
 | [],_,_,_,_,_,_,h=>by simp at h
 | _::_,_,[],h,_,_,_,_=>by simp[Qjn] at h
 | x::l,k,b::bs,h,ha,i,o,ho=>by
   simp only[Qjn,Bool.and_eq_true] at h
   cases i with
   | zero =>
     simp at ho;subst ho
     cases b with
     | true=>exact .inl ⟨h.1,ha.1⟩
     | false=>exact .inr ⟨h.1,ha.1⟩
   | succ i =>
     simp at ho
     have e:k+(i+1)=k+1+i:=by omega
     rw[e]
     cases b with
     | true=>exact Qgx gs l (k+1) bs h.2 ha.2 i o ho
     | false=>exact Qgx gs l (k+1) bs h.2 ha.2 i o ho
theorem Qds {l:List Oper}{outs:List Tmp}{gs:List (Nat × Option Bool)}{a0:Act}
 (hX:∀ ch a w,a.defers=a0.defers->PX ch w->Q (.panic ch) a w) (hB:Qbt l a0.tmps.size outs gs bs=true) (hG:∀ S,Qas (E S) l.toArray gs) (hA:AllOkY E W PX P l 0 l bs)
 (ae:∀ (vs:Tmp->Value) (S:Nat->Bool) w',(∀ j,j<l.length->S j=true)->W S w'->(∀ t,(Qp l).contains t=true->E S t (vs t) w')->Q .normal (QC a0 vs (Qp l)) w') :
 ∀ (fuel:Nat) (listed:Array Bool) (a:Act) (w:World),listed.size=l.length->(listed.toList.filter (·==false)).length<=fuel->Ql1 E W l outs a0 listed a w ->
  wpAny P .any l.toArray Q fuel listed a w:=by
 simp only[Qbt,Bool.and_eq_true] at hB
 obtain⟨⟨⟨⟨⟨al,av⟩,aa⟩,aw⟩,an⟩,ao⟩:=hB
 have ad:∀ (listed:Array Bool) (a:Act) (w:World),listed.size=l.length->Region.ready .any l.toArray listed=[]->Ql1 E W l outs a0 listed a w->Q .normal a w:=by
  intro listed a w hs T f
  have N:∀ j,j<l.length->listed.getD j false=true:=by
   intro j
   induction j using Nat.strongRecOn with
   | _ j ih =>
     intro r
     cases q:listed.getD j false with
     | true=>rfl
     | false =>
       exfalso
       have:j∈Region.ready .any l.toArray listed:=by
        unfold Region.ready;refine List.mem_filter.2 ⟨by simpa using r,?_⟩
        have e1:listed.getD j true=false:=by
         have am:j<listed.size:=by omega
         simp[Array.getD,am] at q |-;exact q
        have e2:l.toArray[j]?=some l[j]:=by simp[r]
        rw[e1,e2]
        simp only[Bool.not_false,Bool.true_and,Option.map_some,Option.getD_some]
        rw[Array.all_eq_true_iff_forall_mem]
        intro e H
        cases J:Region.binds .any e with
        | false=>rfl
        | true =>
          have:=back_at l 0 j l[j] ao (by simp[r]) e H J
          simp only[Bool.not_true,Bool.false_or]
          exact ih e.on (by omega) (by omega)
       rw[T] at this
       cases this
  have ai:∀ t∈Qp l,E (fun j=>listed.getD j false) t (a.tmps.getD t undef) w/\t<a0.tmps.size:=by
   intro t s;obtain⟨o,ho,y⟩:=List.mem_filterMap.1 s
   obtain⟨j,r⟩:=List.getElem?_of_mem ho
   have B:j<l.length:=by
    rcases Nat.lt_or_ge j l.length with h | h
    ·exact h
    ·rw[Xk h] at r;cases r
   exact⟨f.known j o t r y (N j B),by simpa using Xe.1 aa t s⟩
  have H:a=QC a0 (fun t=>a.tmps.getD t undef) (Qp l):=by
   have e1:a.tmps=(QC a0 (fun t=>a.tmps.getD t undef) (Qp l)).tmps:=by
    refine Array.ext (by rw[Qbv,f.size]) fun t U h2=>?_;have h3:t<a0.tmps.size:=by rw[<-f.size];exact U
    have:=Qc2 (fun t=>a.tmps.getD t undef) (Qp l) a0 t h3
    rw[Xj h2] at this
    by_cases hm:t∈Qp l
    ·rw[Xs hm] at this
     simp only[Option.some.injEq] at this
     rw[this];simp[Array.getD,U]
    ·rw[Xr hm,<-f.outer t hm,Xj U] at this
     exact(Xn this).symm
   have e2:a.defers=(QC a0 (fun t=>a.tmps.getD t undef) (Qp l)).defers:=by rw[Qaq,f.defers]
   cases a with
   | mk t d =>
     simp only at e1 e2
     generalize hp:QC a0 (fun x=>t.getD x undef) (Qp l)=p at e1 e2 |-
     cases p;simp only at e1 e2;rw[e1,e2]
  rw[H]
  exact ae _ _ _ N f.world fun t s=>(ai t (by simpa using s)).1
 intro fuel
 induction fuel with
 | zero =>
   intro listed a w hs hf f
   have T:Region.ready .any l.toArray listed=[]:=by
    rw[List.eq_nil_iff_forall_not_mem]
    intro i hi;obtain⟨U,h2⟩:=List.mem_filter.1 hi
    have B:i<l.length:=by simpa using U
    simp only[Bool.and_eq_true,Bool.not_eq_true'] at h2
    have:listed[i]'(by omega)=false:=by
     have:=h2.1;simp[Array.getD,show i<listed.size by omega] at this;exact this
    have hm:false∈listed.toList.filter (·==false):=List.mem_filter.2 ⟨by rw[<-this];simp,by simp⟩
    have:=List.length_pos_of_mem hm
    omega
   exact⟨T,ad listed a w hs T f⟩
 | succ fuel ih =>
   intro listed a w hs hf f;refine⟨fun T=>ad listed a w hs T f,fun i hi=>?_⟩
   obtain⟨U,h2⟩:=List.mem_filter.1 hi
   have B:i<l.length:=by simpa using U
   simp only[Bool.and_eq_true,Bool.not_eq_true'] at h2
   obtain⟨ak,m⟩:=h2
   have K:i<listed.size:=by omega
   have R:listed[i]=false:=by simp[Array.getD,K] at ak;exact ak
   have ho:l.toArray[i]?=some l[i]:=by simp[B]
   have n:l[i]?=some l[i]:=by simp[B]
   generalize a1:l[i]=o at ho n;rw[ho] at m
   simp only[Option.map_some,Option.getD_some] at m
   rw[Array.all_eq_true_iff_forall_mem] at m
   have z:∀ t∈o.looksAt l.toArray,E (fun j=>listed.getD j false) t (a.tmps.getD t undef) w:=by
    intro t s
    have:=Xe.1 (Xe.1 aw o (Zm n)) t s
    rw[Bool.or_eq_true] at this
    rcases this with h | h
    ·simp only[Bool.and_eq_true,Bool.not_eq_true'] at h
     exact f.outs t (by simpa using h.1) (by simpa using h.2)
    ·obtain⟨k,hk,h⟩:=Array.any_eq_true.1 h
     simp only[Bool.and_eq_true,beq_iff_eq] at h
     obtain⟨q,y⟩:=h
     have M:=m _ (Array.getElem_mem hk);rw[q] at M
     simp only[Bool.not_true,Bool.false_or] at M
     generalize o.after[k]=e at *;obtain⟨oj,ar,ax⟩:=Option.bind_eq_some_iff.1 y
     exact f.known e.on oj t (by simpa using ar) ax M
   have ay:QeG (E (fun j=>listed.getD j false)) a w (Qc3 o):=Qex _ fun t s=>z t (by
    unfold Oper.looksAt;exact List.mem_append_left _ s)
   have hw:∀ b,onB gs o b=true->Region.wanted o (yielded l.toArray a.tmps)=b:=by
    intro b q;unfold onB at q;unfold Region.wanted
    cases hg:o.guard with
    | none=>rw[hg] at q;simp only at q |-;exact q.symm
    | some gw =>
      obtain⟨g,az⟩:=gw
      rw[hg] at q
      simp only at q |-
      cases M:gs.lookup g with
      | none=>rw[M] at q;cases q
      | some c =>
        rw[M] at q
        simp only[beq_iff_eq] at q
        have hy:yielded l.toArray a.tmps g=c:=by
         unfold yielded;have aq:(g,c)∈gs:=mem_of_lookup gs g c M;have G:=Xe.1 al _ aq
         cases y:(l.toArray[g]?).bind (·.dst) with
         | none=>rw[y] at G;cases G
         | some t =>
           have hE:=z t (by unfold Oper.looksAt;rw[hg];simp only[y];simp);have I:=Qek gs (hG _) g c M t y _ _ hE;obtain⟨og,au,ap⟩:=Option.bind_eq_some_iff.1 y
           have ac:t<a.tmps.size:=by
            rw[f.size]
            have:=Xe.1 aa t (List.mem_filterMap.2 ⟨og,Zm (by simpa using au),ap⟩)
            simpa using this
           have s:a.tmps[t]?=some (a.tmps.getD t undef):=by simp[Array.getD,ac]
           simp only[Option.bind_some,s]
           cases c with
           | none=>simp only at I;rw[I];rfl
           | some b=>simp only at I;rw[I]
        rw[hy,q]
   have O:((listed.setIfInBounds i true).toList.filter (·==false)).length<=fuel:=by
    have h3:=filter_set listed.toList i (by simpa using K) (by simpa using R);rw[Array.toList_setIfInBounds]
    omega
   have u:(fun j=>(listed.setIfInBounds i true).getD j false)=ZF i (fun j=>listed.getD j false):=by
    funext j
    unfold ZF;by_cases e:j=i
    ·subst e;simp[Array.getD,K]
    ·have X:i≠j:=fun x=>e x.symm;rw[Za,Array.getElem?_setIfInBounds_ne X,<-Za]
     simp[e]
   have F:Qhj o (fun j=>listed.getD j false):=fun e H q=>by
    have:=m e H
    rw[q] at this
    simpa using this
   have aj:(fun j=>listed.getD j false) i=false:=by simp[Array.getD,K,R]
   have L:∀ v w',W (ZF i (fun j=>listed.getD j false)) w'->(∀ t,QnH l (fun j=>listed.getD j false) t->E (fun j=>listed.getD j false) t (a.tmps.getD t undef) w->E (ZF i (fun j=>listed.getD j false)) t (a.tmps.getD t undef) w')->EO (E (ZF i (fun j=>listed.getD j false))) o.dst v w'->Ql1 E W l outs a0 (listed.setIfInBounds i true) (a.put o.dst v) w':=by
    intro v w' V A I
    have D:∀ t,o.dst≠some t->(a.put o.dst v).tmps[t]?=a.tmps[t]?:=by
     intro t s
     cases y:o.dst with
     | none=>rfl
     | some d =>
       have:d≠t:=fun e=>s (by rw[y,e])
       simp[Act.put,this]
    have C:∀ (b c:Array Value) (t:Nat),b[t]?=c[t]?->b.getD t undef=c.getD t undef:=by
     intro b c t h;rw[Za,Za,h]
    refine⟨by rw[u];exact V,?_,?_,?_,?_,?_,?_⟩
    ·rw[u]
     intro j oj r hS e H J;unfold ZF at hS |-;by_cases e':j=i
     ·subst e';rw[n] at r
      obtain rfl:=Xn r
      have:=F e H J
      simp only at this
      simp[this]
     ·have:(j==i)=false:=by simpa using e'
      rw[this,Bool.false_or] at hS
      have:=f.closed j oj r hS e H J
      simp only at this
      simp[this]
    ·rw[<-f.defers];cases o.dst<;>rfl
    ·rw[<-f.size];cases o.dst<;>simp[Act.put]
    ·intro t s;rw[D t (fun e=>s (List.mem_filterMap.2 ⟨o,Zm n,e⟩)),f.outer t s]
    ·intro t s hn;rw[C _ _ t (D t (fun e=>hn (List.mem_filterMap.2 ⟨o,Zm n,e⟩)))]
     rw[u]
     exact A _ (fun h=>absurd h hn) (f.outs t s hn)
    ·intro j oj t r y af;by_cases ab:j=i
     ·subst ab;rw[n] at r
      obtain rfl:=Xn r
      have ac:t<a.tmps.size:=by
       rw[f.size]
       have:=Xe.1 aa t (List.mem_filterMap.2 ⟨o,Zm n,y⟩)
       simpa using this
      rw[y] at I |-
      have:(a.put (some t) v).tmps.getD t undef=v:=by simp[Act.put,Array.getD,ac]
      rw[this,u];exact I
     ·have X:o.dst≠some t:=fun e=>ab (nodup_apart l j i oj o t av r n y e);rw[C _ _ t (D t X)]
      have ah:i≠j:=fun e=>ab e.symm
      have ag:listed.getD j false=true:=by
       rw[Za,Array.getElem?_setIfInBounds_ne ah] at af
       rw[Za];exact af
      rw[u]
      exact A _ (fun _=>⟨j,oj,r,y,ag⟩) (f.known j oj t r y ag)
   unfold wpOp;rw[ho]
   simp only
   rcases Qgx gs l 0 bs an hA i o n with ⟨h,A⟩|⟨h,A⟩
   ·rw[hw true h,Xs Z]
    refine .inl (Qog (fun a' w' hh=>hh) (fun e w' H=>by obtain⟨ch,rfl,hp⟩:=H;exact hX ch _ _ f.defers hp) ((XK i ▸ A) (fun j=>listed.getD j false) a w aj F f.closed f.world ay _ fun v w' T V I=>?_));exact ih _ _ _ (by simpa using hs) O (L v w' V T I)
   ·rw[hw false h]
    simp only[Bool.false_eq_true,if_false]
    have hO:=(XK i ▸ A) (fun j=>listed.getD j false) a w aj F f.closed f.world;exact ih _ _ _ (by simpa using hs) O (L undef w hO.1 hO.2.2 hO.2.1)
theorem ZH {l:List Oper}{outs:List Tmp}{gs:List (Nat × Option Bool)}{a:Act}
 (E:(Nat->Bool)->Tmp->Value->World->Prop) (W:(Nat->Bool)->World->Prop) (PX:List PanicEntry->World->Prop) (p:∀ ch a' w,a'.defers=a.defers->PX ch w->Q (.panic ch) a' w)
 (g:P.follows .mixedOrders=true)  (hn:a.tmps.size=m) (c:n<=m) (e:Qbt l n outs gs bs=true)
 (u:∀ S,Qas (E S) l.toArray gs) (q:W (fun _=>false) w.drew) (s:Qbw (E (fun _=>false)) a w.drew outs)
 (r:AllOkY E W PX P l 0 l bs)
 (b:∀ (vs:Tmp->Value) (S:Nat->Bool) w',(∀ j,j<l.length->S j=true)->W S w'->(∀ t,(Qp l).contains t=true->E S t (vs t) w')->Q .normal (QC a vs (Qp l)) w') :
 (Code.region id l.toArray true).wp P Q a w:=by
 refine wp_region_any g ?_
 have d:(fun j=>(Array.replicate l.length false).getD j false)=fun _=>false:=by
  funext j
  rw[Za,Array.getElem?_replicate]
  split<;>rfl
 have k:l.toArray.size=l.length:=by simp
 rw[k]
 refine Qds p (QbA (hn ▸ c) e) u r b _ _ _ _ (by simp) ?_ ⟨by rw[d];exact q,(by rw[d];intro j o _ h;cases h),Z,Z,fun _ _=>rfl,(fun t f _=>by rw[d];exact QcV outs s t f),?_⟩
 ·simp only[Array.toList_replicate]
  exact Zt (List.length_filter_le _ _) (by simp)
 ·intro j o t x v i;simp[Array.getD] at i
end
section
variable (E:Tmp->Value->World->Prop) (W:World->Prop) (R:World->World->Prop) (PX:List PanicEntry->World->Prop) (P:Program)
def QlD (o:Oper):Prop :=
 ∀ a w,W w->QeG E a w (Qc3 o)->∀ K:Act->World->Prop,(∀ v w',R w w'->W w'->EO E o.dst v w'->K (a.put o.dst v) w')->o.wp P a w K (PEx PX)
def AllOkC:List Oper->List Bool->Prop
 | o::r,true::bs=>QlD E W R PX P o/\AllOkC r bs
 | o::r,false::bs=>(∀ w,W w->EO E o.dst undef w)/\AllOkC r bs
 | _,_=>True
end
section
variable {P:Program}{E:Tmp->Value->World->Prop}{W:World->Prop}{R:World->World->Prop}{PX:List PanicEntry->World->Prop}
theorem QgZ {e:List Oper}(c:∀ t v w w',R w w'->E t v w->E t v w'):∀ (l:List Oper) (bs:List Bool) (k:Nat),AllOkC E W R PX P l bs->AllOkY (fun _=>E) (fun _=>W) PX P e k l bs
 | [],bs,k,h=>by cases bs<;>trivial
 | o::r,[],k,h=>trivial
 | o::r,true::bs,k,h=>⟨fun S a w _ _ _ b m K g=>h.1 a w b m K (fun v w' d i j=>g v w' (fun t _ f=>c t _ w w' d f) i j),QgZ c r bs (k+1) h.2⟩
 | o::r,false::bs,k,h=>⟨fun S a w _ _ _ b=>⟨b,h.1 w b,fun _ _ h=>h⟩,QgZ c r bs (k+1) h.2⟩
theorem ZJ {l:List Oper}{outs:List Tmp}{gs:List (Nat × Option Bool)}{a:Act}
 (E:Tmp->Value->World->Prop) (W:World->Prop) (R:World->World->Prop) (PX:List PanicEntry->World->Prop) (i:∀ ch a' w,a'.defers=a.defers->PX ch w->Q (.panic ch) a' w)
 (g:P.follows .mixedOrders=true)  (hn:a.tmps.size=m) (c:n<=m) (f:Qbt l n outs gs bs=true)
 (e:∀ t v w w',R w w'->E t v w->E t v w') (o:Qas E l.toArray gs) (d:W w.drew) (k:Qbw E a w.drew outs)
 (j:AllOkC E W R PX P l bs)
 (b:∀ (vs:Tmp->Value) w',W w'->(∀ t,(Qp l).contains t=true->E t (vs t) w')->Q .normal (QC a vs (Qp l)) w') :
 (Code.region id l.toArray true).wp P Q a w :=
 ZH (fun _=>E) (fun _=>W) PX i g hn c f (fun _=>o) d k (QgZ e l bs 0 j) (fun vs _ w' _ d h=>b vs w' d h)
end
section
variable {P:Program}{E:Tmp->Value->World->Prop}{W:World->Prop}{R:World->World->Prop}
theorem eoB (o:Option Tmp)(a:W w) (h:EO E o v w):EO (fun t v w=>W w/\E t v w) o v w:=by
 cases o with
 | none=>exact h
 | some t=>exact⟨a,h⟩
theorem knB (a:Act) (w:World):∀ l,QeG (fun t v w=>W w/\E t v w) a w l->QeG E a w l
 | [],h=>h
 | _::r,h=>⟨h.1.2,knB a w r h.2⟩
theorem QnI (d:∀ t v w w',R w w'->E t v w->E t v w'):∀ (l:List Oper) (bs:List Bool),Qfe E W R P l bs->AllOkC (fun t v w=>W w/\E t v w) W (fun w w'=>R w w'/\W w') (fun _ _=>False) P l bs
 | [],bs,h=>by cases bs<;>trivial
 | o::r,[],h=>trivial
 | o::r,true::bs,h=>⟨fun a w b i K f=>wpq (fun _ _ h=>h) (h.1 a w b (knB a w _ i) K (fun v w' e c g=>f v w' ⟨e,c⟩ c (eoB o.dst c g))),QnI d r bs h.2⟩
 | o::r,false::bs,h=>⟨fun w b=>eoB o.dst b (h.1 w b),QnI d r bs h.2⟩
theorem guB {a:Array Oper}:∀ gs,QbQ E W a gs->Qas (fun t v w=>W w/\E t v w) a gs
 | [],h=>h
 | _::r,h=>⟨fun t c v w b=>h.1 t c v w b.1 b.2,guB r h.2⟩
theorem ouB {a:Act}{w:World}(b:W w):∀ l,Qbw E a w l->Qbw (fun t v w=>W w/\E t v w) a w l
 | [],h=>h
 | _::r,h=>⟨⟨b,h.1⟩,ouB b r h.2⟩
theorem Qu {l:List Oper}{outs:List Tmp}{gs:List (Nat × Option Bool)}{a:Act}
 (E:Tmp->Value->World->Prop) (W:World->Prop) (R:World->World->Prop)
 (j:P.follows .mixedOrders=true)  (hn:a.tmps.size=m) (c:n<=m) (i:Qbt l n outs gs bs=true)
 (e:∀ t v w w',R w w'->E t v w->E t v w') (s:QbQ E W l.toArray gs) (f:W w.drew) (r:Qbw E a w.drew outs)
 (q:Qfe E W R P l bs)
 (b:∀ (vs:Tmp->Value) w',W w'->(∀ t,(Qp l).contains t=true->E t (vs t) w')->Q .normal (QC a vs (Qp l)) w') :
 (Code.region id l.toArray true).wp P Q a w :=
 ZJ _ W _ (fun _ _=>False) (fun _ _ _ _ h=>h.elim) j hn c i (fun t v w w' d k=>⟨d.2,e t v w w' d.1 k.2⟩) (guB gs s) f (ouB f outs r) (QnI e l bs q) (fun vs w' o p=>b vs w' o (fun t g=>(p t g).2))
end
theorem XT:type_of% @Int.toNat_natCast:=@Int.toNat_natCast
structure Qk where
 kind:Int
 region:Int
 thing:Int
 n:Int
structure Qs where
 arr:Bool
 l:List Qk
structure Ql where
 there:Bool
 l:List Qs
 pages:Nat
 used:Int
structure Qc where
 L:List Ql
 left:Nat
def Qk.bare (v:Qk):Qk:=if v.kind=1 then ⟨1,0,0,v.n⟩ else if v.kind=2 then ⟨2,v.region,0,0⟩ else if v.kind=3\/v.kind=4 then ⟨v.kind,v.region,v.thing,0⟩ else ⟨v.kind,0,0,0⟩
def ZE (x:Int):Prop:=-9223372036854775808<=x/\x<=9223372036854775807
def Qk.ok (v:Qk):Prop:=ZE v.kind/\ZE v.region/\ZE v.thing/\ZE v.n
def Qs.knd (t:Qs):Int:=if t.arr then 4 else 3
def noV:Qk:=⟨0,0,0,0⟩
def Qaz (n:Int):Qk:=⟨1,0,0,n⟩
def noP:Ql:=⟨false,[],0,0⟩
def newP:Ql:=⟨true,[],0,0⟩
def Qc.new (pages:Nat):Qc:=⟨[],pages⟩
def Qc.live (h:Qc):Nat:=(h.L.filter (·.there)).length
def Qc.place (h:Qc) (k:Int):Option Ql:=if k<0 then none else match h.L[k.toNat]? with
 | none=>none
 | some p=>if p.there then some p else none
def Qc.open_ (h:Qc):Qk × Bool × Qc:=if 16<=h.live then (noV,false,h) else (⟨2,h.L.length,0,0⟩,true,{ h with L:=h.L++[newP] })
def Qc.at (h:Qc) (v:Qk):Option Ql:=if v.kind=2 then h.place v.region else none
def Qc.shut (h:Qc) (v:Qk):Bool × Qc:=match h.at v with
 | none=>(false,h)
 | some p=>(true,⟨h.L.set v.region.toNat noP,h.left+p.pages⟩)
def Ql.tight (p:Ql) (words:Int):Bool:=decide (p.pages=0)||decide (words>16 - p.used)
def Ql.more (p:Ql) (t:Qs) (words:Int):Ql:=if p.tight words then ⟨p.there,p.l++[t],p.pages+1,words⟩ else ⟨p.there,p.l++[t],p.pages,p.used+words⟩
def Qc.put (h:Qc) (v:Qk) (t:Qs) (words:Int):Qk × Int × Qc:=match h.at v with
 | none=>(noV,20,h)
 | some p=>if p.tight words/\h.left=0 then (noV,14,h)
   else (⟨if t.arr then 4 else 3,v.region,p.l.length,0⟩,0,⟨h.L.set v.region.toNat (p.more t words),if p.tight words then h.left - 1 else h.left⟩)
def Qc.tuple (h:Qc) (v:Qk) (l:List Qk):Qk × Int × Qc:=h.put v ⟨false,l⟩ (if l.length=0 then 1 else l.length)
def Qc.array (h:Qc) (v:Qk) (n:Int):Qk × Int × Qc:=if n<0\/15<n then (noV,1,h) else h.put v ⟨true,List.replicate n.toNat (Qaz 0)⟩ (n+1)
def Qc.thing (h:Qc) (v:Qk):Option Qs:=if v.kind=3\/v.kind=4 then (match h.place v.region with
 | none=>none
 | some p=>if v.thing<0 then none else match p.l[v.thing.toNat]? with
   | none=>none
   | some t=>if t.arr=decide (v.kind=4) then some t else none) else none
def Qc.get (h:Qc) (v:Qk) (k:Int):Qk × Int:=match h.thing v with
 | none=>(noV,20)
 | some t=>if k<0 then (noV,1) else match t.l[k.toNat]? with
   | none=>(noV,1)
   | some x=>(x,0)
def Qc.set (h:Qc) (v:Qk) (k:Int) (x:Qk):Int × Qc:=match h.thing v,h.place v.region with
 | some t,some p=>if t.arr=true/\x.kind≠1 then (20,h) else if k<0\/t.l.length<=k.toNat then (1,h)
   else (0,{ h with L:=h.L.set v.region.toNat { p with l:=p.l.set v.thing.toNat { t with l:=t.l.set k.toNat x } } })
 | _,_=>(20,h)
def Qc.len (h:Qc) (v:Qk):Int × Int:=match h.thing v with
 | none=>(0,20)
 | some t=>(t.l.length,0)
theorem Qc.place_nat (h:Qc) (k:Nat):h.place (k:Int)=match h.L[k]? with
 | none=>none
 | some p=>if p.there then some p else none:=by
 unfold Qc.place;rw[Xr (by omega),XT]
theorem Qc.place_some {h:Qc}{k:Int}{p:Ql}(e:h.place k=some p):0<=k/\h.L[k.toNat]?=some p/\p.there=true:=by
 unfold Qc.place at e;split at e
 ·cases e
 ·rename_i c
  refine⟨by omega,?_⟩
  split at e
  ·cases e
  ·rename_i q a
   split at e
   ·rename_i b;cases e;exact⟨a,b⟩
   ·cases e
theorem Qc.place_of {h:Qc}{p:Ql}(e:h.L[k]?=some p) (a:p.there=true):h.place (k:Int)=some p:=by rw[h.place_nat,e];simp[a]
theorem Qc.place_set {h:Qc}(b:k<h.L.length) (p:Ql) (n:Nat) (j:Int):Qc.place ⟨h.L.set k p,n⟩ j=if j=k then (if p.there then some p else none) else h.place j:=by
 unfold Qc.place;by_cases a:j<0
 ·rw[Xs a,Xr (by omega),Xs a]
 ·rw[Xr a,Xr a]
  by_cases e:j=k
  ·subst e;simp[b]
  ·rw[Xr e,List.getElem?_set_ne (by omega)]
theorem Qc.place_push (h:Qc) (p:Ql) (j:Int) (n:Nat):Qc.place ⟨h.L++[p],n⟩ j=if j=h.L.length then (if p.there then some p else none) else h.place j:=by
 unfold Qc.place;by_cases a:j<0
 ·rw[Xs a,Xr (by omega),Xs a]
 ·rw[Xr a,Xr a]
  by_cases e:j=h.L.length
  ·subst e;simp
  ·rw[Xr e]
   rcases Nat.lt_or_ge j.toNat h.L.length with b | b
   ·simp[List.getElem?_append,b]
   ·rw[XQ b,Xk b,Xk (by simp;omega)]
theorem Qc.live_push (h:Qc) (n:Nat):Qc.live ⟨h.L++[newP],n⟩=h.live+1:=by simp[Qc.live,newP]
theorem QbJ {α:Type}(f:α->Bool) (q:α):∀ (l:List α) (k:Nat) (p:α),l[k]?=some p->((l.set k q).filter f).length+(if f p then 1 else 0)=(l.filter f).length+(if f q then 1 else 0)
 | [],_,_,h=>by simp at h
 | x::r,0,p,h=>by
   simp at h;subst h
   simp only[List.set_cons_zero,List.filter_cons]
   cases f x<;>cases f q<;>simp
 | x::r,k+1,p,h=>by
   have a:=QbJ f q r k p (by simpa using h);simp only[List.set_cons_succ,List.filter_cons]
   cases f x<;>simp<;>omega
theorem Qc.live_set {h:Qc}{p q:Ql}(e:h.L[k]?=some p) (n:Nat):Qc.live ⟨h.L.set k q,n⟩+(if p.there then 1 else 0)=h.live+(if q.there then 1 else 0):=QbJ (fun x:Ql=>x.there) q h.L k p e
structure HOk (N T:Nat) (h:Qc):Prop where
 len:h.L.length<=N
 things:∀ (k:Nat) (p:Ql),h.L[k]?=some p->p.l.length<=N
 used:∀ (k:Nat) (p:Ql),h.L[k]?=some p->0<=p.used/\p.used<=N
 pages:h.left+(h.L.map (·.pages)).sum<=T
theorem Qjs {l:List Ql}{p:Ql}(e:l[k]?=some p):p.pages<=(l.map (·.pages)).sum:=by
 induction l generalizing k with
 | nil=>simp at e
 | cons x r ih =>
   cases k with
   | zero=>simp at e;subst e;simp
   | succ k=>have:=ih (k:=k) (by simpa using e);simp;omega
theorem sum_set:∀ (l:List Ql) (k:Nat) (p q:Ql),l[k]?=some p->((l.set k q).map (·.pages)).sum+p.pages=(l.map (·.pages)).sum+q.pages
 | [],_,_,_,h=>by simp at h
 | x::r,0,p,q,h=>by simp at h;subst h;simp only[List.set_cons_zero,List.map_cons,List.sum_cons];omega
 | x::r,k+1,p,q,h=>by have:=sum_set r k p q (by simpa using h);simp only[List.set_cons_succ,List.map_cons,List.sum_cons];omega
theorem QbC {l:List Ql}{q p:Ql}(e:(l.set k q)[j]?=some p):p=q\/l[j]?=some p:=by
 by_cases a:j=k
 ·subst a;rcases Nat.lt_or_ge j l.length with h | h
  ·simp[h] at e;exact .inl e.symm
  ·rw[Xk (by simpa using h)] at e;cases e
 ·rw[List.getElem?_set_ne (Ne.symm a)] at e;exact .inr e
theorem Xq:type_of% @Decidable.not_not:=@Decidable.not_not
def Qmo {n:Nat}(l:List (TT n)):Prop:=l.length<=8/\∀ t∈l,∃ regs:Int,regs<=16/\t.check regs=0
structure MBlock.fine {n:Nat}(x:MBlock n) (funcs:Nat):Prop where
 regs:0<=x.regs/\x.regs<=16
 params:Qmo x.params
 code:∀ y∈x.code,y.form funcs=0
 fin:∃ nb,nb<=12/\x.fin.form nb=0
structure MFunc.fine {n:Nat}(x:MFunc n) (funcs:Nat):Prop where
 regs:0<=x.regs/\x.regs<=6
 params:Qmo x.params
 results:Qmo x.results
 blocks:∀ y∈x.blocks,y.fine funcs
theorem Zq {α:Type}{f:Nat->α->Int × Int}:∀ {l:List α}{j:Nat},(firstF f j l).1=0->∀ (i:Nat) x,l[i]?=some x->(f (j+i) x).1=0
 | [],j,h,i,x,hx=>by simp at hx
 | y::l,j,h,i,x,hx=>by
   rw[firstF] at h
   by_cases a:(f j y).1=0
   ·rw[Xr (by simpa using a)] at h
    cases i with
    | zero=>simp at hx;subst hx;exact a
    | succ i =>
      have:=Zq h i x (by simpa using hx)
      rwa [show j+1+i=j+(i+1) by omega] at this
   ·rw[Xs a] at h
    exact absurd h a
theorem Qlw {regs:Int}{l:List (TT n)}(a:regs<=16) (h:listC regs l=0):Qmo l:=by
 unfold listC at h;split at h
 ·cases h
 ·exact⟨by omega,fun t b=>⟨regs,a,QP.1 h t b⟩⟩
theorem QkU {a:Nat}{fn:MFunc n}{x:MBlock n}(k:0<=fn.regs) (hb:fn.blocks.length<=12) (h:(MBlock.fault a f fn b x).1=0):x.fine a:=by
 unfold MBlock.fault at h;split at h
 ·cases h
 rename_i l
 split at h
 ·rename_i d;exact absurd h d
 rename_i d
 split at h
 ·cases h
 split at h
 ·cases h
 split at h
 ·rename_i e;exact absurd h e
 rename_i e
 split at h
 ·rename_i c;exact absurd h c
 rename_i c
 refine⟨by omega,Qlw (by omega) (Xq.1 d),fun y g=>?_,_,hb,Xq.1 c⟩
 obtain⟨i,j⟩:=List.getElem?_of_mem g
 exact Zq (Xq.1 e) i y j
theorem Ql2 {a:Nat}{x:MFunc n}(h:(MFunc.fault a f x).1=0):x.fine a:=by
 unfold MFunc.fault at h;split at h
 ·cases h
 rename_i g
 split at h
 ·rename_i c;exact absurd h c
 rename_i c
 split at h
 ·rename_i b;exact absurd h b
 rename_i b
 split at h
 ·cases h
 rename_i j
 split at h
 ·cases h
 refine⟨by omega,Qlw (by omega) (Xq.1 c),Qlw (by omega) (Xq.1 b),fun y d=>?_⟩
 obtain⟨i,e⟩:=List.getElem?_of_mem d
 exact QkU (by omega) (by omega) (Zq h i y e)
theorem Qmt {m:List (MFunc n)}(h:(modFault m).1=0):∀ x∈m,x.fine m.length:=by
 unfold modFault at h;split at h
 ·cases h
 intro x a;obtain⟨i,b⟩:=List.getElem?_of_mem a
 exact Ql2 (Zq h i x b)
theorem QjD {a:Nat}{x:Qx}(h:x.form a=0):(QJ x.op).isNone=false/\x.formless=false/\(x.op=2->1<=x.k/\x.k<=9)/\(x.args.length<=8\/x.op≠5/\x.op≠14)/\(x.op=14->x.regs.length<=6):=by
 unfold Qx.form at h;split at h
 ·cases h
 split at h
 ·cases h
 split at h
 ·cases h
 split at h
 ·cases h
 split at h
 ·cases h
 split at h
 ·cases h
 split at h
 ·cases h
 rename_i b c g i f d e
 refine⟨Bool.eq_false_iff.2 b,Bool.eq_false_iff.2 c,by omega,by omega,by omega⟩
theorem Qkv {b:Nat}{e:MEnd}(hb:b<=12) (h:e.form b=0):(e.op=1\/e.op=2\/e.op=3)/\(e.op≠2->e.a=0)/\(e.op≠3->e.args=[])/\e.args.length<=8/\e.yes.form b (decide (e.op≠3))=0/\e.no.form b (decide (e.op=2))=0:=by
 unfold MEnd.form at h;split at h
 ·cases h
 split at h
 ·cases h
 split at h
 ·cases h
 split at h
 ·rename_i c;exact absurd h c
 rename_i c i g d
 refine⟨by omega,by omega,fun f=>Xf.1 (by omega),by omega,Xq.1 d,h⟩
theorem Qc5 {t:TT n}{regs:Int}(h:t.check regs=0):t.height<=4/\t.fault regs=0:=by
 unfold TT.check at h;split at h
 ·cases h
 ·exact⟨by omega,h⟩
theorem QkR {op:Int}(h:(QJ op).isNone=false):op=1\/op=2\/op=3\/op=4\/op=5\/op=6\/op=7\/op=8\/op=9\/op=10\/op=11\/op=12\/op=13\/op=14:=by
 unfold QJ at h;repeat' split at h
 all_goals first | omega | cases h
theorem Xo:type_of% @Nat.le_of_not_lt:=@Nat.le_of_not_lt
def MTo.small (x:MTo):Prop:=x.regs.length<=100000/\x.args.length<=100000
def Qx.small (x:Qx):Prop:=x.regs.length<=100000/\x.args.length<=100000
def MEnd.small (x:MEnd):Prop:=x.yes.small/\x.no.small/\x.args.length<=100000
def QcH {n:Nat}(l:List (TT n)):Prop:=l.length<=100000/\∀ t∈l,t.count<=100000
def MBlock.small {n:Nat}(x:MBlock n):Prop:=x.code.length<=100000/\QcH x.params/\x.fin.small/\∀ y∈x.code,y.small
def MFunc.small {n:Nat}(x:MFunc n):Prop:=x.blocks.length<=100000/\QcH x.params/\QcH x.results/\∀ y∈x.blocks,y.small
def Qcz {n:Nat}(m:List (MFunc n)):Prop:=m.length<=100000/\∀ x∈m,x.small
theorem QdF {l:List (TT n)}(h:¬ ZO l):QcH l:=⟨Zt (Xo fun x=>h (.inl x)) (by decide),fun t a=>Zt (Xo fun x=>h (.inr ⟨t,a,x⟩)) (by decide)⟩
theorem MBlock.small_of {x:MBlock n}(h:¬ x.great):x.small:=by
 unfold MBlock.great at h;simp only[not_or,not_exists,not_and,Nat.not_lt] at h
 obtain⟨f,d,g,j,i,c,e,a⟩:=h
 exact⟨Zt f (by decide),QdF d,⟨⟨Zt j (by decide),Zt i (by decide)⟩,⟨Zt c (by decide),Zt e (by decide)⟩,Zt g (by decide)⟩,fun y b=>⟨Zt (a y b).1 (by decide),Zt (a y b).2 (by decide)⟩⟩
theorem MFunc.small_of {x:MFunc n}(h:¬ x.great):x.small:=by
 unfold MFunc.great at h;simp only[not_or,not_exists,not_and,Nat.not_lt] at h
 obtain⟨b,d,c,e⟩:=h
 exact⟨Zt b (by decide),QdF d,QdF c,fun y a=>MBlock.small_of (e y a)⟩
theorem Qbq {m:List (MFunc n)}(h:¬ QS m):Qcz m:=by
 unfold QS at h;simp only[not_or,not_exists,not_and,Nat.not_lt] at h
 exact⟨Zt h.1 (by decide),fun x a=>MFunc.small_of (h.2 x a)⟩
theorem XN:type_of% @List.length_map:=@List.length_map
theorem QdB {α:Type}{f g:α->Nat}:∀ {l:List α},(∀ x∈l,f x<=g x)->(l.map f).sum<=(l.map g).sum
 | [],_=>Ze
 | x::xs,h=>by
   have c:=h x (by simp);have b:=QdB (f:=f) (g:=g) (l:=xs) (fun y a=>h y (by simp[a]));simp only[List.map_cons,List.sum_cons]
   omega
def TT.at:{n:Nat}->(k:Nat)->TT n->TT (k+1)
 | 0,_,t=>Empty.elim t
 | n+1,0,t=>(t.1,t.2.1,[])
 | n+1,k+1,t=>(t.1,t.2.1,t.2.2.map (TT.at (n:=n) k))
theorem TT.at_kind:{n:Nat}->(k:Nat)->(t:TT n)->(t.at k).kind=t.kind
 | 0,_,t=>Empty.elim t
 | n+1,0,t=>rfl
 | n+1,k+1,t=>rfl
theorem TT.at_r:{n:Nat}->(k:Nat)->(t:TT n)->(t.at k).r=t.r
 | 0,_,t=>Empty.elim t
 | n+1,0,t=>rfl
 | n+1,k+1,t=>rfl
theorem TT.at_len:{n:Nat}->(k:Nat)->(t:TT n)->t.height<=k->(t.at k).len=t.len
 | 0,_,t,_=>Empty.elim t
 | n+1,0,t,h=>by
   have:=(Zo (t:=t)).1 h
   show 0=t.2.2.length
   cases hx:t.2.2 with
   | nil=>rfl
   | cons x l=>have:=this x (by rw[hx];simp);omega
 | n+1,k+1,t,h=>by
   show (t.2.2.map _).length=_;rw[XN];rfl
theorem TIn.at {w:World}{O:Nat->Prop}:{n:Nat}->(k:Nat)->{t:TT n}->{a:Option Addr}->t.height<=k->TIn w O t a->TIn w O (t.at k) a
 | 0,_,t,_,_,_=>Empty.elim t
 | n+1,0,t,a,h,hi=>fun i x c=>by simp[TT.at] at c
 | n+1,k+1,t,a,h,hi=>fun i x c=>by
   have b:(t.2.2.map (TT.at k))[i]?=some x:=c;rw[XS,Option.map_eq_some_iff] at b
   obtain⟨y,f,rfl⟩:=b
   have d:y.height<=k:=by have:=(Zo (t:=t)).1 h y (Zm f);omega
   obtain⟨g,o,r,j,e,m,p,l,q,s⟩:=hi i y f
   refine⟨g,o,r,j,e,m,?_,?_,?_,TIn.at k d s⟩
   ·rw[TT.at_kind];exact p
   ·rw[TT.at_r];exact l
   ·rw[TT.at_len k y d];exact q
theorem TT.at_ok:{n:Nat}->(k:Nat)->{t:TT n}->t.ok->(t.at k).ok
 | 0,_,t,_=>Empty.elim t
 | n+1,0,t,h=>⟨h.1,fun x a=>by cases a⟩
 | n+1,k+1,t,h=>⟨h.1,fun x a=>by
   obtain⟨y,b,rfl⟩:=List.mem_map.1 a
   exact TT.at_ok k (h.2 y b)⟩
theorem TT.at_count:{n:Nat}->(k:Nat)->(t:TT n)->(t.at k).count<=t.count
 | 0,_,t=>Empty.elim t
 | n+1,0,t=>by show 1+0<=1+_;omega
 | n+1,k+1,t=>by
   show 1+((t.2.2.map (TT.at k)).map TT.count).sum<=1+(t.2.2.map TT.count).sum;rw[List.map_map]
   have:=QdB (l:=t.2.2) (f:=TT.count ∘ TT.at k) (g:=TT.count) fun x a=>TT.at_count k x
   omega
def MBlock.at {n:Nat}(k:Nat) (x:MBlock n):MBlock (k+1):=⟨x.regs,x.params.map (TT.at k),x.code,x.fin⟩
def MFunc.at {n:Nat}(k:Nat) (x:MFunc n):MFunc (k+1):=⟨x.regs,x.params.map (TT.at k),x.results.map (TT.at k),x.blocks.map (MBlock.at k)⟩
def QfJ {n:Nat}(k:Nat) (l:List (TT n)):Prop:=∀ t∈l,t.height<=k
def MBlock.flat {n:Nat}(k:Nat) (x:MBlock n):Prop:=QfJ k x.params
def MFunc.flat {n:Nat}(k:Nat) (x:MFunc n):Prop:=QfJ k x.params/\QfJ k x.results/\∀ y∈x.blocks,y.flat k
theorem Lay.list_map {α β:Type}{A:Lay α}{B:Lay β}{f:α->β}{w:World}{O:Nat->Prop}{l:List α}{cs:List Value}(m:A.size=B.size) (p:∀ x∈l,∀ ds,A.In w O x ds->B.In w O (f x) ds) (h:A.list.In w O l cs):B.list.In w O (l.map f) cs:=by
 obtain⟨a,c,e,h⟩:=h
 refine⟨a,c,by rw[e,XN],fun i x d=>?_⟩
 rw[XS,Option.map_eq_some_iff] at d
 obtain⟨y,b,rfl⟩:=d
 obtain⟨g,o,ds,n,k,j,r,q⟩:=h i y b
 exact⟨g,o,ds,n,k,j,by rw[<-m];exact r,p y (Zm b) ds q⟩
section
variable {w:World}{O:Nat->Prop}{n:Nat}{cs:List Value}
theorem QeC {l:List (TT n)}(b:QfJ k l) (h:(Qt n).In w O l cs):(Qt (k+1)).In w O (l.map (TT.at k)) cs :=
 Lay.list_map (A:=Lay.tt n) (B:=Lay.tt (k+1)) Z (fun x d i ⟨a,c,e,f,g⟩=>⟨a,c,by rw[e,TT.at_kind,TT.at_r,TT.at_len k x (b x d)],f.at k (b x d),TT.at_ok k g⟩) h
theorem QlM {m:List (MFunc n)}(h:(modFault m).1=0):∀ x∈m,x.flat 5:=by
 have a:∀ {l:List (TT n)},Qmo l->QfJ 5 l:=fun h t c=>by
  obtain⟨r,_,e⟩:=h.2 t c
  have:=(Qc5 e).1
  omega
 intro x f;have b:=Qmt h x f;exact⟨a b.params,a b.results,fun y d=>a (b.blocks y d).params⟩
end
theorem Xc:type_of% @Int.eq_ofNat_of_zero_le:=@Int.eq_ofNat_of_zero_le
def Qa7 (L:List Bool) (r:Int):Bool:=decide (0<=r)&&L.getD r.toNat false
def hTo (L:List Bool):Nat->List Int
 | 0=>[]
 | k+1=>hTo L k++(if L.getD k false then [(k:Int)] else [])
def hList (L:List Bool):List Int:=hTo L L.length
def inB (l:List Int) (x:Int):Bool:=l.contains x
def Qaa (L:List Bool):List Int->List Int->Int
 | ahead,[]=>if (hList L).all (fun r=>inB ahead r) then 0 else 12
 | ahead,r::rest=>if Qa7 L r then (if inB ahead r then 13 else Qaa L (ahead++[r]) rest) else 10
theorem QbP (L:List Bool)(h:L.length<=k):L.getD k false=false:=by
 simp[List.getD,List.getElem?_eq_none h]
theorem QjL (L:List Bool):∀ k,(hTo L k).length<=k:=by
 intro k
 induction k with
 | zero=>simp[hTo]
 | succ k ih =>
   rw[hTo]
   split<;>simp<;>omega
theorem Qe4 (L:List Bool):(hList L).length<=L.length:=QjL L _
theorem QlQ (L:List Bool) (r:Int):∀ k,r∈hTo L k↔0<=r/\r<k/\L.getD r.toNat false=true:=by
 intro k
 induction k with
 | zero=>simp[hTo];omega
 | succ k ih =>
   rw[hTo,List.mem_append,ih]
   constructor
   ·rintro (⟨b,f,a⟩ | h)
    ·exact⟨b,by omega,a⟩
    ·split at h
     ·rename_i d
      simp at h
      subst h;exact⟨by omega,by omega,by simpa using d⟩
     ·simp at h
   ·rintro ⟨b,f,a⟩;rcases Nat.lt_or_ge r.toNat k with c | c
    ·exact .inl ⟨b,by omega,a⟩
    ·have e:r=(k:Int):=by omega
     subst e;right
     simp only[Int.toNat_natCast] at a
     rw[a];simp
theorem QiI (L:List Bool) (r:Int):r∈hList L↔Qa7 L r=true:=by
 rw[hList,QlQ,Qa7]
 constructor
 ·rintro ⟨c,_,b⟩;rw[b];simp[c]
 ·intro h;simp only[Bool.and_eq_true,decide_eq_true_eq] at h
  refine⟨h.1,?_,h.2⟩
  rcases Nat.lt_or_ge r.toNat L.length with a | a
  ·omega
  ·rw[QbP L a] at h;simp at h
theorem Qe0 (L:List Bool) (k:Nat):Qa7 L (k:Int)=L.getD k false:=by simp[Qa7]
theorem Qe5 {L:List Bool}{r:Int}(h:Qa7 L r=true):∃ k:Nat,r=(k:Int)/\k<L.length/\L.getD k false=true:=by
 simp only[Qa7,Bool.and_eq_true,decide_eq_true_eq] at h
 obtain⟨k,rfl⟩:=Xc h.1
 have b:L.getD k false=true:=by simpa using h.2
 refine⟨k,Z,?_,b⟩
 rcases Nat.lt_or_ge k L.length with a | a
 ·exact a
 ·rw[QbP L a] at b;cases b
theorem Qc7 {x:Int}:inB l x=true↔x∈l:=by simp[inB]
theorem Qkz (l:List Int) (x y:Int):inB (l++[x]) y=(inB l y||decide (x=y)):=by
 rw[Bool.eq_iff_iff,Qc7,Bool.or_eq_true,Qc7,decide_eq_true_eq,List.mem_append,List.mem_singleton]
 exact⟨fun h=>h.imp id Eq.symm,fun h=>h.imp id Eq.symm⟩
theorem Qie (L:List Bool) (l:List Int){x:Int}(a:l[k]?=some x) :
 Qaa L (l.take k) (l.drop k)=if Qa7 L x then (if inB (l.take k) x then 13 else Qaa L (l.take (k+1)) (l.drop (k+1))) else 10:=by
 obtain⟨b,e⟩:=Zi a
 rw[List.drop_eq_getElem_cons b,e,Qaa,XV,a]
 rfl
theorem Qjz (L:List Bool) (l:List Int)(a:l.length<=k):Qaa L (l.take k) (l.drop k)=if (hList L).all (fun r=>inB l r) then 0 else 12:=by
 rw[List.drop_of_length_le a,XO a,Qaa]
def QcT (n:Int):List Bool:=List.replicate (min n 16).toNat true
structure JSt where
 m:List (MFunc 6)
 f:MFunc 6
 H:List Bool
 L:List (TT 6)
def JSt.at (s:JSt) (k:Int):Option (TT 6):=if k<0 then none else s.L[k.toNat]?
def JSt.want (s:JSt) (k kind:Int) (held:Bool):Int:=match s.at k with
 | none=>1
 | some t=>if t.kind=kind then (if held&&!Qa7 s.H t.r then 10 else 0) else 9
def code2 (a b:Int):Int:=if a=0 then b else a
noncomputable def JSt.arg (s:JSt) (regs:List Int) (k:Int) (t:TT 6):Int:=match s.at k with
 | none=>1
 | some u=>if bdec (t.ren regs.length (fun i=>regs.getD i 0)=some u) then 0 else 9
noncomputable def JSt.args (s:JSt) (l:List Int) (ts:List (TT 6)) (regs:List Int):Int :=
 if l.length=ts.length then QD (fun p:Int × TT 6=>s.arg regs p.1 p.2) (l.zip ts) else 2
def zeroTT:TT 6:=mkT 0 0 []
def tInt:TT 6:=mkT 1 0 []
def QfQ (regs:List Int) (t:TT 6):TT 6:=(t.ren regs.length (fun i=>regs.getD i 0)).getD zeroTT
def QW (H:List Bool):List Int->List Int->Int
 | _,[]=>0
 | ahead,r::rest=>if Qa7 H r then (if inB ahead r then 13 else QW H (ahead++[r]) rest) else 10
def JSt.fields (s:JSt):List Int->Option (List (TT 6))
 | []=>some []
 | k::r=>match s.at k with
   | none=>none
   | some t=>match s.fields r with
     | none=>none
     | some l=>some (t::l)
noncomputable def JSt.makes (s:JSt) (x:Qx):Int × List (TT 6) :=
 if x.op=1\/x.op=12 then (0,[tInt])
 else if x.op=2 then (code2 (s.want x.a 1 false) (s.want x.b 1 false),[tInt])
 else if x.op=3 then (if s.H.length=16 then (2,[]) else (0,[mkT 2 s.H.length []]))
 else if x.op=4 then (match s.at x.a with
  | none=>(1,[])
  | some t=>(code2 (s.want x.a 2 true) (if t.r<s.f.regs then 11 else 0),[]))
 else if x.op=5 then (match s.at x.a with
  | none=>(1,[])
  | some t=>if s.want x.a 2 true=0 then (match s.fields x.args with
   | none=>(1,[])
   | some l=>if 4<TT.height (n:=7) (mkT 3 t.r l) then (19,[]) else (0,[TT.at (n:=7) 5 (mkT 3 t.r l)]))
   else (s.want x.a 2 true,[]))
 else if x.op=6 then (match s.at x.a with
  | none=>(1,[])
  | some t=>if s.want x.a 3 true=0 then (match t.2.2[x.k.toNat]? with
   | none=>(9,[])
   | some u=>(0,[u.at 5]))
   else (s.want x.a 3 true,[]))
 else if x.op=7 then (match s.at x.a with
  | none=>(1,[])
  | some t=>if s.want x.a 3 true=0 then (match t.2.2[x.k.toNat]? with
   | none=>(9,[])
   | some u=>(match s.at x.b with
     | none=>(1,[])
     | some v=>if bdec (u.at 5=v) then (0,[]) else (9,[])))
   else (s.want x.a 3 true,[]))
 else if x.op=8 then (match s.at x.a with
  | none=>(1,[])
  | some t=>(code2 (s.want x.a 2 true) (s.want x.b 1 false),[mkT 4 t.r []]))
 else if x.op=9 then (code2 (s.want x.a 4 true) (s.want x.b 1 false),[tInt])
 else if x.op=10 then (code2 (s.want x.a 4 true) (code2 (s.want x.b 1 false) (s.want x.c 1 false)),[])
 else if x.op=11 then (s.want x.a 4 true,[tInt])
 else if x.op=13 then (s.want x.a 1 false,[])
 else (match s.m[x.k.toNat]? with
  | none=>(0,[])
  | some g=>if (x.regs.length:Int)=g.regs then
   (code2 (QW s.H [] x.regs) (s.args x.args g.params x.regs),g.results.map (QfQ x.regs))
   else (2,[]))
noncomputable def JSt.code (s:JSt) (x:Qx):Int :=
 if x.form s.m.length≠0 then x.form s.m.length
 else if (s.makes x).1≠0 then (s.makes x).1
 else if 80<s.L.length+(s.makes x).2.length then 2 else 0
noncomputable def JSt.next (s:JSt) (x:Qx):JSt :=
 { s with
  H:=if x.op=3 then s.H++[true] else if x.op=4 then s.H.set (match s.at x.a with | none=>0 | some t=>t.r.toNat) false else s.H
  L:=s.L++(s.makes x).2 }
noncomputable def JSt.ins (s:JSt) (x:Qx):JSt:=if s.code x=0 then s.next x else s
def Qey (n:Nat) (regs:List Int):Int:=if (List.range n).all (fun (i:Nat)=>decide (regs.getD i 0=(i:Int))) then 0 else 11
noncomputable def JSt.to (s:JSt) (t:MTo):Int:=match s.f.blocks[t.block.toNat]? with
 | none=>0
 | some b=>if (t.regs.length:Int)=b.regs then
  code2 (Qey s.f.regs.toNat t.regs) (code2 (Qaa s.H [] t.regs) (s.args t.args b.params t.regs))
  else 2
def Qa9 (n:Nat):List Int:=(List.range n).map (fun (i:Nat)=>(i:Int))
noncomputable def JSt.fin (s:JSt) (e:MEnd):Int :=
 if e.form s.f.blocks.length≠0 then e.form s.f.blocks.length
 else if e.op=1 then s.to e.yes
 else if e.op=2 then code2 (s.want e.a 1 false) (code2 (s.to e.yes) (s.to e.no))
 else code2 (s.args e.args s.f.results (Qa9 s.f.regs.toNat)) (if (hList s.H).all (fun r=>decide (r<s.f.regs)) then 0 else 12)
theorem Qab {s:JSt}{x:Qx}(h:x.op=1\/x.op=12):s.makes x=(0,[tInt]):=by
 unfold JSt.makes;rw[Xs h]
theorem Qbo {s:JSt}{x:Qx}(h:x.op=2):s.makes x=(code2 (s.want x.a 1 false) (s.want x.b 1 false),[tInt]):=by
 unfold JSt.makes;rw[Xr (by omega),Xs h]
theorem Qbs {s:JSt}{x:Qx}(h:x.op=3):s.makes x=(if s.H.length=16 then (2,[]) else (0,[mkT 2 s.H.length []])):=by
 unfold JSt.makes;rw[Xr (by omega),Xr (by omega),Xs h]
theorem Z2 {s:JSt}{x:Qx}(h:x.op=4):s.makes x=(match s.at x.a with
 | none=>(1,[])
 | some t=>(code2 (s.want x.a 2 true) (if t.r<s.f.regs then 11 else 0),[])):=by
 unfold JSt.makes;rw[Xr (by omega),Xr (by omega),Xr (by omega),Xs h]
theorem QaQ {s:JSt}{x:Qx}(h:x.op=5):s.makes x=(match s.at x.a with
 | none=>(1,[])
 | some t=>if s.want x.a 2 true=0 then (match s.fields x.args with
  | none=>(1,[])
  | some l=>if 4<TT.height (n:=7) (mkT 3 t.r l) then (19,[]) else (0,[TT.at (n:=7) 5 (mkT 3 t.r l)]))
  else (s.want x.a 2 true,[])):=by
 unfold JSt.makes;rw[Xr (by omega),Xr (by omega),Xr (by omega),Xr (by omega),Xs h]
theorem Qb7 {s:JSt}{x:Qx}(h:x.op=6):s.makes x=(match s.at x.a with
 | none=>(1,[])
 | some t=>if s.want x.a 3 true=0 then (match t.2.2[x.k.toNat]? with
  | none=>(9,[])
  | some u=>(0,[u.at 5]))
  else (s.want x.a 3 true,[])):=by
 unfold JSt.makes;rw[Xr (by omega),Xr (by omega),Xr (by omega),Xr (by omega),Xr (by omega),Xs h]
theorem Qca {s:JSt}{x:Qx}(h:x.op=7):s.makes x=(match s.at x.a with
 | none=>(1,[])
 | some t=>if s.want x.a 3 true=0 then (match t.2.2[x.k.toNat]? with
  | none=>(9,[])
  | some u=>(match s.at x.b with
    | none=>(1,[])
    | some v=>if bdec (u.at 5=v) then (0,[]) else (9,[])))
  else (s.want x.a 3 true,[])):=by
 unfold JSt.makes;rw[Xr (by omega),Xr (by omega),Xr (by omega),Xr (by omega),Xr (by omega),Xr (by omega),Xs h]
theorem Qa3 {s:JSt}{x:Qx}(h:x.op=8):s.makes x=(match s.at x.a with
 | none=>(1,[])
 | some t=>(code2 (s.want x.a 2 true) (s.want x.b 1 false),[mkT 4 t.r []])):=by
 unfold JSt.makes;rw[Xr (by omega),Xr (by omega),Xr (by omega),Xr (by omega),Xr (by omega),Xr (by omega),Xr (by omega),Xs h]
theorem QaD {s:JSt}{x:Qx}(h:x.op=9):s.makes x=(code2 (s.want x.a 4 true) (s.want x.b 1 false),[tInt]):=by
 unfold JSt.makes;rw[Xr (by omega),Xr (by omega),Xr (by omega),Xr (by omega),Xr (by omega),Xr (by omega),Xr (by omega),Xr (by omega),Xs h]
theorem Qan {s:JSt}{x:Qx}(h:x.op=10):s.makes x=(code2 (s.want x.a 4 true) (code2 (s.want x.b 1 false) (s.want x.c 1 false)),[]):=by
 unfold JSt.makes;rw[Xr (by omega),Xr (by omega),Xr (by omega),Xr (by omega),Xr (by omega),Xr (by omega),Xr (by omega),Xr (by omega),Xr (by omega),Xs h]
theorem Qbc {s:JSt}{x:Qx}(h:x.op=11):s.makes x=(s.want x.a 4 true,[tInt]):=by
 unfold JSt.makes;rw[Xr (by omega),Xr (by omega),Xr (by omega),Xr (by omega),Xr (by omega),Xr (by omega),Xr (by omega),Xr (by omega),Xr (by omega),Xr (by omega),Xs h]
theorem Qbe {s:JSt}{x:Qx}(h:x.op=13):s.makes x=(s.want x.a 1 false,[]):=by
 unfold JSt.makes;rw[Xr (by omega),Xr (by omega),Xr (by omega),Xr (by omega),Xr (by omega),Xr (by omega),Xr (by omega),Xr (by omega),Xr (by omega),Xr (by omega),Xr (by omega),Xs h]
theorem QaN {s:JSt}{x:Qx}(h:x.op=14):s.makes x=(match s.m[x.k.toNat]? with
 | none=>(0,[])
 | some g=>if (x.regs.length:Int)=g.regs then
  (code2 (QW s.H [] x.regs) (s.args x.args g.params x.regs),g.results.map (QfQ x.regs))
  else (2,[])):=by
 unfold JSt.makes;rw[Xr (by omega),Xr (by omega),Xr (by omega),Xr (by omega),Xr (by omega),Xr (by omega),Xr (by omega),Xr (by omega),Xr (by omega),Xr (by omega),Xr (by omega),Xr (by omega)]
def JSt.start (m:List (MFunc 6)) (f:MFunc 6) (b:MBlock 6):JSt:=⟨m,f,QcT b.regs,b.params⟩
theorem Qkg {k r:Int}{len:Nat}{a b:Int}(c:a<=b) (h:ownC k r len a=0):ownC k r len b=0:=by
 unfold ownC at h |-;split at h
 ·cases h
 split at h
 ·cases h
 split at h
 ·cases h
 split at h
 ·cases h
 split at h
 ·cases h
 rename_i d f e g i
 rw[Xr d,Xr f,Xr e,Xr g,Xr (by omega)]
theorem Qef {a b:Int}(c:a<=b):{n:Nat}->{t:TT n}->t.fault a=0->t.fault b=0
 | 0,t,_=>Empty.elim t
 | n+1,t,h=>by
   obtain⟨f,e⟩:=TT.fault_zero h
   simp only[TT.fault,Qkg c f,ne_eq,not_true_eq_false,if_false]
   exact QP.2 fun x d=>Qef c (e x d)
theorem Zy {t:TT n}{r:Int}:t.check r=0↔t.height<=4/\t.fault r=0:=by
 constructor
 ·exact Qc5
 ·intro h;unfold TT.check;rw[Xr (by omega)];exact h.2
theorem QbB {t:TT n}{a b:Int}(c:a<=b) (h:t.check a=0):t.check b=0:=by
 rw[Zy] at h |-
 exact⟨h.1,Qef c h.2⟩
def capT:Nat->Nat
 | 0=>1
 | h+1=>1+8*capT h
theorem sum_le_mul:∀ (l:List Nat) (c:Nat),(∀ x∈l,x<=c)->l.sum<=l.length*c
 | [],_,_=>by simp
 | x::xs,c,h=>by
   have d:=h x (by simp);have b:=sum_le_mul xs c (fun y a=>h y (by simp[a]));simp only[List.sum_cons,List.length_cons,Nat.add_mul]
   omega
theorem Qjt {t:TT (n+1)}{r:Int}(h:t.fault r=0):t.2.2.length<=8:=by
 have:=(TT.fault_zero h).1
 unfold ownC at this;split at this
 ·cases this
 split at this
 ·cases this
 split at this
 ·cases this
 split at this
 ·cases this
 omega
theorem Qfl {r:Int}:{n:Nat}->{t:TT n}->(h:Nat)->t.height<=h->t.fault r=0->t.count<=capT h
 | 0,t,_,_,_=>Empty.elim t
 | n+1,t,0,hh,hf=>by
   have:=Zo.1 hh
   have e:t.2.2=[]:=by
    cases a:t.2.2 with
    | nil=>rfl
    | cons x l=>have:=this x (by rw[a];simp);omega
   simp only[TT.count,e,capT]
   simp
 | n+1,t,h+1,hh,hf=>by
   have g:=Zo.1 hh;have d:=(TT.fault_zero hf).2
   have b:=sum_le_mul (t.2.2.map TT.count) (capT h) (fun c f=>by
    obtain⟨x,a,rfl⟩:=List.mem_map.1 f
    exact Qfl h (by have:=g x a;omega) (d x a))
   have i:=Qjt hf;rw[XN] at b
   have j:t.2.2.length*capT h<=8*capT h:=Xp _ i;simp only[TT.count,capT]
   omega
theorem QbM {t:TT n}{r:Int}(h:t.check r=0):t.count<=4681:=by
 have:=Qfl 4 (Zy.1 h).1 (Zy.1 h).2
 have e:capT 4=4681:=rfl;omega
theorem TT.height_lt:{n:Nat}->(t:TT n)->t.height<n
 | 0,t=>Empty.elim t
 | n+1,t=>by
   have:t.height<=n:=Zo.2 fun x a=>by have:=TT.height_lt x;omega
   omega
theorem TT.at_height:{n:Nat}->(k:Nat)->(t:TT n)->t.height<=k->(t.at k).height=t.height
 | 0,_,t,_=>Empty.elim t
 | n+1,0,t,h=>by
   have b:t.height=0:=by omega
   rw[b]
   rfl
 | n+1,k+1,t,h=>by
   have c:=Zo.1 h;show ((t.2.2.map (TT.at k)).map (fun x=>1+TT.height x)).foldl max 0=(t.2.2.map (fun x=>1+TT.height x)).foldl max 0;rw[List.map_map]
   congr 1
   refine List.map_congr_left fun x a=>?_;show 1+(x.at k).height=1+x.height;rw[TT.at_height k x (by have:=c x a;omega)]
theorem TT.at_fault {r:Int}:{n:Nat}->(k:Nat)->(t:TT n)->t.height<=k->(t.at k).fault r=t.fault r
 | 0,_,t,_=>Empty.elim t
 | n+1,0,t,h=>by
   have b:=Zo.1 h
   have e:t.2.2=[]:=by
    cases a:t.2.2 with
    | nil=>rfl
    | cons x l=>have:=b x (by rw[a];simp);omega
   show (if ownC t.1 t.2.1 0 r≠0 then ownC t.1 t.2.1 0 r else QD _ [])=_;simp only[TT.fault,e,List.length_nil,QD]
 | n+1,k+1,t,h=>by
   have b:=Zo.1 h;show (if ownC t.1 t.2.1 (t.2.2.map (TT.at k)).length r≠0 then ownC t.1 t.2.1 (t.2.2.map (TT.at k)).length r else QD (TT.fault r) (t.2.2.map (TT.at k)))=_;rw[XN]
   have:QD (TT.fault r) (t.2.2.map (TT.at k))=QD (TT.fault r) t.2.2:=by
    refine QcC (by simp) fun i x y a c=>?_;rw[XS,c] at a
    simp only[Option.map_some,Option.some.injEq] at a
    rw[<-a]
    exact TT.at_fault k y (by have:=b y (Zm c);omega)
   rw[this]
   rfl
theorem TT.at_check (k:Nat) (t:TT n) (h:t.height<=k) (r:Int):(t.at k).check r=t.check r:=by
 unfold TT.check;rw[TT.at_height k t h,TT.at_fault k t h]
theorem QiH {m:Nat}{too:Nat->Int}{a b:Int}(q:a<=m) (d:∀ i,i<m->0<=too i/\too i<b):{n:Nat}->{t:TT n}->t.fault a=0->∃ u,t.ren m too=some u/\u.fault b=0
 | 0,t,_=>Empty.elim t
 | n+1,t,h=>by
   obtain⟨c,v⟩:=TT.fault_zero h
   have j:∃ f,Qah m too t.1 t.2.1=some f/\ownC t.1 f t.2.2.length b=0:=by
    unfold ownC at c;split at c
    ·cases c
    split at c
    ·cases c
    split at c
    ·cases c
    split at c
    ·cases c
    split at c
    ·cases c
    rename_i A F B z L
    by_cases C:t.1=1
    ·refine⟨t.2.1,by rw[Qah,Xs C],?_⟩
     unfold ownC;rw[Xr A,Xr F,Xr B,Xr z,Xr (by omega)]
    ·obtain⟨M,N⟩:=d t.2.1.toNat (by omega)
     refine⟨too t.2.1.toNat,by rw[Qah,Xr C,Xr (by omega),Xr (by omega)],?_⟩
     unfold ownC;rw[Xr A,Xr (by omega),Xr B,Xr z,Xr (by omega)]
   obtain⟨f,I,G⟩:=j
   have D:∃ e,Qal (TT.ren m too) t.2.2=some e/\e.length=t.2.2.length/\∀ x∈e,x.fault b=0:=by
    generalize t.2.2=l at v
    induction l with
    | nil=>exact⟨[],Z,Z,fun x K=>by cases K⟩
    | cons x xs ih =>
      obtain⟨u,E,H⟩:=QiH q d (v x (by simp))
      obtain⟨J,p,g,w⟩:=ih (fun y k=>v y (by simp[k]))
      refine⟨u::J,by simp[Qal,E,p],by simp[g],fun y k=>?_⟩
      rcases List.mem_cons.1 k with rfl | k
      ·exact H
      ·exact w y k
   obtain⟨e,s,o,r⟩:=D
   refine⟨((t.1,f,e):Int × Int × List (TT n)),by simp only[TT.ren,I,s],?_⟩
   show (if ownC t.1 f e.length b≠0 then ownC t.1 f e.length b else QD (TT.fault b) e)=0;rw[o,G]
   simp only[ne_eq,not_true_eq_false,if_false]
   exact QP.2 r
theorem Qgk {too:Nat->Int}{a b:Int}(d:a<=m) (c:∀ i,i<m->0<=too i/\too i<b){t:TT n}(h:t.check a=0):∃ u,t.ren m too=some u/\u.check b=0:=by
 obtain⟨u,e,f⟩:=QiH d c (Zy.1 h).2
 exact⟨u,e,Zy.2 ⟨by rw[TT.ren_height e];exact(Zy.1 h).1,f⟩⟩
structure MBlock.right {n:Nat}(x:MBlock n) (f:MFunc n) (funcs:Nat):Prop where
 regs:f.regs<=x.regs/\x.regs<=16
 params:x.params.length<=8/\∀ t∈x.params,t.check x.regs=0
 code:∀ y∈x.code,y.form funcs=0
 codes:x.code.length<=40
 fin:x.fin.form f.blocks.length=0
structure MFunc.right {n:Nat}(x:MFunc n) (funcs:Nat):Prop where
 regs:0<=x.regs/\x.regs<=6
 params:x.params.length<=8/\∀ t∈x.params,t.check x.regs=0
 results:x.results.length<=8/\∀ t∈x.results,t.check x.regs=0
 many:0<x.blocks.length/\x.blocks.length<=12
 blocks:∀ y∈x.blocks,y.right x funcs
theorem Qcv {regs:Int}{l:List (TT n)}(h:listC regs l=0):l.length<=8/\∀ t∈l,t.check regs=0:=by
 unfold listC at h;split at h
 ·cases h
 ·exact⟨by omega,fun t a=>QP.1 h t a⟩
theorem Qf9 {a:Nat}{fn:MFunc n}{x:MBlock n}(h:(MBlock.fault a f fn b x).1=0):x.right fn a:=by
 unfold MBlock.fault at h;split at h
 ·cases h
 rename_i k
 split at h
 ·rename_i d;exact absurd h d
 rename_i d
 split at h
 ·cases h
 split at h
 ·cases h
 rename_i l
 split at h
 ·rename_i e;exact absurd h e
 rename_i e
 split at h
 ·rename_i c;exact absurd h c
 rename_i c
 refine⟨by omega,Qcv (Xq.1 d),fun y g=>?_,by omega,Xq.1 c⟩
 obtain⟨i,j⟩:=List.getElem?_of_mem g
 exact Zq (Xq.1 e) i y j
theorem Qic {a:Nat}{x:MFunc n}(h:(MFunc.fault a f x).1=0):x.right a:=by
 unfold MFunc.fault at h;split at h
 ·cases h
 rename_i g
 split at h
 ·rename_i c;exact absurd h c
 rename_i c
 split at h
 ·rename_i b;exact absurd h b
 rename_i b
 split at h
 ·cases h
 rename_i j
 split at h
 ·cases h
 refine⟨by omega,Qcv (Xq.1 c),Qcv (Xq.1 b),by omega,fun y d=>?_⟩
 obtain⟨i,e⟩:=List.getElem?_of_mem d
 exact Qf9 (Zq h i y e)
theorem Zk {m:List (MFunc n)}(h:(modFault m).1=0):(0<m.length/\m.length<=8)/\∀ x∈m,x.right m.length:=by
 unfold modFault at h;split at h
 ·cases h
 rename_i c
 refine⟨by omega,fun x a=>?_⟩
 obtain⟨i,b⟩:=List.getElem?_of_mem a
 exact Qic (Zq h i x b)
structure JOk (s:JSt):Prop where
 mod:(0<s.m.length/\s.m.length<=8)/\∀ x∈s.m,x.right s.m.length
 tiny:¬ QS s.m
 fn:s.f∈s.m
 regs:s.H.length<=16
 kept:s.f.regs<=s.H.length
 vals:s.L.length<=80
 types:∀ t∈s.L,t.check s.H.length=0
theorem Qbp {s:JSt}{k:Int}{t:TT 6}(h:s.at k=some t):t∈s.L/\0<=k/\k<s.L.length/\s.L[k.toNat]?=some t:=by
 unfold JSt.at at h;split at h
 ·cases h
 ·have:=(Zi h).1
  exact⟨Zm h,by omega,by omega,h⟩
theorem QaG {s:JSt}{k b:Int}{a:Bool}(h:s.want k b a=0):∃ t,s.at k=some t/\t.kind=b/\(a=true->Qa7 s.H t.r=true):=by
 unfold JSt.want at h;split at h
 ·cases h
 ·rename_i t c
  split at h
  ·rename_i f
   split at h
   ·cases h
   ·rename_i d
    refine⟨t,c,f,fun e=>?_⟩
    subst e;simpa using d
  ·cases h
theorem QH {a b:Int}(h:code2 a b=0):a=0/\b=0:=by
 unfold code2 at h;split at h
 ·exact⟨by assumption,h⟩
 ·contradiction
theorem QbL {s:JSt}:∀ {l:List Int}{ts:List (TT 6)},s.fields l=some ts->ts.length=l.length/\∀ t∈ts,t∈s.L
 | [],ts,h=>by simp[JSt.fields] at h;subst h;simp
 | k::r,ts,h=>by
   simp only[JSt.fields] at h
   cases hk:s.at k with
   | none=>simp[hk] at h
   | some t =>
     simp only[hk] at h
     cases hr:s.fields r with
     | none=>simp[hr] at h
     | some l =>
       simp only[hr,Option.some.injEq] at h
       subst h;obtain⟨c,b⟩:=QbL hr
       refine⟨by simp[c],fun u a=>?_⟩
       rcases List.mem_cons.1 a with rfl | a
       ·exact(Qbp hk).1
       ·exact b u a
theorem ZS {H:List Bool}:∀ {l ahead:List Int},QW H ahead l=0->∀ r∈l,Qa7 H r=true
 | [],_,_,r,a=>by cases a
 | x::l,ahead,h,r,a=>by
   simp only[QW] at h
   split at h
   ·rename_i b
    split at h
    ·cases h
    ·rcases List.mem_cons.1 a with rfl | a
     ·exact b
     ·exact ZS h r a
   ·cases h
theorem QaK {H:List Bool}{r:Int}(h:Qa7 H r=true):0<=r/\r<H.length:=by
 obtain⟨k,rfl,a,_⟩:=Qe5 h
 omega
theorem QeI {x:Qx}{a:Nat}(h:x.form a=0):((x.op=6\/x.op=7)->0<=x.k/\x.k<=7)/\(x.op=14->0<=x.k/\x.k<a/\x.regs.length<=6/\x.args.length<=8)/\(x.op=5->x.args.length<=8)/\(x.op=1\/x.op=2\/x.op=3\/x.op=4\/x.op=5\/x.op=6\/x.op=7\/x.op=8\/x.op=9\/x.op=10\/x.op=11\/x.op=12\/x.op=13\/x.op=14):=by
 have b:=QkR (QjD h).1;unfold Qx.form at h;split at h
 ·cases h
 split at h
 ·cases h
 split at h
 ·cases h
 split at h
 ·cases h
 split at h
 ·cases h
 split at h
 ·cases h
 split at h
 ·cases h
 refine⟨by omega,by omega,by omega,b⟩
theorem Qem {k r R:Int}(b:k=2\/k=4) (a:0<=r/\r<R):TT.check (n:=6) R (mkT k r [])=0:=by
 refine Zy.2 ⟨by show 0<=4;omega,?_⟩;show (if ownC k r 0 R≠0 then ownC k r 0 R else QD _ [])=0
 have:ownC k r 0 R=0:=by
  unfold ownC;rw[Xr (by omega),Xr (by omega),Xr (by omega),Xr (by omega),Xr (by omega)]
 rw[this];rfl
theorem Qjm (R:Int):tInt.check R=0:=by
 refine Zy.2 ⟨by decide,?_⟩;show (if ownC 1 0 0 R≠0 then ownC 1 0 0 R else QD _ [])=0
 have:ownC 1 0 0 R=0:=by unfold ownC;rw[Xr (by omega),Xr (by omega),Xr (by omega),Xr (by omega),Xr (by omega)]
 rw[this];rfl
theorem Qf4 {s:JSt}{x:Qx}(h:JOk s) (P:x.form s.m.length=0) (A:(s.makes x).1=0):∀ t∈(s.makes x).2,t.check (s.next x).H.length=0:=by
 obtain⟨f1,W,R,L⟩:=QeI P
 have J:(s.H.length:Int)<=(s.next x).H.length:=by
  simp only[JSt.next]
  split
  ·simp;omega
  split
  ·simp
  ·exact Int.le_refl _
 intro t f
 have j:∀ {c:Int},s.makes x=(c,[tInt])->t.check (s.next x).H.length=0:=fun {c} e=>by
  rw[e] at f
  have f:=List.mem_singleton.1 f;rw[f];exact Qjm _
 have d:∀ {c:Int},s.makes x=(c,[])->t.check (s.next x).H.length=0:=fun {c} e=>by
  rw[e] at f;cases f
 rcases L with c | c | c | c | c | c | c | c | c | c | c | c | c | c
 ·exact j (Qab (.inl c))
 ·exact j (Qbo c)
 ·have e:=Qbs (s:=s) c;by_cases C:s.H.length=16
  ·rw[Xs C] at e;exact d e
  ·rw[Xr C] at e
   rw[e] at f
   have f:=List.mem_singleton.1 f;rw[f]
   refine Qem (.inl Z) ?_;simp only[JSt.next,c,if_true,List.length_append,List.length_singleton]
   omega
 ·have e:=Z2 (s:=s) c
  cases ha:s.at x.a with
  | none=>rw[ha] at e;exact d e
  | some u=>rw[ha] at e;exact d e
 ·have e:=QaQ (s:=s) c
  cases ha:s.at x.a with
  | none=>rw[ha] at e;exact d e
  | some u =>
    rw[ha] at e
    simp only at e
    by_cases q:s.want x.a 2 true=0
    ·rw[Xs q] at e
     cases hl:s.fields x.args with
     | none=>rw[hl] at e;exact d e
     | some l =>
       rw[hl] at e
       simp only at e
       by_cases C:4<TT.height (n:=7) (mkT 3 u.r l)
       ·rw[Xs C] at e;exact d e
       ·rw[Xr C] at e
        rw[e] at f
        have f:=List.mem_singleton.1 f;rw[f]
        obtain⟨O,p,_,o⟩:=QaG q
        rw[ha] at p
        cases p
        have D:=QaK (o Z);obtain⟨X,N⟩:=QbL hl
        rw[TT.at_check 5 _ (by omega)]
        refine QbB J (Zy.2 ⟨by omega,?_⟩);show (if ownC 3 u.r l.length s.H.length≠0 then ownC 3 u.r l.length s.H.length else QD (TT.fault (s.H.length:Int)) l)=0
        have:ownC 3 u.r l.length s.H.length=0:=by
         have:=R c
         unfold ownC;rw[Xr (by omega),Xr (by omega),Xr (by omega),Xr (by omega),Xr (by omega)]
        rw[this]
        simp only[ne_eq,not_true_eq_false,if_false]
        exact QP.2 fun y Q=>(Zy.1 (h.types y (N y Q))).2
    ·rw[Xr q] at e;exact d e
 ·have e:=Qb7 (s:=s) c
  cases ha:s.at x.a with
  | none=>rw[ha] at e;exact d e
  | some u =>
    rw[ha] at e
    simp only at e
    by_cases q:s.want x.a 3 true=0
    ·rw[Xs q] at e
     cases z:u.2.2[x.k.toNat]? with
     | none=>rw[z] at e;exact d e
     | some v =>
       rw[z] at e
       rw[e] at f
       have f:=List.mem_singleton.1 f;rw[f]
       have K:=Zy.1 (h.types u (Qbp ha).1);have B:=Zm z;have S:=Zo.1 K.1 v B;have V:=TT.height_lt v;rw[TT.at_check 5 _ (by omega)]
       exact QbB J (Zy.2 ⟨by omega,(TT.fault_zero K.2).2 v B⟩)
    ·rw[Xr q] at e;exact d e
 ·have e:=Qca (s:=s) c
  cases ha:s.at x.a with
  | none=>rw[ha] at e;exact d e
  | some u =>
    rw[ha] at e
    simp only at e
    by_cases q:s.want x.a 3 true=0
    ·rw[Xs q] at e
     cases z:u.2.2[x.k.toNat]? with
     | none=>rw[z] at e;exact d e
     | some v =>
       rw[z] at e
       cases hb:s.at x.b with
       | none=>rw[hb] at e;exact d e
       | some w =>
         rw[hb] at e
         simp only at e
         cases hq:bdec (v.at 5=w) with
         | true=>rw[hq] at e;exact d e
         | false=>rw[hq] at e;exact d e
    ·rw[Xr q] at e;exact d e
 ·have e:=Qa3 (s:=s) c
  cases ha:s.at x.a with
  | none=>rw[ha] at e;exact d e
  | some u =>
    rw[ha] at e
    rw[e] at f A
    have f:=List.mem_singleton.1 f;rw[f]
    obtain⟨q,_⟩:=QH A
    obtain⟨O,p,_,o⟩:=QaG q
    rw[ha] at p
    cases p
    have D:=QaK (o Z);exact Qem (.inr Z) (by omega)
 ·exact j (QaD c)
 ·exact d (Qan c)
 ·exact j (Qbc c)
 ·exact j (Qab (.inr c))
 ·exact d (Qbe c)
 ·have e:=QaN (s:=s) c
  cases hg:s.m[x.k.toNat]? with
  | none=>rw[hg] at e;exact d e
  | some g =>
    rw[hg] at e
    simp only at e
    by_cases D:(x.regs.length:Int)=g.regs
    ·rw[Xs D] at e
     rw[e] at f A
     obtain⟨I,T⟩:=QH A
     obtain⟨u,M,rfl⟩:=List.mem_map.1 f
     have E:=h.mod.2 g (Zm hg);have G:=E.results.2 u M
     obtain⟨v,z,F⟩:=Qgk (m:=x.regs.length) (too:=fun i=>x.regs.getD i 0) (a:=g.regs) (b:=s.H.length) (by omega) (fun i U=>by
      have A:=ZS I (x.regs.getD i 0) (by simp[List.getD,U]);exact QaK A) G
     unfold QfQ;rw[z]
     exact QbB J F
    ·rw[Xr D] at e;exact d e
theorem JOk.next {s:JSt}{x:Qx}(h:JOk s) (a:s.code x=0):JOk (s.next x):=by
 unfold JSt.code at a;split at a
 ·rename_i d;exact absurd a d
 rename_i d
 split at a
 ·rename_i f;exact absurd a f
 rename_i f
 split at a
 ·cases a
 rename_i k
 have j:x.form s.m.length=0:=Xq.1 d;have c:(s.makes x).1=0:=Xq.1 f
 have g:(s.H.length:Int)<=(s.next x).H.length:=by
  simp only[JSt.next]
  split
  ·simp;omega
  split
  ·simp
  ·exact Int.le_refl _
 refine⟨h.mod,h.tiny,h.fn,?_,?_,?_,?_⟩
 ·simp only[JSt.next]
  split
  ·rename_i i
   have:s.H.length≠16:=by
    intro e;rw[Qbs i,Xs e] at c
    cases c
   have:=h.regs
   simp
   omega
  split
  ·simpa using h.regs
  ·exact h.regs
 ·exact Int.le_trans h.kept g
 ·show (s.L++(s.makes x).2).length<=80;rw[List.length_append]
  omega
 ·intro t b;rcases List.mem_append.1 b with b | b
  ·exact QbB g (h.types t b)
  ·exact Qf4 h j c t b
theorem Qev {n:Int}(h:0<=n/\n<=16):((QcT n).length:Int)=n:=by
 unfold QcT;rw[List.length_replicate]
 omega
theorem JOk.start {m:List (MFunc 6)}{f:MFunc 6}{b:MBlock 6}(h:(modFault m).1=0) (j:¬ QS m) (e:f∈m) (hb:b∈f.blocks):JOk (JSt.start m f b):=by
 have d:=Zk h;have a:=d.2 f e;have c:=a.blocks b hb;have i:=Qev (n:=b.regs) (by have:=a.regs;have:=c.regs;omega);have l:=c.regs;have o:=a.regs;have k:=c.params;refine⟨d,j,e,?_,?_,?_,?_⟩
 ·show (QcT b.regs).length<=16;omega
 ·show f.regs<=((QcT b.regs).length:Int);omega
 ·show b.params.length<=80;omega
 ·intro t g;show t.check ((QcT b.regs).length:Int)=0;rw[i]
  exact k.2 t g
theorem Q9 {s:JSt}{x:Qx}(h:s.code x=0):x.form s.m.length=0/\(s.makes x).1=0/\s.L.length+(s.makes x).2.length<=80:=by
 unfold JSt.code at h;split at h
 ·exact absurd h ‹_›
 split at h
 ·exact absurd h ‹_›
 split at h
 ·cases h
 exact⟨by omega,by omega,by omega⟩
theorem Qby {s:JSt}{x:Qx}(a:x.op≠3) (b:x.op≠4):(s.next x).H=s.H:=by
 unfold JSt.next
 simp only[if_neg a,if_neg b]
theorem Qi3 {s:JSt}{x:Qx}(h:s.code x=0) (d:x.op=4):∃ (t:TT 6) (r:Nat),s.at x.a=some t/\t.kind=2/\t.r=(r:Int)/\r<s.H.length/\s.H.getD r false=true/\s.next x={ s with H:=s.H.set r false }:=by
 obtain⟨-,c,-⟩:=Q9 h
 rw[Z2 d] at c
 split at c
 ·cases c
 rename_i t b
 obtain⟨l,f,k,i⟩:=QaG (QH c).1
 rw[b] at f
 cases f
 obtain⟨r,e,g,j⟩:=Qe5 (i Z)
 refine⟨t,r,b,k,e,g,j,?_⟩
 unfold JSt.next
 rw[Z2 d]
 simp only[b,e,if_neg (show ¬ x.op=3 by omega),if_pos d,Int.toNat_natCast,List.append_nil]
noncomputable def Q0 (at0:Int) (e:MEnd):JSt->Nat->List Qx->Int × Int
 | s,_,[]=>if s.fin e≠0 then (s.fin e,at0+91) else (0,0)
 | s,i,x::r=>if s.code x≠0 then (s.code x,at0+i) else Q0 at0 e (s.next x) (i+1) r
noncomputable def QaA (m:List (MFunc 6)) (k:Nat) (f:MFunc 6):Int × Int:=firstF (fun b x=>Q0 (10000*(k:Int)+100*(b:Int)) x.fin (JSt.start m f x) 0 x.code) 0 f.blocks
noncomputable def QX (m:List (MFunc 6)):Int × Int:=if (modFault m).1≠0 then modFault m else firstF (QaA m) 0 m
noncomputable def JSt.upto (s:JSt) (l:List Qx):JSt:=l.foldl (fun s x=>s.next x) s
theorem JSt.upto_snoc (s:JSt) (l:List Qx) (x:Qx):s.upto (l++[x])=(s.upto l).next x:=by unfold JSt.upto;rw[List.foldl_append];rfl
theorem Qa0 {a:Int}{e:MEnd}:∀ {l:List Qx}{s:JSt}{i k:Nat},k<=l.length->(∀ j x,j<k->l[j]?=some x->(s.upto (l.take j)).code x=0)->Q0 a e s i l=Q0 a e (s.upto (l.take k)) (i+k) (l.drop k)
 | l,s,i,0,_,_=>by simp[JSt.upto]
 | [],s,i,k+1,hk,_=>by simp at hk
 | x::r,s,i,k+1,hk,h=>by
   have f:s.code x=0:=by have:=h 0 x (by omega) Z;simpa[JSt.upto] using this
   rw[Q0,Xr (by rw[f];simp)]
   have b:k<=r.length:=by simpa using hk
   rw[Qa0 (k:=k) b (fun j y g d=>by
    have:=h (j+1) y (by omega) (by simpa using d)
    simpa[JSt.upto] using this)]
   simp only[List.take_succ_cons,List.drop_succ_cons]
   have c:i+1+k=i+(k+1):=by omega
   rw[c]
   rfl
theorem Qfm {a:Int}{e:MEnd}{l:List Qx}{s:JSt}{x:Qx}(b:l[k]?=some x) (h:∀ j y,j<k->l[j]?=some y->(s.upto (l.take j)).code y=0) (d:(s.upto (l.take k)).code x≠0) :
 Q0 a e s 0 l=((s.upto (l.take k)).code x,a+k):=by
 have c:k<l.length:=(Zi b).1;rw[Qa0 (k:=k) (by omega) h,List.drop_eq_getElem_cons c]
 have:l[k]=x:=by rw[Zg c] at b;exact Xn b
 rw[this,Q0,Xs d,XK]
theorem Qfr {a:Int}{e:MEnd}{l:List Qx}{s:JSt}(h:∀ j y,j<l.length->l[j]?=some y->(s.upto (l.take j)).code y=0) :
 Q0 a e s 0 l=if (s.upto l).fin e≠0 then ((s.upto l).fin e,a+91) else (0,0):=by
 rw[Qa0 (k:=l.length) Ze h,List.drop_length,List.take_length]
 rfl
theorem JOk.upto {s:JSt}(b:JOk s){l:List Qx}:∀ {k:Nat},(∀ j y,j<k->l[j]?=some y->(s.upto (l.take j)).code y=0)->k<=l.length->JOk (s.upto (l.take k))
 | 0,_,_=>by simpa[JSt.upto] using b
 | k+1,h,hk=>by
   have a:l[k]?=some (l[k]'(by omega)):=Zg _;have c:=b.upto (k:=k) (fun j y d=>h j y (by omega)) (by omega);rw[XV,a]
   show JOk (s.upto (l.take k++[_]));rw[JSt.upto_snoc]
   exact c.next (h k _ (by omega) a)
theorem QdJ {m:List (MFunc 6)}{f:MFunc 6}{g:MBlock 6}(e:(modFault m).1=0) (o:m[k]?=some f) (l:∀ j y,j<k->m[j]?=some y->(QaA m j y).1=0) (n:f.blocks[q]?=some g)
 (i:∀ j y,j<q->f.blocks[j]?=some y->(Q0 (10000*(k:Int)+100*(j:Int)) y.fin (JSt.start m f y) 0 y.code).1=0) (h:(Q0 (10000*(k:Int)+100*(q:Int)) g.fin (JSt.start m f g) 0 g.code).1≠0) :
 QX m=Q0 (10000*(k:Int)+100*(q:Int)) g.fin (JSt.start m f g) 0 g.code:=by
 have d:QaA m k f=Q0 (10000*(k:Int)+100*(q:Int)) g.fin (JSt.start m f g) 0 g.code:=by
  unfold QaA
  have:=ZT (f:=fun b (x:MBlock 6)=>Q0 (10000*(k:Int)+100*(b:Int)) x.fin (JSt.start m f x) 0 x.code) (j:=0) n (fun j y a c=>by rw[XK];exact i j y a c) (by rw[XK];exact h)
  rw[XK] at this
  exact this
 unfold QX;rw[Xr (by rw[e];simp)]
 have:=ZT (f:=QaA m) (j:=0) o (fun j y a c=>by rw[XK];exact l j y a c) (by rw[XK,d];exact h)
 rw[XK,d] at this
 exact this
structure IFr where
 f:Nat
 b:Nat
 i:Nat
 v:List Qk
 r:List Int
structure IM where
 h:Qc
 top:IFr
 rest:List IFr
 inp:List Int
 out:List Int
 back:List Int
 fuel:Nat
 fin:Int
 done:Bool
def QE (v:List Qk) (k:Int):Option Qk:=if k<0 then none else v[k.toNat]?
def Qq (v:List Qk):List Int->Option (List Qk)
 | []=>some []
 | k::l=>match QE v k with
   | none=>none
   | some x=>match Qq v l with
     | none=>none
     | some xs=>some (x::xs)
def Qge (r:List Int) (k:Int):Option Int:=if k<0 then none else r[k.toNat]?
def Zs (r:List Int):List Int->Option (List Int)
 | []=>some []
 | k::l=>match Qge r k with
   | none=>none
   | some x=>match Zs r l with
     | none=>none
     | some xs=>some (x::xs)
def QB (v:List Qk) (k:Int):Option Int:=match QE v k with
 | none=>none
 | some x=>if x.kind=1 then some x.n else none
def Qax (v:List Qk):List Int->Option (List Int)
 | []=>some []
 | k::l=>match QB v k with
   | none=>none
   | some x=>match Qax v l with
     | none=>none
     | some xs=>some (x::xs)
def IM.push (M:IM) (l:List Qk):IM:={ M with top:={ M.top with v:=M.top.v++l } }
def IM.over (M:IM) (e:Int):IM:={ M with done:=true,fin:=e }
def IM.got (M:IM) (g:Qk × Int × Qc):Option IM:=if g.2.1=14 then some (M.over 6) else if g.2.1=0 then some (IM.push ({ M with h:=g.2.2 }) [g.1]) else none
def IM.mem (M:IM) (x:Qx):Option IM:=match QE M.top.v x.a with
 | none=>none
 | some a =>
   if x.op=4 then (if (M.h.shut a).1 then some { M with h:=(M.h.shut a).2 } else none)
   else if x.op=5 then (match Qq M.top.v x.args with
    | none=>none
    | some l=>M.got (M.h.tuple a l))
   else if x.op=8 then (match QB M.top.v x.b with
    | none=>none
    | some n=>if n<0\/15<n then some (M.over 3) else M.got (M.h.array a n))
   else if x.op=6 then (if a.kind=3/\(M.h.get a x.k).2=0 then some (M.push [(M.h.get a x.k).1]) else none)
   else if x.op=7 then (match QE M.top.v x.b with
    | none=>none
    | some y=>if a.kind=3/\(M.h.set a x.k y).1=0 then some { M with h:=(M.h.set a x.k y).2 } else none)
   else if x.op=9 then (match QB M.top.v x.b with
    | none=>none
    | some n=>if a.kind=4 then (if (M.h.get a n).2=1 then some (M.over 2) else if (M.h.get a n).2=0 then some (M.push [(M.h.get a n).1]) else none) else none)
   else if x.op=10 then (match QB M.top.v x.b with
    | none=>none
    | some n=>match QB M.top.v x.c with
      | none=>none
      | some z=>if a.kind=4 then (if (M.h.set a n (Qaz z)).1=1 then some (M.over 2) else if (M.h.set a n (Qaz z)).1=0 then some { M with h:=(M.h.set a n (Qaz z)).2 } else none) else none)
   else (if a.kind=4/\(M.h.len a).2=0 then some (M.push [Qaz (M.h.len a).1]) else none)
def IM.call (m:List (MFunc 6)) (M:IM) (x:Qx):Option IM:=match Zs M.top.r x.regs with
 | none=>none
 | some r=>match Qq M.top.v x.args with
   | none=>none
   | some v=>match m[x.k.toNat]? with
     | none=>none
     | some g=>if (r.length:Int)=g.regs/\v.length=g.params.length then
      (if M.rest.length+1=40 then some (M.over 5) else some { M with top:=⟨x.k.toNat,0,0,v,r⟩,rest:=M.top::M.rest })
      else none
def IM.ins (m:List (MFunc 6)) (op:Int->Int->Int->Option Int) (M:IM) (x:Qx):Option IM :=
 if x.op=1 then some (M.push [Qaz x.n])
 else if x.op=2 then (match QB M.top.v x.a with
  | none=>none
  | some a=>match QB M.top.v x.b with
    | none=>none
    | some b=>match op x.k a b with
      | none=>some (M.over 1)
      | some n=>some (M.push [Qaz n]))
 else if x.op=3 then (if M.h.open_.2.1 then some (IM.push { M with h:=M.h.open_.2.2,top:={ M.top with r:=M.top.r++[M.h.open_.1.region] } } [M.h.open_.1]) else some (M.over 6))
 else if x.op=12 then (match M.inp with
  | []=>some (M.over 4)
  | n::l=>some (IM.push { M with inp:=l } [Qaz n]))
 else if x.op=13 then (match QB M.top.v x.a with
  | none=>none
  | some n=>if M.out.length=2000 then some (M.over 8) else some { M with out:=M.out++[n] })
 else if x.op=14 then M.call m x
 else M.mem x
def IM.to (fn:MFunc 6) (M:IM) (t:MTo):Option IM:=match fn.blocks[t.block.toNat]? with
 | none=>none
 | some b=>match Zs M.top.r t.regs with
   | none=>none
   | some r=>match Qq M.top.v t.args with
     | none=>none
     | some v=>if (r.length:Int)=b.regs/\v.length=b.params.length then some { M with top:=⟨M.top.f,t.block.toNat,0,v,r⟩ } else none
def IM.endd (fn:MFunc 6) (M:IM) (e:MEnd):Option IM :=
 if e.op=1 then M.to fn e.yes
 else if e.op=2 then (match QB M.top.v e.a with
  | none=>none
  | some n=>if n=0 then M.to fn e.no else M.to fn e.yes)
 else (match Qq M.top.v e.args with
  | none=>none
  | some v=>if v.length=fn.results.length then (match M.rest with
   | d::rest=>some (IM.push { M with top:=d,rest:=rest } v)
   | []=>match Qax M.top.v e.args with
     | none=>none
     | some n=>some (IM.over { M with back:=n } 0))
   else none)
def IM.step (m:List (MFunc 6)) (op:Int->Int->Int->Option Int) (most:Nat) (M:IM):Option IM :=
 if M.fuel=most then some (M.over 7)
 else match m[M.top.f]? with
  | none=>none
  | some fn=>match fn.blocks[M.top.b]? with
    | none=>none
    | some bl=>match bl.code[M.top.i]? with
      | some x=>IM.ins m op { M with fuel:=M.fuel+1,top:={ M.top with i:=M.top.i+1 } } x
      | none=>IM.endd fn { M with fuel:=M.fuel+1 } bl.fin
def IM.start (inp:List Int) (pages:Nat):IM:=⟨Qc.new pages,⟨0,0,0,[],[]⟩,[],inp,[],[],0,0,false⟩
theorem Qc.at_some {h:Qc}{v:Qk}{p:Ql}(e:h.at v=some p):v.kind=2/\h.place v.region=some p/\∃ k:Nat,v.region=k/\h.L[k]?=some p/\p.there=true:=by
 unfold Qc.at at e;split at e
 ·rename_i b
  obtain⟨c,d,f⟩:=Qc.place_some e
  obtain⟨k,a⟩:=Xc c
  exact⟨b,e,k,a,by rwa [a,XT] at d,f⟩
 ·cases e
def Ql.roomed (p:Ql) (words:Int):Ql:=if p.tight words then { p with pages:=p.pages+1,used:=words } else { p with used:=p.used+words }
def Qc.roomLeft (h:Qc) (p:Ql) (words:Int):Nat:=if p.tight words then h.left - 1 else h.left
theorem Ql.roomed_l (p:Ql) (words:Int):(p.roomed words).l=p.l:=by unfold Ql.roomed;split<;>rfl
theorem Ql.roomed_there (p:Ql) (words:Int):(p.roomed words).there=p.there:=by unfold Ql.roomed;split<;>rfl
theorem Ql.more_eq (p:Ql) (t:Qs) (words:Int):p.more t words={ p.roomed words with l:=(p.roomed words).l++[t] }:=by unfold Ql.more Ql.roomed;split<;>rfl
theorem HOk.of {T:Nat}{h:Qc}(K:HOk N T h){v:Qk}{p:Ql}(b:h.at v=some p):p.l.length<=N/\0<=p.used/\p.used<=N/\h.left+p.pages<=T:=by
 obtain⟨_,_,k,_,a,_⟩:=Qc.at_some b
 have:=Qjs a
 have:=K.pages
 have:=K.used k p a
 exact⟨K.things k p a,this.1,this.2,by omega⟩
theorem Qc.tuple_none {h:Qc}{v:Qk}(l:List Qk) (a:h.at v=none):h.tuple v l=(noV,20,h):=by unfold Qc.tuple Qc.put;rw[a]
theorem Qc.put_full {h:Qc}{v:Qk}{p:Ql}(t:Qs) (words:Int) (c:h.at v=some p) (a:p.tight words=true) (b:h.left=0):h.put v t words=(noV,14,h):=by unfold Qc.put;rw[c];simp[a,b]
theorem Qc.put_ok {h:Qc}{v:Qk}{p:Ql}(t:Qs) (words:Int) (b:h.at v=some p) (a:v.region=k) (c:¬ (p.tight words=true/\h.left=0)) :
 h.put v t words=(⟨t.knd,k,p.l.length,0⟩,0,⟨h.L.set k { p.roomed words with l:=p.l++[t] },h.roomLeft p words⟩):=by
 unfold Qc.put;rw[b]
 simp only
 rw[Xr c,a,XT,Ql.more_eq,Ql.roomed_l]
 rfl
theorem Qc.thing_iff {h:Qc}{v:Qk}{t:Qs}:h.thing v=some t↔(v.kind=3\/v.kind=4)/\∃ p,h.place v.region=some p/\0<=v.thing/\p.l[v.thing.toNat]?=some t/\t.arr=decide (v.kind=4):=by
 unfold Qc.thing;constructor
 ·intro e;split at e
  ·rename_i b
   split at e
   ·cases e
   ·rename_i p c
    split at e
    ·cases e
    ·rename_i f
     split at e
     ·cases e
     ·rename_i u d
      split at e
      ·rename_i a;cases e;exact⟨b,p,c,by omega,d,a⟩
      ·cases e
  ·cases e
 ·rintro ⟨b,p,c,f,d,a⟩;rw[Xs b]
  simp only[c,d]
  rw[Xr (by omega),Xs a]
theorem Qc.put_code {h:Qc}{v:Qk}{t:Qs}{p:Ql}(a:h.at v=some p):(h.put v t words).2.1=0\/((h.put v t words).2.1=14/\(h.put v t words).2.2=h/\(h.put v t words).1=noV):=by
 by_cases e:p.tight words=true/\h.left=0
 ·rw[Qc.put_full t words a e.1 e.2];exact .inr ⟨Z,Z,Z⟩
 ·obtain⟨g,f,j,b,c,d⟩:=Qc.at_some a
  rw[Qc.put_ok t words a b e];exact .inl Z
def Qez (N:Nat) (h:Qc):Prop:=∀ (k:Nat) (p:Ql) (i:Nat) (t:Qs),h.L[k]?=some p->p.l[i]?=some t->t.l.length<=N
theorem HOk.mono {b T:Nat}{h:Qc}(K:HOk N T h) (c:N<=b):HOk b T h:=⟨Zt K.len c,fun k p a=>Zt (K.things k p a) c,fun k p a=>⟨(K.used k p a).1,by have:=(K.used k p a).2;omega⟩,K.pages⟩
theorem HOk.new (n:Nat):HOk 0 n (Qc.new n):=⟨by simp[Qc.new],fun k p h=>by simp[Qc.new] at h,fun k p h=>by simp[Qc.new] at h,by simp[Qc.new]⟩
theorem QgB {l:List Ql}{q p:Ql}(e:(l++[q])[j]?=some p):p=q\/l[j]?=some p:=by
 rcases Nat.lt_or_ge j l.length with h | h
 ·rw[XP h] at e;exact .inr e
 ·rw[XQ h] at e
  have:=(Zi e).1
  have:j - l.length=0:=by simp at this;omega
  rw[this] at e;simp at e;exact .inl e.symm
theorem HOk.open {T:Nat}{h:Qc}(K:HOk N T h):HOk (N+1) T h.open_.2.2:=by
 unfold Qc.open_;split
 ·exact K.mono (Nat.le_succ _)
 ·refine⟨by simp;exact K.len,fun k p a=>?_,fun k p a=>?_,?_⟩
  ·rcases QgB a with e | e
   ·subst e;simp[newP]
   ·exact Nat.le_succ_of_le (K.things k p e)
  ·rcases QgB a with e | e
   ·subst e;simp[newP];omega
   ·have:=K.used k p e;omega
  ·have:=K.pages;simp[newP];exact this
theorem HOk.shut {T:Nat}{h:Qc}(K:HOk N T h) (v:Qk):HOk N T (h.shut v).2:=by
 unfold Qc.shut
 cases ha:h.at v with
 | none=>exact K
 | some p =>
   obtain⟨f,a,j,c,b,d⟩:=Qc.at_some ha
   simp only[c,Int.toNat_natCast]
   refine⟨by simpa using K.len,fun k q a=>?_,fun k q a=>?_,?_⟩
   ·rcases QbC a with e | e
    ·subst e;simp[noP]
    ·exact K.things k q e
   ·rcases QbC a with e | e
    ·subst e;simp[noP]
    ·exact K.used k q e
   ·have g:=sum_set h.L j p noP b;have l:=K.pages;have i:noP.pages=0:=rfl;show h.left+p.pages+((h.L.set j noP).map (·.pages)).sum<=T;omega
theorem HOk.put {T:Nat}{h:Qc}(K:HOk N T h) (v:Qk) (t:Qs){M:Nat}(m:0<=words/\words<=M):HOk (N+M+1) T (h.put v t words).2.2:=by
 cases ha:h.at v with
 | none=>rw[show h.put v t words=(noV,20,h) by unfold Qc.put;rw[ha]];exact K.mono (by omega)
 | some p =>
   obtain⟨n,d,j,f,b,i⟩:=Qc.at_some ha
   by_cases e:p.tight words=true/\h.left=0
   ·rw[Qc.put_full t words ha e.1 e.2];exact K.mono (by omega)
   ·rw[Qc.put_ok t words ha f e]
    have o:=K.used j p b;refine⟨by simp;have:=K.len;omega,fun k q d=>?_,fun k q d=>?_,?_⟩
    ·rcases QbC d with a | a
     ·subst a;simp;have:=K.things j p b;omega
     ·have:=K.things k q a;omega
    ·rcases QbC d with a | a
     ·subst a;show 0<=(p.roomed words).used/\(p.roomed words).used<=_;unfold Ql.roomed;split
      ·simp only;omega
      ·simp only;omega
     ·have:=K.used k q a;omega
    ·have c:=sum_set h.L j p { p.roomed words with l:=p.l++[t] } b;have r:=K.pages;have s:=Qjs b;show h.roomLeft p words+((h.L.set j { p.roomed words with l:=p.l++[t] }).map (·.pages)).sum<=T;have g:({ p.roomed words with l:=p.l++[t] }:Ql).pages=(p.roomed words).pages:=rfl;rw[g] at c
     unfold Qc.roomLeft Ql.roomed at *
     cases htt:p.tight words with
     | true =>
       rw[htt] at c
       simp only[if_true] at c |-
       have:h.left≠0:=fun a=>e ⟨htt,a⟩
       omega
     | false =>
       rw[htt] at c
       simp only[Bool.false_eq_true,if_false] at c |-
       omega
theorem Qez.mono {a:Nat}{h:Qc}(K:Qez N h) (d:N<=a):Qez a h:=fun k p i t c b=>Zt (K k p i t c b) d
theorem Qez.new (N n:Nat):Qez N (Qc.new n):=fun k p i t h=>by simp[Qc.new] at h
theorem Qez.open {h:Qc}(K:Qez N h):Qez N h.open_.2.2:=by
 unfold Qc.open_;split
 ·exact K
 ·intro k p i t b a;rcases QgB b with e | e
  ·subst e;simp[newP] at a
  ·exact K k p i t e a
theorem Qez.shut {h:Qc}(K:Qez N h) (v:Qk):Qez N (h.shut v).2:=by
 unfold Qc.shut
 cases ha:h.at v with
 | none=>exact K
 | some q =>
   intro k p i t b a;rcases QbC b with e | e
   ·subst e;simp[noP] at a
   ·exact K k p i t e a
theorem Qez.put {h:Qc}(K:Qez N h) (v:Qk) (t:Qs) (words:Int) (g:t.l.length<=N):Qez N (h.put v t words).2.2:=by
 cases ha:h.at v with
 | none=>rw[show h.put v t words=(noV,20,h) by unfold Qc.put;rw[ha]];exact K
 | some p =>
   obtain⟨o,f,j,m,d,n⟩:=Qc.at_some ha
   by_cases e:p.tight words=true/\h.left=0
   ·rw[Qc.put_full t words ha e.1 e.2];exact K
   ·rw[Qc.put_ok t words ha m e]
    intro k q i u f a;rcases QbC f with b | b
    ·subst b;simp only at a
     rcases Nat.lt_or_ge i p.l.length with c | c
     ·rw[XP c] at a;exact K j p i u d a
     ·rw[XQ c] at a
      have:=(Zi a).1
      have:i - p.l.length=0:=by simp at this;omega
      rw[this] at a;simp at a;subst a;exact g
    ·exact K k q i u b a
theorem Qez.thing {h:Qc}(K:Qez N h){v:Qk}{t:Qs}(e:h.thing v=some t):t.l.length<=N:=by
 obtain⟨-,p,b,-,a,-⟩:=Qc.thing_iff.1 e
 exact K _ p _ t (Qc.place_some b).2.1 a
theorem Qlx {h:Qc}(a:h.live<=16):h.open_.2.2.live<=16:=by
 unfold Qc.open_;split
 ·exact a
 ·rw[Qc.live_push];omega
theorem Qke {h:Qc}(v:Qk) (t:Qs) (words:Int):(h.put v t words).2.2.live=h.live:=by
 cases ha:h.at v with
 | none=>rw[show h.put v t words=(noV,20,h) by unfold Qc.put;rw[ha]]
 | some p =>
   obtain⟨i,g,j,d,b,a⟩:=Qc.at_some ha
   by_cases e:p.tight words=true/\h.left=0
   ·rw[Qc.put_full t words ha e.1 e.2]
   ·rw[Qc.put_ok t words ha d e]
    have c:=Qc.live_set (h:=h) (q:={ p.roomed words with l:=p.l++[t] }) b (h.roomLeft p words);have f:({ p.roomed words with l:=p.l++[t] }:Ql).there=true:=by show (p.roomed words).there=true;rw[Ql.roomed_there];exact a
    rw[a,f] at c
    simpa using c
theorem Zx {a:Nat->Int}{t u:TT (n+1)}(h:t.ren m a=some u):u.1=t.1/\Qah m a t.1 t.2.1=some u.2.1/\Qal (TT.ren m a) t.2.2=some u.2.2:=by
 simp only[TT.ren] at h
 cases e1:Qah m a t.1 t.2.1 with
 | none=>simp[e1] at h
 | some r1 =>
   simp only[e1] at h
   cases e2:Qal (TT.ren m a) t.2.2 with
   | none=>simp[e2] at h
   | some l1 =>
     simp only[e2] at h
     have h:=Xn h;subst h;exact⟨Z,Z,Z⟩
theorem Qai {a:Nat->Int}{t:TT (n+1)}{r:Int}{l:List (TT n)}(c:Qah m a t.1 t.2.1=some r) (b:Qal (TT.ren m a) t.2.2=some l):t.ren m a=some ((t.1,r,l):Int × Int × List (TT n)):=by
 simp only[TT.ren,c,b]
 rfl
theorem TT.ren_inv {m b:Nat}{l a:Nat->Int}(f:∀ k r r',Qah m l k r=some r'->Qah b a k r'=some r):{n:Nat}->{t u:TT n}->t.ren m l=some u->u.ren b a=some t
 | 0,t,_,_=>Empty.elim t
 | n+1,t,u,h=>by
   obtain⟨d,o,q⟩:=Zx h
   obtain⟨e,p⟩:=ZX.1 q
   have s:Qal (TT.ren b a) u.2.2=some t.2.2:=by
    refine ZX.2 ⟨e.symm,fun i x g=>?_⟩;have j:i<t.2.2.length:=by rw[<-e];exact(Zi g).1
    have c:=p i t.2.2[i] (Zg j);rw[g] at c
    rw[Zg j]
    exact TT.ren_inv f c
   have:=Qai (t:=u) (by rw[d];exact f _ _ _ o) s
   rw[this,d]
   rfl
theorem TT.ren_comp {m g c:Nat}{j d a:Nat->Int}(s:∀ k r r',Qah m j k r=some r'->∃ r'',Qah g d k r'=some r''/\Qah c a k r=some r''):{n:Nat}->{t u:TT n}->t.ren m j=some u->∃ v,u.ren g d=some v/\t.ren c a=some v
 | 0,t,_,_=>Empty.elim t
 | n+1,t,u,h=>by
   obtain⟨q,A,L⟩:=Zx h
   obtain⟨r'',G,w⟩:=s _ _ _ A
   obtain⟨I,J⟩:=ZX.1 L
   have o:∀ (l e:List (TT n)),e.length=l.length->(∀ (i:Nat) x,l[i]?=some x->x.ren m j=e[i]?)->∃ b,Qal (TT.ren g d) e=some b/\Qal (TT.ren c a) l=some b:=by
    intro l
    induction l with
    | nil =>
      intro e f _
      have:e=[]:=Xf.1 f
      subst this;exact⟨[],Z,Z⟩
    | cons x xs ih =>
      intro e f p
      cases e with
      | nil=>simp at f
      | cons y ys =>
        obtain⟨v,B,K⟩:=TT.ren_comp s (t:=x) (u:=y) (by simpa using p 0 x Z)
        obtain⟨D,C,H⟩:=ih ys (by simpa using f) (fun i z E=>by simpa using p (i+1) z (by simpa using E))
        exact⟨v::D,by simp[Qal,B,C],by simp[Qal,K,H]⟩
   obtain⟨b,M,F⟩:=o t.2.2 u.2.2 I J
   refine⟨((t.1,r'',b):Int × Int × List (TT n)),?_,Qai w F⟩
   have:=Qai (t:=u) (by rw[q];exact G) M
   rw[this,q]
   rfl
theorem TT.at_back:{j:Nat}->(k:Nat)->(t:TT (j+1))->t.height<=k->((t.at k).at j:TT (j+1))=t
 | 0,0,t,h=>by
   obtain⟨a,b,l⟩:=t
   cases l with
   | nil=>rfl
   | cons x l=>exact Empty.elim x
 | 0,k+1,t,h=>by
   obtain⟨a,b,l⟩:=t
   cases l with
   | nil=>rfl
   | cons x l=>exact Empty.elim x
 | j+1,0,t,h=>by
   have:=(Zo (t:=t)).1 h
   obtain⟨a,b,l⟩:=t
   cases l with
   | nil=>rfl
   | cons x l=>have:=this x (by simp);omega
 | j+1,k+1,t,h=>by
   have d:=(Zo (t:=t)).1 h;obtain⟨a,b,l⟩:=t
   show ((a,b,(l.map (TT.at k)).map (TT.at j)):Int × Int × List (TT (j+1)))=(a,b,l)
   have:(l.map (TT.at k)).map (TT.at j)=l:=by
    rw[List.map_map]
    have e:∀ x∈l,((TT.at j ∘ TT.at k) x:TT (j+1))=x:=fun x c=>TT.at_back k x (by have:=d x c;omega)
    calc l.map (TT.at j ∘ TT.at k)=l.map id:=List.map_congr_left e
     _=l:=List.map_id l
   rw[this]
theorem Qjb {n m k:Nat}{a:Nat->Int}:∀ {l l':List (TT n)},(∀ x∈l,∀ u,x.ren m a=some u->(x.at k).ren m a=some (u.at k))->Qal (TT.ren m a) l=some l'->Qal (TT.ren m a) (l.map (TT.at k))=some (l'.map (TT.at k))
 | [],l',_,h=>by simp[Qal] at h;subst h;rfl
 | x::xs,l',hx,h=>by
   simp only[Qal] at h
   cases h1:x.ren m a with
   | none=>simp[h1] at h
   | some y =>
     simp only[h1] at h
     cases h2:Qal (TT.ren m a) xs with
     | none=>simp[h2] at h
     | some ys =>
       simp only[h2] at h
       cases h
       have c:=hx x (by simp) y h1;have b:=Qjb (k:=k) (fun z d=>hx z (by simp[d])) h2;simp only[List.map_cons,Qal,c,b]
theorem TT.ren_at {m:Nat}{a:Nat->Int}:{n:Nat}->(k:Nat)->{t u:TT n}->t.ren m a=some u->(t.at k).ren m a=some (u.at k)
 | 0,_,t,_,_=>Empty.elim t
 | n+1,0,t,u,h=>by
   obtain⟨b,c,d⟩:=Zx h
   have:(t.at 0).ren m a=some (((t.at 0).1,u.2.1,[]):Int × Int × List (TT 0)):=Qai (t:=t.at 0) c Z
   rw[this]
   show some ((t.1,u.2.1,[]):Int × Int × List (TT 0))=some ((u.1,u.2.1,[]):Int × Int × List (TT 0));rw[b]
 | n+1,k+1,t,u,h=>by
   obtain⟨b,c,d⟩:=Zx h
   have e:=Qjb (k:=k) (fun x _ v f=>TT.ren_at k f) d
   have:(t.at (k+1)).ren m a=some (((t.at (k+1)).1,u.2.1,u.2.2.map (TT.at k)):Int × Int × List (TT (k+1))):=Qai (t:=t.at (k+1)) c e
   rw[this]
   show some ((t.1,u.2.1,u.2.2.map (TT.at k)):Int × Int × List (TT (k+1)))=some ((u.1,u.2.1,u.2.2.map (TT.at k)):Int × Int × List (TT (k+1)));rw[b]
theorem Qes {α:Type}{f:α->Option α}:∀ {l l':List α}{i:Nat}{x:α},Qal f l=some l'->l[i]?=some x->∃ y,l'[i]?=some y/\f x=some y
 | [],_,_,_,_,h=>by simp at h
 | z::zs,l',i,x,h,hx=>by
   simp only[Qal] at h
   cases h1:f z with
   | none=>simp[h1] at h
   | some y =>
     simp only[h1] at h
     cases h2:Qal f zs with
     | none=>simp[h2] at h
     | some ys =>
       simp only[h2] at h
       cases h
       cases i with
       | zero=>simp at hx;subst hx;exact⟨y,by simp,h1⟩
       | succ i=>simpa using Qes (i:=i) h2 (by simpa using hx)
abbrev Sig:=Int->Nat->Option (TT 6)
def Qew (s:Sig) (x:Qk) (t:TT 6):Prop :=
 (t.kind=1/\x.kind=1)\/(t.kind=2/\x.kind=2/\x.region=t.r)\/((t.kind=3\/t.kind=4)/\x.kind=t.kind/\x.region=t.r/\0<=x.thing/\s x.region x.thing.toNat=some t)
def Sig.le (s s':Sig):Prop:=∀ k i t,s k i=some t->s' k i=some t
theorem Qew.mono {s b:Sig}(h:s.le b){x:Qk}{t:TT 6}(c:Qew s x t):Qew b x t:=by
 rcases c with a | a | ⟨a,f,e,g,d⟩
 ·exact .inl a
 ·exact .inr (.inl a)
 ·exact .inr (.inr ⟨a,f,e,g,h _ _ _ d⟩)
def QbZ (s:Sig) (t:Qs) (u:TT 6):Prop :=
 (t.arr=true/\u.kind=4/\∀ (y:Qk),y∈t.l->y.kind=1) \/
 (t.arr=false/\u.kind=3/\t.l.length=u.2.2.length/\∀ (j:Nat) (y:Qk) (w:TT 5),t.l[j]?=some y->u.2.2[j]?=some w->Qew s y (w.at 5))
theorem QbZ.mono {s b:Sig}(h:s.le b){t:Qs}{u:TT 6}(c:QbZ s t u):QbZ b t u:=by
 rcases c with a | ⟨a,g,f,i⟩
 ·exact .inl a
 ·exact .inr ⟨a,g,f,fun j y w e d=>(i j y w e d).mono h⟩
structure StT (s:Sig) (h:Qc):Prop where
 thing:∀ (k:Int) (p:Ql) (i:Nat) (t:Qs),h.place k=some p->p.l[i]?=some t->∃ u,s k i=some u/\u.r=k/\QbZ s t u
 there:∀ (k:Int) (p:Ql) (i:Nat) (u:TT 6),h.place k=some p->s k i=some u->∃ t,p.l[i]?=some t
 range:∀ (k:Int) (i:Nat) (u:TT 6),s k i=some u->0<=k/\k<h.L.length
theorem StT.new (n:Nat):StT (fun _ _=>none) (Qc.new n):=⟨fun k p i t a=>by unfold Qc.place at a;simp[Qc.new] at a,fun k p i u a h=>(nomatch h),fun k i u h=>(nomatch h)⟩
theorem StT.open {s:Sig}{h:Qc}(S:StT s h):StT s h.open_.2.2:=by
 unfold Qc.open_;split
 ·exact S
 ·have d:=fun j=>Qc.place_push h newP j h.left;refine⟨fun k p i t a f=>?_,fun k p i u a b=>?_,fun k i u b=>?_⟩
  ·rw[d] at a
   by_cases e:k=h.L.length
   ·rw[Xs e] at a
    have c:some newP=some p:=a
    cases c;simp[newP] at f
   ·rw[Xr e] at a;exact S.thing k p i t a f
  ·rw[d] at a
   by_cases e:k=h.L.length
   ·have:=S.range k i u b;omega
   ·rw[Xr e] at a;exact S.there k p i u a b
  ·have:=S.range k i u b
   simp;omega
theorem StT.shut {s:Sig}{h:Qc}(S:StT s h) (v:Qk):StT s (h.shut v).2:=by
 unfold Qc.shut
 cases ha:h.at v with
 | none=>exact S
 | some p =>
   obtain⟨o,n,j,g,c,m⟩:=Qc.at_some ha
   have b:=(Zi c).1;simp only[g,Int.toNat_natCast]
   have f:=fun k=>Qc.place_set b noP (h.left+p.pages) k;refine⟨fun k q i t a l=>?_,fun k q i u a d=>?_,fun k i u d=>?_⟩
   ·rw[f] at a
    by_cases e:k=j
    ·rw[Xs e] at a;simp[noP] at a
    ·rw[Xr e] at a;exact S.thing k q i t a l
   ·rw[f] at a
    by_cases e:k=j
    ·rw[Xs e] at a;simp[noP] at a
    ·rw[Xr e] at a;exact S.there k q i u a d
   ·have:=S.range k i u d;simp;omega
def Sig.add (s:Sig) (k:Int) (i:Nat) (u:TT 6):Sig:=fun k' i'=>if k'=k/\i'=i then some u else s k' i'
theorem Sig.add_le {s:Sig}{k:Int}{u:TT 6}(h:s k i=none):s.le (s.add k i u):=fun c b t a=>by
 unfold Sig.add;rw[Xr (fun e=>by rw[e.1,e.2,h] at a;cases a)];exact a
theorem StT.put {s:Sig}{h:Qc}(S:StT s h){v:Qk}{t:Qs}{p:Ql}{u:TT 6}(C:h.at v=some p) (A:u.r=v.region) (L:QbZ s t u) :
 (∃ s',s.le s'/\StT s' (h.put v t words).2.2/\((h.put v t words).2.1=0->Qew s' (h.put v t words).1 u)):=by
 obtain⟨O,H,j,c,E,G⟩:=Qc.at_some C
 have z:=(Zi E).1;by_cases e:p.tight words=true/\h.left=0
 ·rw[Qc.put_full t words C e.1 e.2]
  exact⟨s,fun _ _ _ h=>h,S,fun h=>by cases h⟩
 ·rw[Qc.put_ok t words C c e]
  have n:s v.region p.l.length=none:=by
   cases hs:s v.region p.l.length with
   | none=>rfl
   | some w =>
     obtain⟨y,g⟩:=S.there _ p _ w H hs
     have:=(Zi g).1
     omega
  have le:=Sig.add_le (u:=u) n;have M:=fun k=>Qc.place_set z { p.roomed words with l:=p.l++[t] } (h.roomLeft p words) k;have K:(p.roomed words).there=true:=by rw[Ql.roomed_there];exact G
  refine⟨s.add v.region p.l.length u,le,⟨fun k q i y a f=>?_,fun k q i w a d=>?_,fun k i w d=>?_⟩,fun _=>?_⟩
  ·rw[M] at a
   by_cases b:k=j
   ·rw[Xs b] at a
    simp only[K,if_true,Option.some.injEq] at a
    subst a;simp only at f
    rcases Nat.lt_or_ge i p.l.length with F | F
    ·rw[XP F] at f
     obtain⟨w,D,B,J⟩:=S.thing k p i y (by rw[b,<-c];exact H) f
     exact⟨w,le _ _ _ D,B,J.mono le⟩
    ·rw[XQ F] at f
     have:=(Zi f).1
     have N:i - p.l.length=0:=by simp at this;omega
     rw[N] at f;simp at f;subst f
     refine⟨u,?_,by rw[A,c,b],L.mono le⟩
     unfold Sig.add;rw[Xs ⟨by rw[c,b],by omega⟩]
   ·rw[Xr b] at a
    obtain⟨w,D,B,J⟩:=S.thing k q i y a f
    exact⟨w,le _ _ _ D,B,J.mono le⟩
  ·rw[M] at a
   unfold Sig.add at d;by_cases b:k=j
   ·rw[Xs b] at a
    simp only[K,if_true,Option.some.injEq] at a
    subst a;by_cases o:k=v.region/\i=p.l.length
    ·exact⟨t,by simp[o.2]⟩
    ·rw[Xr o] at d
     obtain⟨y,g⟩:=S.there k p i w (by rw[b,<-c];exact H) d
     exact⟨y,by rw[XP (Zi g).1];exact g⟩
   ·rw[Xr (fun e=>b (by rw[e.1,c]))] at d
    rw[Xr b] at a
    exact S.there k q i w a d
  ·unfold Sig.add at d;by_cases o:k=v.region/\i=p.l.length
   ·rw[o.1,c];simp;omega
   ·rw[Xr o] at d
    have:=S.range k i w d;simp;omega
  ·have m:s.add v.region p.l.length u (j:Int) p.l.length=some u:=by unfold Sig.add;rw[Xs ⟨c.symm,Z⟩]
   rcases L with ⟨I,x,-⟩|⟨I,x,-⟩
   ·exact .inr (.inr ⟨.inr x,by rw[x];unfold Qs.knd;rw[I];rfl,by rw[A,c],by simp,by simpa using m⟩)
   ·exact .inr (.inr ⟨.inl x,by rw[x];unfold Qs.knd;rw[I];rfl,by rw[A,c],by simp,by simpa using m⟩)
theorem Qew.thing {s:Sig}{h:Qc}(S:StT s h){x:Qk}{u:TT 6}(m:Qew s x u) (n:u.kind=3\/u.kind=4){p:Ql}(j:h.place u.r=some p):∃ t,h.thing x=some t/\QbZ s t u/\x.kind=u.kind:=by
 rcases m with ⟨k,-⟩|⟨k,-⟩|⟨k,b,e,o,l⟩
 ·omega
 ·omega
 ·have a:h.place x.region=some p:=by rw[e];exact j
  obtain⟨t,f⟩:=S.there _ p _ u a l
  obtain⟨w,g,q,i⟩:=S.thing _ p _ t a f
  rw[l] at g;cases g
  refine⟨t,Qc.thing_iff.2 ⟨by rw[b];exact n,p,by rw[e];exact j,o,f,?_⟩,i,b⟩
  rcases i with ⟨c,d,-⟩|⟨c,d,-⟩
  ·rw[c,b,d];rfl
  ·rw[c,b,d];rfl
theorem StT.set {s:Sig}{h:Qc}(S:StT s h){v x:Qk}{t:Qs}{u:TT 6}(J:h.thing v=some t) (V:QbZ s t u) (H:s v.region v.thing.toNat=some u) (F:t.arr=true->x.kind=1) (R:t.arr=false->∀ w,u.2.2[k]?=some w->Qew s x (w.at 5)) (Q:k<t.l.length) :
 (h.set v (k:Int) x).1=0/\StT s (h.set v (k:Int) x).2:=by
 obtain⟨U,p,m,X,M,W⟩:=Qc.thing_iff.1 J
 obtain⟨q0,O,E⟩:=Qc.place_some m
 have o:=(Zi O).1
 have e:h.set v (k:Int) x=(0,{ h with L:=h.L.set v.region.toNat { p with l:=p.l.set v.thing.toNat { t with l:=t.l.set k x } } }):=by
  unfold Qc.set;rw[J,m]
  simp only
  rw[Xr (fun e=>e.2 (F e.1)),Xr (by omega),XT]
 rw[e]
 refine⟨Z,?_⟩
 have a:((v.region.toNat:Nat):Int)=v.region:=by omega
 have K:=fun j=>Qc.place_set o { p with l:=p.l.set v.thing.toNat { t with l:=t.l.set k x } } h.left j
 have A:QbZ s { t with l:=t.l.set k x } u:=by
  rcases V with ⟨n,z,B⟩|⟨n,z,B,T⟩
  ·refine .inl ⟨n,z,fun y g=>?_⟩;rcases List.mem_or_eq_of_mem_set g with r | r
   ·exact B y r
   ·rw[r];exact F n
  ·refine .inr ⟨n,z,by simpa using B,fun j y w g f=>?_⟩;simp only at g
   by_cases d:j=k
   ·subst d;simp[Q] at g
    subst g;exact R n w f
   ·rw[List.getElem?_set_ne (Ne.symm d)] at g
    exact T j y w g f
 refine⟨fun j q i D c b=>?_,fun j q i w c f=>?_,fun j i w f=>?_⟩
 ·rw[K] at c
  by_cases d:j=v.region.toNat
  ·rw[Xs d] at c
   simp only[E,if_true,Option.some.injEq] at c
   subst c;simp only at b
   by_cases I:i=v.thing.toNat
   ·subst I
    have:=(Zi M).1
    simp[this] at b
    subst b;obtain⟨w,G,P,-⟩:=S.thing v.region p _ t m M
    rw[H] at G;cases G
    exact⟨u,by rw[d,a];exact H,by rw[d,a];exact P,A⟩
   ·rw[List.getElem?_set_ne (Ne.symm I)] at b
    exact S.thing j p i D (by rw[d,a];exact m) b
  ·rw[Xr d] at c;exact S.thing j q i D c b
 ·rw[K] at c
  by_cases d:j=v.region.toNat
  ·rw[Xs d] at c
   simp only[E,if_true,Option.some.injEq] at c
   subst c;obtain⟨D,C⟩:=S.there j p i w (by rw[d,a];exact m) f
   have N:=(Zi C).1;exact⟨_,Zg (by simpa using N)⟩
  ·rw[Xr d] at c;exact S.there j q i w c f
 ·have:=S.range j i w f
  simpa using this
abbrev rtm (r:List Int) (t:TT 6):Option (TT 6):=t.ren r.length (fun i=>r.getD i 0)
structure FrT (g:Sig) (h:Qc) (s:JSt) (v:List Qk) (r:List Int):Prop where
 rl:r.length=s.H.length
 pos:∀ k∈r,0<=k
 held:∀ k,s.H.getD k false=true->∃ p,h.place (r.getD k 0)=some p
 dist:∀ j k,s.H.getD j false=true->s.H.getD k false=true->r.getD j 0=r.getD k 0->j=k
 vl:v.length=s.L.length
 val:∀ (j:Nat) (t:TT 6) (x:Qk),s.L[j]?=some t->v[j]?=some x->∃ u,rtm r t=some u/\Qew g x u
section
variable {g g':Sig}{h h':Qc}{s:JSt}{v:List Qk}{r:List Int}
theorem FrT.keep (F:FrT g h s v r) (d:g.le g') (e:∀ k,s.H.getD k false=true->∃ p,h'.place (r.getD k 0)=some p):FrT g' h' s v r :=
 ⟨F.rl,F.pos,e,F.dist,F.vl,fun j t x b f=>by obtain⟨u,c,a⟩:=F.val j t x b f;exact⟨u,c,a.mono d⟩⟩
theorem FrT.at (F:FrT g h s v r){k:Int}{t:TT 6}(d:s.at k=some t):∃ x u,QE v k=some x/\rtm r t=some u/\Qew g x u:=by
 obtain⟨-,i,f,a⟩:=Qbp d
 obtain⟨x,b⟩:∃ x,v[k.toNat]?=some x:=⟨_,Zg (by rw[F.vl];omega)⟩
 obtain⟨u,e,c⟩:=F.val _ t x a b
 exact⟨x,u,by unfold QE;rw[Xr (by omega)];exact b,e,c⟩
theorem Qhk {t u:TT 6}(h:rtm r t=some u):u.kind=t.kind:=(Zx h).1
theorem QlO {t u:TT 6}(h:rtm r t=some u) (b:t.kind≠1):0<=t.r/\t.r<r.length/\u.r=r.getD t.r.toNat 0:=by
 have:=(Zx h).2.1
 unfold Qah at this;have a:¬ t.1=1:=b;rw[Xr a] at this
 split at this
 ·cases this
 ·rename_i c
  split at this
  ·cases this
  ·have e:u.2.1=r.getD t.2.1.toNat 0:=(Xn this).symm;show 0<=t.2.1/\t.2.1<r.length/\u.2.1=r.getD t.2.1.toNat 0;exact⟨by omega,by omega,e⟩
theorem Qew.kind {x:Qk}{u:TT 6}(h:Qew g x u):x.kind=u.kind:=by
 rcases h with ⟨b,a⟩|⟨b,a,-⟩|⟨-,a,-⟩
 ·rw[b,a]
 ·rw[b,a]
 ·exact a
theorem FrT.want (F:FrT g h s v r){k d:Int}{e:Bool}(w:s.want k d e=0):∃ x t u,s.at k=some t/\QE v k=some x/\rtm r t=some u/\Qew g x u/\x.kind=d/\t.kind=d/\u.kind=d/\(e=true->d≠1->∃ p,h.place u.r=some p):=by
 obtain⟨t,n,f,o⟩:=QaG w
 obtain⟨x,u,y,j,l⟩:=F.at n
 have m:=Qhk j;refine⟨x,t,u,n,y,j,l,by rw[l.kind,m,f],f,by rw[m,f],fun q z=>?_⟩
 obtain⟨a,b,c⟩:=QlO j (by rw[f];exact z)
 have i:=o q;unfold Qa7 at i;simp only[Bool.and_eq_true,decide_eq_true_eq] at i
 rw[c]
 exact F.held _ i.2
theorem FrT.num (F:FrT g h s v r){k:Int}{a:Bool}(c:s.want k 1 a=0):∃ n,QB v k=some n:=by
 obtain⟨x,t,u,-,d,-,-,b,-⟩:=F.want c
 exact⟨x.n,by unfold QB;rw[d];simp[b]⟩
theorem FrT.fields (F:FrT g h s v r):∀ {l:List Int}{ts:List (TT 6)},s.fields l=some ts->∃ xs,Qq v l=some xs/\xs.length=ts.length/\∀ (j:Nat) (x:Qk) (t:TT 6),xs[j]?=some x->ts[j]?=some t->∃ u,rtm r t=some u/\Qew g x u
 | [],ts,e=>by simp[JSt.fields] at e;subst e;exact⟨[],Z,Z,fun j x t o=>by simp at o⟩
 | k::l,ts,e=>by
   simp only[JSt.fields] at e
   cases h1:s.at k with
   | none=>simp[h1] at e
   | some t =>
     simp only[h1] at e
     cases h2:s.fields l with
     | none=>simp[h2] at e
     | some tl =>
       simp only[h2] at e
       cases e
       obtain⟨x,u,f,i,m⟩:=F.at h1
       obtain⟨xs,d,n,c⟩:=F.fields h2
       refine⟨x::xs,by simp only[Qq,f,d],by simp[n],fun j y w b a=>?_⟩
       cases j with
       | zero=>simp at b a;subst b a;exact⟨u,i,m⟩
       | succ j=>exact c j y w (by simpa using b) (by simpa using a)
theorem FrT.push (F:FrT g h s v r){xs:List Qk}{ts:List (TT 6)}(i:xs.length=ts.length) (k:∀ (j:Nat) (x:Qk) (t:TT 6),xs[j]?=some x->ts[j]?=some t->∃ u,rtm r t=some u/\Qew g x u){d:JSt}(e:d.H=s.H) (f:d.L=s.L++ts):FrT g h d (v++xs) r:=by
 refine⟨by rw[e];exact F.rl,F.pos,by rw[e];exact F.held,by rw[e];exact F.dist,by rw[f];simp[F.vl,i],fun j t x b a=>?_⟩
 rw[f] at b
 rcases Nat.lt_or_ge j s.L.length with c | c
 ·rw[XP c] at b
  rw[XP (by rw[F.vl];exact c)] at a
  exact F.val j t x b a
 ·rw[XQ c] at b
  rw[XQ (by rw[F.vl];exact c),F.vl] at a
  exact k _ x t a b
theorem Qer (n:Int):∃ u,rtm r tInt=some u/\Qew g (Qaz n) u:=⟨tInt,Z,.inl ⟨Z,Z⟩⟩
end
def Own (s:JSt) (r:List Int) (k:Int):Prop:=∃ j:Nat,s.H.getD j false=true/\s.f.regs<=j/\r.getD j 0=k
def Stk (m:List (MFunc 6)) (g:Sig) (h:Qc):(Int->Prop)->MFunc 6->Nat->List Int->List IFr->Prop
 | _,_,gi,_,[]=>gi=0
 | A,fn,gi,cr,d::rest=>∃ fd bl x s,m[d.f]?=some fd/\fd.blocks[d.b]?=some bl/\0<d.i/\bl.code[d.i - 1]?=some x/\x.op=14/\x.k=gi/\s=(JSt.start m fd bl).upto (bl.code.take (d.i - 1))/\FrT g h s d.v d.r /\
  (∀ k:Nat,(k:Int)<fn.regs->cr.getD k 0=d.r.getD (x.regs.getD k 0).toNat 0)/\(∀ k,s.H.getD k false=true->¬ A (d.r.getD k 0))/\Stk m g h (fun k=>A k\/Own s d.r k) fd d.f d.r rest
theorem Stk.keep {m:List (MFunc 6)}{g i:Sig}{h h':Qc}(l:g.le i):∀ {rest:List IFr}{A A':Int->Prop}{fn:MFunc 6}{gi:Nat}{cr cr':List Int},(∀ k,¬ A k->(∃ p,h.place k=some p)->∃ p,h'.place k=some p)->(∀ k,A' k->A k\/h.place k=none)->(∀ k:Nat,(k:Int)<fn.regs->cr'.getD k 0=cr.getD k 0)->Stk m g h A fn gi cr rest->Stk m i h' A' fn gi cr' rest
 | [],_,_,_,_,_,_,_,_,_,S=>S
 | d::rest,A,A',fn,gi,cr,cr',hp,hA,hc,S=>by
   obtain⟨w,v,x,s,r,n,u,o,y,q,t,F,z,j,f⟩:=S
   refine⟨w,v,x,s,r,n,u,o,y,q,t,F.keep l (fun k a=>hp _ (j k a) (F.held k a)),fun k a=>(hc k a).trans (z k a),fun k a e=>?_,?_⟩
   ·rcases hA _ e with b | b
    ·exact j k a b
    ·obtain⟨p,c⟩:=F.held k a;rw[b] at c;cases c
   ·exact Stk.keep l (fun k a=>hp k (fun e=>a (.inl e))) (fun k a=>by
     rcases a with b | b
     ·exact(hA k b).imp .inl id
     ·exact .inl (.inr b)) (fun k a=>rfl) f
structure Inv (m:List (MFunc 6)) (g:Sig) (M:IM) (fn:MFunc 6) (bl:MBlock 6) (s:JSt):Prop where
 hf:m[M.top.f]?=some fn
 hb:fn.blocks[M.top.b]?=some bl
 hi:M.top.i<=bl.code.length
 hs:s=(JSt.start m fn bl).upto (bl.code.take M.top.i)
 fr:FrT g M.h s M.top.v M.top.r
 st:StT g M.h
 stk:Stk m g M.h (Own s M.top.r) fn M.top.f M.top.r M.rest
theorem QcD {c:Int}{e:MEnd}:∀ {l:List Qx}{s:JSt}{i:Nat},(Q0 c e s i l).1=0->(∀ j x,l[j]?=some x->(s.upto (l.take j)).code x=0)/\(s.upto l).fin e=0
 | [],s,i,h=>by
   refine⟨fun j x f=>by simp at f,?_⟩
   simp only[Q0] at h
   by_cases a:s.fin e=0
   ·exact a
   ·rw[Xs a] at h;exact absurd h a
 | x::r,s,i,h=>by
   simp only[Q0] at h
   by_cases a:s.code x=0
   ·rw[Xr (by simpa using a)] at h
    obtain⟨d,g⟩:=QcD h
    refine⟨fun j y b=>?_,g⟩
    cases j with
    | zero=>simp at b;subst b;exact a
    | succ j=>exact d j y (by simpa using b)
   ·rw[Xs a] at h;exact absurd h a
theorem Qcx {m:List (MFunc 6)}(h:(QX m).1=0):(modFault m).1=0/\∀ (k:Nat) (f:MFunc 6) (q:Nat) (b:MBlock 6),m[k]?=some f->f.blocks[q]?=some b->(∀ j x,b.code[j]?=some x->((JSt.start m f b).upto (b.code.take j)).code x=0)/\((JSt.start m f b).upto b.code).fin b.fin=0:=by
 unfold QX at h;by_cases e:(modFault m).1=0
 ·rw[Xr (by simpa using e)] at h
  refine⟨e,fun k f q b c g=>?_⟩
  have a:=Zq h k f c;unfold QaA at a;have d:=Zq a q b g;exact QcD d
 ·rw[Xs e] at h;exact absurd h e
def Qce (m:List (MFunc 6)) (M:IM):Prop:=M.done=true\/∃ g fn bl s,Inv m g M fn bl s
theorem JSt.upto_mf:∀ (l:List Qx) (s:JSt),(s.upto l).m=s.m/\(s.upto l).f=s.f
 | [],s=>⟨Z,Z⟩
 | x::l,s=>by
   have:=JSt.upto_mf l (s.next x)
   exact this
section
variable {m:List (MFunc 6)}{g g':Sig}{M M':IM}{fn:MFunc 6}{bl:MBlock 6}{s:JSt}{x:Qx}{op:Int->Int->Int->Option Int}
theorem Inv.mf (I:Inv m g M fn bl s):s.m=m/\s.f=fn:=by
 have:=JSt.upto_mf (bl.code.take M.top.i) (JSt.start m fn bl)
 rw[I.hs];exact this
theorem Inv.on (I:Inv m g M fn bl s) (a:bl.code[M.top.i]?=some x) (c:M'.top.f=M.top.f) (hb:M'.top.b=M.top.b) (hi:M'.top.i=M.top.i+1) (d:M'.rest=M.rest) (F:FrT g' M'.h (s.next x) M'.top.v M'.top.r) (S:StT g' M'.h) (K:Stk m g' M'.h (Own (s.next x) M'.top.r) fn M.top.f M'.top.r M.rest):Inv m g' M' fn bl (s.next x):=by
 have e:=(Zi a).1;refine⟨by rw[c];exact I.hf,by rw[hb];exact I.hb,by rw[hi];omega,?_,F,S,by rw[c,d];exact K⟩
 rw[hi,XV,a]
 show s.next x=(JSt.start m fn bl).upto (bl.code.take M.top.i++[x])
 rw[JSt.upto_snoc,<-I.hs]
theorem Inv.val (I:Inv m g M fn bl s) (w:bl.code[M.top.i]?=some x) (l:x.op≠3) (n:x.op≠4) (G:M'.top.f=M.top.f) (hb:M'.top.b=M.top.b) (hi:M'.top.i=M.top.i+1) (z:M'.rest=M.rest) (a:M'.top.r=M.top.r) (o:g.le g') (q:∀ k p,M.h.place k=some p->∃ p,M'.h.place k=some p) (S:StT g' M'.h){xs:List Qk}(B:M'.top.v=M.top.v++xs) (A:xs.length=(s.makes x).2.length)
 (d:∀ (j:Nat) (y:Qk) (t:TT 6),xs[j]?=some y->(s.makes x).2[j]?=some t->∃ u,rtm M.top.r t=some u/\Qew g' y u):Qce m M':=by
 refine .inr ⟨g',fn,bl,_,I.on w G hb hi z ?_ S ?_⟩
 ·rw[a,B]
  have F:FrT g' M'.h s M.top.v M.top.r:=I.fr.keep o (fun k c=>by obtain⟨p,e⟩:=I.fr.held k c;exact q _ p e);exact F.push A d (Qby l n) Z
 ·rw[a]
  refine I.stk.keep o (fun k _ ⟨p,e⟩=>q k p e) (fun k c=>?_) (fun k _=>rfl);obtain⟨j,C,E,D⟩:=c
  exact .inl ⟨j,by rw[<-Qby l n (s:=s)];exact C,E,D⟩
theorem Inv.still (I:Inv m g M fn bl s) (d:bl.code[M.top.i]?=some x) (w:x.op≠3) (n:x.op≠4) (z:M'.top.f=M.top.f) (hb:M'.top.b=M.top.b) (hi:M'.top.i=M.top.i+1) (l:M'.rest=M.rest) (a:M'.top.r=M.top.r) (c:M'.h=M.h) (q:M'.top.v=M.top.v) (o:(s.makes x).2=[]):Qce m M' :=
 I.val d w n z hb hi l a (fun _ _ _ h=>h) (fun k p e=>⟨p,by rw[c];exact e⟩) (by rw[c];exact I.st) (xs:=[]) (by simpa using q) (by rw[o];rfl) (fun j y t u=>by simp at u)
theorem Inv.one (I:Inv m g M fn bl s) (o:bl.code[M.top.i]?=some x) (B:x.op≠3) (z:x.op≠4) (C:M'.top.f=M.top.f) (hb:M'.top.b=M.top.b) (hi:M'.top.i=M.top.i+1) (q:M'.rest=M.rest) (c:M'.top.r=M.top.r) (n:M'.h=M.h){y:Qk}{t:TT 6}(A:M'.top.v=M.top.v++[y]) (l:(s.makes x).2=[t]) (w:∃ u,rtm M.top.r t=some u/\Qew g y u):Qce m M' :=
 I.val o B z C hb hi q c (fun _ _ _ h=>h) (fun k p e=>⟨p,by rw[n];exact e⟩) (by rw[n];exact I.st) (xs:=[y]) A (by rw[l];rfl) (fun j D E d a=>by
  rw[l] at a
  have:j=0:=by have:=(Zi d).1;simp at this;omega
  subst this;simp at d a;subst d a;exact w)
theorem IM.over_good (m:List (MFunc 6)) (M:IM) (e:Int):Qce m (M.over e):=.inl Z
abbrev IM.one (M:IM):IM:={ M with fuel:=M.fuel+1,top:={ M.top with i:=M.top.i+1 } }
def Qcf (m:List (MFunc 6)) (op:Int->Int->Int->Option Int) (M:IM) (x:Qx):Prop:=∃ M',IM.ins m op M.one x=some M'/\Qce m M'
theorem QkA (I:Inv m g M fn bl s) (a:bl.code[M.top.i]?=some x) (b:s.code x=0) (h:x.op=1):Qcf m op M x:=by
 refine⟨_,by unfold IM.ins;rw[Xs h],?_⟩
 exact I.one a (by omega) (by omega) Z Z Z Z Z Z Z (by rw[Qab (.inl h)]) (Qer _)
theorem Qki (I:Inv m g M fn bl s) (p:bl.code[M.top.i]?=some x) (o:s.code x=0) (h:x.op=2):Qcf m op M x:=by
 have c:=(Q9 o).2.1;rw[Qbo h] at c
 obtain⟨j,f⟩:=QH c
 obtain⟨a,d⟩:=I.fr.num j
 obtain⟨b,l⟩:=I.fr.num f
 unfold Qcf IM.ins;rw[Xr (by omega),Xs h]
 show ∃ M',(match QB M.top.v x.a with | none=>none | some a=>match QB M.top.v x.b with | none=>none | some b=>match op x.k a b with | none=>some (M.one.over 1) | some n=>some (M.one.push [Qaz n]))=some M'/\Qce m M';rw[d,l]
 cases e:op x.k a b with
 | none=>simp only[e];exact⟨_,Z,IM.over_good _ _ _⟩
 | some n=>simp only[e];exact⟨_,Z,I.one p (by omega) (by omega) Z Z Z Z Z Z Z (by rw[Qbo h]) (Qer _)⟩
theorem QlE (I:Inv m g M fn bl s) (a:bl.code[M.top.i]?=some x) (b:s.code x=0) (h:x.op=12):Qcf m op M x:=by
 unfold Qcf IM.ins;rw[Xr (by omega),Xr (by omega),Xr (by omega),Xs h]
 show ∃ M',(match M.inp with | []=>some (M.one.over 4) | n::l=>some (IM.push { M.one with inp:=l } [Qaz n]))=some M'/\Qce m M'
 cases e:M.inp with
 | nil=>exact⟨_,Z,IM.over_good _ _ _⟩
 | cons n l=>exact⟨_,Z,I.one a (by omega) (by omega) Z Z Z Z Z Z Z (by rw[Qab (.inr h)]) (Qer _)⟩
theorem QkE (I:Inv m g M fn bl s) (c:bl.code[M.top.i]?=some x) (f:s.code x=0) (h:x.op=13):Qcf m op M x:=by
 have b:=(Q9 f).2.1;rw[Qbe h] at b
 obtain⟨a,d⟩:=I.fr.num b
 unfold Qcf IM.ins;rw[Xr (by omega),Xr (by omega),Xr (by omega),Xr (by omega),Xs h]
 show ∃ M',(match QB M.top.v x.a with | none=>none | some n=>if M.out.length=2000 then some (M.one.over 8) else some { M.one with out:=M.out++[n] })=some M'/\Qce m M';rw[d]
 by_cases e:M.out.length=2000
 ·simp only[e,if_true];exact⟨_,Z,IM.over_good _ _ _⟩
 ·simp only[e,if_false];exact⟨_,Z,I.still c (by omega) (by omega) Z Z Z Z Z Z Z (by rw[Qbe h])⟩
theorem Qbn (h:x.op=4\/x.op=5\/x.op=6\/x.op=7\/x.op=8\/x.op=9\/x.op=10\/x.op=11):IM.ins m op M x=M.mem x:=by
 unfold IM.ins;rw[Xr (by omega),Xr (by omega),Xr (by omega),Xr (by omega),Xr (by omega),Xr (by omega)]
theorem Qc.get_nat {h:Qc}{v:Qk}{t:Qs}(e:h.thing v=some t){k:Int}(a:0<=k):h.get v k=match t.l[k.toNat]? with | none=>(noV,1) | some x=>(x,0):=by
 unfold Qc.get;rw[e];simp only;rw[Xr (by omega)];first | done | (cases t.l[k.toNat]?<;>rfl)
theorem QkD (I:Inv m g M fn bl s) (d:bl.code[M.top.i]?=some x) (q:s.code x=0) (h:x.op=11):Qcf m op M x:=by
 have c:=(Q9 q).2.1;rw[Qbc h] at c
 obtain⟨a,t,u,A,r,C,e,w,z,n,y⟩:=I.fr.want c
 obtain⟨p,o⟩:=y Z (by omega)
 obtain⟨f,k,B,D⟩:=e.thing I.st (.inr n) o
 unfold Qcf;rw[Qbn (by omega)]
 unfold IM.mem;have b:QE M.one.top.v x.a=some a:=r;rw[b]
 simp only
 rw[Xr (by omega),Xr (by omega),Xr (by omega),Xr (by omega),Xr (by omega),Xr (by omega),Xr (by omega)]
 have j:M.h.len a=((f.l.length:Int),0):=by unfold Qc.len;rw[k]
 show ∃ M',(if a.kind=4/\(M.h.len a).2=0 then some (M.one.push [Qaz (M.h.len a).1]) else none)=some M'/\Qce m M';rw[j,Xs ⟨w,Z⟩]
 exact⟨_,Z,I.one d (by omega) (by omega) Z Z Z Z Z Z Z (by rw[Qbc h]) (Qer _)⟩
theorem QjM (I:Inv m g M fn bl s) (H:bl.code[M.top.i]?=some x) (q:s.code x=0) (h:x.op=9):Qcf m op M x:=by
 have e:=(Q9 q).2.1;rw[QaD h] at e
 obtain⟨w,F⟩:=QH e
 obtain⟨a,t,u,L,r,O,C,J,N,j,A⟩:=I.fr.want w
 obtain⟨n,E⟩:=I.fr.num F
 obtain⟨p,o⟩:=A Z (by omega)
 obtain⟨D,f,k,P⟩:=C.thing I.st (.inr j) o
 unfold Qcf;rw[Qbn (by omega)]
 unfold IM.mem;have d:QE M.one.top.v x.a=some a:=r;have c:QB M.one.top.v x.b=some n:=E;rw[d]
 simp only
 rw[Xr (by omega),Xr (by omega),Xr (by omega),Xr (by omega),Xr (by omega),Xs h,c]
 simp only
 rw[Xs J]
 show ∃ M',(if (M.h.get a n).2=1 then some (M.one.over 2) else if (M.h.get a n).2=0 then some (M.one.push [(M.h.get a n).1]) else none)=some M'/\Qce m M';by_cases K:n<0
 ·have:M.h.get a n=(noV,1):=by unfold Qc.get;rw[f];simp only;rw[Xs K]
  rw[this]
  exact⟨_,by rw[Xs Z],IM.over_good _ _ _⟩
 ·rw[Qc.get_nat f (by omega)]
  cases ey:D.l[n.toNat]? with
  | none=>exact⟨M.one.over 2,Z,IM.over_good _ _ _⟩
  | some y =>
    refine⟨M.one.push [y],Z,I.one H (by omega) (by omega) Z Z Z Z Z Z Z (by rw[QaD h]) ⟨tInt,Z,.inl ⟨Z,?_⟩⟩⟩
    rcases k with ⟨z,G,B⟩|⟨z,G,-⟩
    ·exact B y (Zm ey)
    ·omega
theorem QkT (I:Inv m g M fn bl s) (R:bl.code[M.top.i]?=some x) (B:s.code x=0) (h:x.op=6):Qcf m op M x:=by
 obtain⟨b,c,-⟩:=Q9 B
 have j:0<=x.k:=by
  unfold Qx.form at b;repeat' split at b
  all_goals first | omega | cases b
 have d:=Qb7 (s:=s) h;rw[d] at c
 cases et:s.at x.a with
 | none=>rw[et] at c;cases c
 | some t =>
   rw[et] at c d
   simp only at c d
   by_cases e:s.want x.a 3 true=0
   ·rw[Xs e] at c d
    cases ek:t.2.2[x.k.toNat]? with
    | none=>rw[ek] at c;cases c
    | some w =>
      rw[ek] at d
      simp only at d
      obtain⟨a,V,u,q,C,P,K,S,T,z,G⟩:=I.fr.want e
      rw[et] at q;cases q
      obtain⟨p,A⟩:=G Z (by omega)
      obtain⟨L,N,r,U⟩:=K.thing I.st (.inl z) A
      rcases r with ⟨F,Q,-⟩|⟨F,Q,H,E⟩
      ·omega
      ·obtain⟨J,n,O⟩:=Qes (Zx P).2.2 ek
       obtain⟨y,o⟩:∃ y,L.l[x.k.toNat]?=some y:=⟨_,Zg (by rw[H];exact(Zi n).1)⟩
       have D:M.h.get a x.k=(y,0):=by rw[Qc.get_nat N j,o]
       unfold Qcf;rw[Qbn (by omega)]
       unfold IM.mem;have f:QE M.one.top.v x.a=some a:=C;rw[f]
       simp only
       rw[Xr (by omega),Xr (by omega),Xr (by omega),Xs h]
       show ∃ M',(if a.kind=3/\(M.h.get a x.k).2=0 then some (M.one.push [(M.h.get a x.k).1]) else none)=some M'/\Qce m M';rw[D,Xs ⟨S,Z⟩]
       exact⟨_,Z,I.one R (by omega) (by omega) Z Z Z Z Z Z Z (by rw[d]) ⟨_,TT.ren_at 5 O,E _ y J o n⟩⟩
   ·rw[Xr e] at c;exact absurd c e
theorem Qc.set_place {h:Qc}{v y:Qk}{k:Int}{j:Int}{p:Ql}(e:h.place j=some p):∃ p',(h.set v k y).2.place j=some p':=by
 unfold Qc.set;split
 ·rename_i t q d a
  obtain⟨f,b,c⟩:=Qc.place_some a
  split
  ·exact⟨p,e⟩
  ·split
   ·exact⟨p,e⟩
   ·simp only
    rw[Qc.place_set (Zi b).1]
    split
    ·exact⟨_,by first | rw[Xs c] | rfl⟩
    ·exact⟨p,e⟩
 ·exact⟨p,e⟩
theorem Qc.put_place {h:Qc}{v:Qk}{t:Qs}{j:Int}{p:Ql}(e:h.place j=some p):∃ p',(h.put v t words).2.2.place j=some p':=by
 unfold Qc.put;split
 ·exact⟨p,e⟩
 ·rename_i q c
  obtain⟨f,g,i,d,b,a⟩:=Qc.at_some c
  split
  ·exact⟨p,e⟩
  ·simp only
   rw[Qc.place_set (by rw[d];exact(Zi b).1)]
   split
   ·have:(q.more t words).there=true:=by unfold Ql.more;split<;>exact a
    exact⟨_,by rw[Xs this]⟩
   ·exact⟨p,e⟩
theorem Inv.stored (I:Inv m g M fn bl s) (b:bl.code[M.top.i]?=some x) (f:x.op≠3) (l:x.op≠4) (c:(s.makes x).2=[]){a y:Qk}{k:Int}(S:StT g (M.h.set a k y).2):Qce m { M.one with h:=(M.h.set a k y).2 } :=
 I.val (M':={ M.one with h:=(M.h.set a k y).2 }) b f l Z Z Z Z Z (fun _ _ _ h=>h) (fun j p e=>Qc.set_place e) S (xs:=[]) (by simp) (by rw[c];rfl) (fun j y t d=>by simp at d)
theorem Qks (I:Inv m g M fn bl s) (hx:bl.code[M.top.i]?=some x) (n:s.code x=0) (h:x.op=7):Qcf m op M x:=by
 obtain⟨d,c,-⟩:=Q9 n
 have aa:0<=x.k:=by
  unfold Qx.form at d;repeat' split at d
  all_goals first | omega | cases d
 have e:=Qca (s:=s) h;rw[e] at c
 cases et:s.at x.a with
 | none=>rw[et] at c;cases c
 | some t =>
   rw[et] at c e
   simp only at c e
   by_cases o:s.want x.a 3 true=0
   ·rw[Xs o] at c e
    cases ek:t.2.2[x.k.toNat]? with
    | none=>rw[ek] at c;cases c
    | some w =>
      rw[ek] at e c
      simp only at e c
      cases eb:s.at x.b with
      | none=>rw[eb] at c;cases c
      | some vt =>
        rw[eb] at c e
        simp only at c e
        by_cases E:bdec (w.at 5=vt)=true
        ·rw[Xs E] at e
         have A:w.at 5=vt:=by simpa[bdec] using E
         obtain⟨a,t',u,H,U,e3,K,e5,e6,R,W⟩:=I.fr.want o
         rw[et] at H;cases H
         obtain⟨p,S⟩:=W Z (by omega)
         obtain⟨th,f1,Q,f3⟩:=K.thing I.st (.inl R) S
         obtain⟨y,O,y1,y2,y3⟩:=I.fr.at eb
         rcases Q with ⟨B,P,-⟩|⟨B,P,J,V⟩
         ·omega
         ·obtain⟨wu,G,w2⟩:=Qes (Zx e3).2.2 ek
          have q:x.k.toNat<th.l.length:=by rw[J];exact(Zi G).1
          have D:O=wu.at 5:=by
           have:=TT.ren_at 5 w2
           rw[A] at this
           have f:vt.ren M.top.r.length (fun i=>M.top.r.getD i 0)=some O:=y2;rw[this] at f;exact(Xn f).symm
          have X:g a.region a.thing.toNat=some u:=by
           rcases K with ⟨T,-⟩|⟨T,-⟩|⟨-,-,-,-,c5⟩
           ·omega
           ·omega
           ·exact c5
          obtain⟨L,N⟩:=I.st.set (x:=y) f1 (.inr ⟨B,P,J,V⟩) X (fun n=>by rw[B] at n;cases n) (fun _ w' j=>by
           rw[G] at j;cases j;rw[<-D];exact y3) q
          have F:((x.k.toNat:Nat):Int)=x.k:=by omega
          rw[F] at L N
          unfold Qcf;rw[Qbn (by omega)]
          unfold IM.mem;have C:QE M.one.top.v x.a=some a:=U;have z:QE M.one.top.v x.b=some y:=y1;rw[C]
          simp only
          rw[Xr (by omega),Xr (by omega),Xr (by omega),Xr (by omega),Xs h,z]
          show ∃ M',(if a.kind=3/\(M.h.set a x.k y).1=0 then some { M.one with h:=(M.h.set a x.k y).2 } else none)=some M'/\Qce m M';rw[Xs ⟨e5,L⟩]
          exact⟨_,Z,I.stored hx (by omega) (by omega) (by rw[e]) N⟩
        ·rw[Xr E] at c;cases c
   ·rw[Xr o] at c;exact absurd c o
theorem QhE (I:Inv m g M fn bl s) (hx:bl.code[M.top.i]?=some x) (K:s.code x=0) (h:x.op=10):Qcf m op M x:=by
 have d:=(Q9 K).2.1;rw[Qan h] at d
 obtain⟨O,d⟩:=QH d
 obtain⟨U,r⟩:=QH d
 obtain⟨a,t,u,e1,N,e3,E,W,e6,H,Q⟩:=I.fr.want O
 obtain⟨n,T⟩:=I.fr.num U
 obtain⟨z,X⟩:=I.fr.num r
 obtain⟨p,J⟩:=Q Z (by omega)
 obtain⟨F,w,C,f3⟩:=E.thing I.st (.inr H) J
 have R:g a.region a.thing.toNat=some u:=by
  rcases E with ⟨L,-⟩|⟨L,-⟩|⟨-,-,-,-,c5⟩
  ·omega
  ·omega
  ·exact c5
 have B:F.arr=true:=by
  rcases C with ⟨P,-⟩|⟨-,b2,-⟩
  ·exact P
  ·omega
 unfold Qcf;rw[Qbn (by omega)]
 unfold IM.mem;have j:QE M.one.top.v x.a=some a:=N;have f:QB M.one.top.v x.b=some n:=T;have o:QB M.one.top.v x.c=some z:=X;rw[j]
 simp only
 rw[Xr (by omega),Xr (by omega),Xr (by omega),Xr (by omega),Xr (by omega),Xr (by omega),Xs h,f]
 simp only
 rw[o]
 simp only
 rw[Xs W]
 show ∃ M',(if (M.h.set a n (Qaz z)).1=1 then some (M.one.over 2) else if (M.h.set a n (Qaz z)).1=0 then some { M.one with h:=(M.h.set a n (Qaz z)).2 } else none)=some M'/\Qce m M';by_cases hn:n<0\/F.l.length<=n.toNat
 ·have:(M.h.set a n (Qaz z)).1=1:=by
   obtain⟨V,q,S,-⟩:=Qc.thing_iff.1 w
   unfold Qc.set;rw[w,S];simp only;rw[Xr (fun e=>e.2 Z),Xs hn]
  rw[Xs this]
  exact⟨_,Z,IM.over_good _ _ _⟩
 ·obtain⟨y,G⟩:=I.st.set (x:=Qaz z) (k:=n.toNat) w C R (fun _=>rfl) (fun D=>by rw[B] at D;cases D) (by omega)
  have A:((n.toNat:Nat):Int)=n:=by omega
  rw[A] at y G
  rw[Xr (by rw[y];decide),Xs y]
  exact⟨_,Z,I.stored hx (by omega) (by omega) (by rw[Qan h]) G⟩
theorem Inv.made (I:Inv m g M fn bl s) (l:bl.code[M.top.i]?=some x) (B:x.op≠3) (D:x.op≠4){T u:TT 6}(k:(s.makes x).2=[T]){a:Qk}{p:Ql}{t:Qs}(f:M.h.at a=some p) (A:rtm M.top.r T=some u) (z:u.r=a.region) (n:QbZ g t u):∃ M',M.one.got (M.h.put a t words)=some M'/\Qce m M':=by
 obtain⟨E,v,S,o⟩:=I.st.put (words:=words) f z n
 rcases Qc.put_code (t:=t) (words:=words) f with d | ⟨C,-⟩
 ·unfold IM.got;rw[Xr (by rw[d];decide),Xs d]
  refine⟨_,Z,?_⟩
  exact I.val l B D Z Z Z Z Z v (fun j q e=>Qc.put_place e) S (xs:=[(M.h.put a t words).1]) Z (by rw[k];rfl) (fun j y w c b=>by
   rw[k] at b
   have:j=0:=by have:=(Zi c).1;simp at this;omega
   subst this;simp at c b;subst c b;exact⟨u,A,o d⟩)
 ·unfold IM.got;rw[Xs C]
  exact⟨_,Z,IM.over_good _ _ _⟩
theorem Qh4 (I:Inv m g M fn bl s) (O:bl.code[M.top.i]?=some x) (A:s.code x=0) (h:x.op=8):Qcf m op M x:=by
 have e:=(Q9 A).2.1;have f:=Qa3 (s:=s) h;rw[f] at e
 cases et:s.at x.a with
 | none=>rw[et] at e;cases e
 | some t =>
   rw[et] at e f
   simp only at e f
   obtain⟨C,L⟩:=QH e
   obtain⟨a,V,u,q,B,w,F,P,G,Q,D⟩:=I.fr.want C
   rw[et] at q;cases q
   obtain⟨n,J⟩:=I.fr.num L
   obtain⟨p,z⟩:=D Z (by omega)
   have d:a.region=u.r:=by
    rcases F with ⟨S,-⟩|⟨-,-,c⟩|⟨-,-,c,-⟩
    ·omega
    ·exact c
    ·exact c
   have l:M.h.at a=some p:=by unfold Qc.at;rw[Xs P,d];exact z
   unfold Qcf;rw[Qbn (by omega)]
   unfold IM.mem;have k:QE M.one.top.v x.a=some a:=B;have j:QB M.one.top.v x.b=some n:=J;rw[k]
   simp only
   rw[Xr (by omega),Xr (by omega),Xs h,j]
   simp only
   by_cases o:n<0\/15<n
   ·rw[Xs o]
    exact⟨_,Z,IM.over_good _ _ _⟩
   ·rw[Xr o]
    show ∃ M',M.one.got (M.h.array a n)=some M'/\Qce m M';unfold Qc.array;rw[Xr o]
    obtain⟨R,T,U⟩:=QlO w (by omega)
    have N:rtm M.top.r (mkT 4 t.r [])=some (mkT 4 u.r []:TT 6):=by
     have K:Qah M.top.r.length (fun i=>M.top.r.getD i 0) 4 t.r=some u.r:=by
      have:=(Zx w).2.1
      have E:t.1=2:=G;rw[E] at this
      exact this
     exact Qai (t:=(mkT 4 t.r []:TT 6)) K Z
    exact I.made O (by omega) (by omega) (by rw[f]) l N d.symm (.inl ⟨Z,Z,fun y H=>by rw[List.eq_of_mem_replicate H];rfl⟩)
theorem QhQ (I:Inv m g M fn bl s) (hx:bl.code[M.top.i]?=some x) (hc:s.code x=0) (h:x.op=5):Qcf m op M x:=by
 have d:=(Q9 hc).2.1;have e:=QaQ (s:=s) h;rw[e] at d
 cases et:s.at x.a with
 | none=>rw[et] at d;cases d
 | some t =>
   rw[et] at d e
   simp only at d e
   by_cases F:s.want x.a 2 true=0
   ·rw[Xs F] at d e
    cases ef:s.fields x.args with
    | none=>rw[ef] at d;cases d
    | some l =>
      rw[ef] at d e
      simp only at d e
      by_cases R:4<TT.height (n:=7) (mkT 3 t.r l)
      ·rw[Xs R] at d;cases d
      ·rw[Xr R] at e
       obtain⟨a,t',u,W,e2,e3,e4,e5,e6,e7,e8⟩:=I.fr.want F
       rw[et] at W;cases W
       obtain⟨p,hp⟩:=e8 Z (by omega)
       have f:a.region=u.r:=by
        rcases e4 with ⟨J,-⟩|⟨-,-,c⟩|⟨-,-,c,-⟩
        ·omega
        ·exact c
        ·exact c
       have O:M.h.at a=some p:=by unfold Qc.at;rw[Xs e5,f];exact hp
       obtain⟨D,b1,b2,b3⟩:=I.fr.fields ef
       obtain⟨k,B⟩:∃ k,Qal (TT.ren M.top.r.length (fun i=>M.top.r.getD i 0)) l=some k:=by
        clear e d R
        have V:∀ (l:List (TT 6)),(∀ t∈l,∃ u,rtm M.top.r t=some u)->∃ k,Qal (TT.ren M.top.r.length (fun i=>M.top.r.getD i 0)) l=some k:=by
         intro l
         induction l with
         | nil=>exact fun _=>⟨[],Z⟩
         | cons z zs ih =>
           intro E;obtain⟨X,N⟩:=E z (by simp)
           obtain⟨us,H⟩:=ih (fun t ht=>E t (by simp[ht]))
           have A:z.ren M.top.r.length (fun i=>M.top.r.getD i 0)=some X:=N;exact⟨X::us,by simp only[Qal,A,H]⟩
        refine V l (fun z E=>?_);obtain⟨j,hj⟩:=List.mem_iff_getElem?.1 E
        obtain⟨y,S⟩:∃ y,D[j]?=some y:=⟨_,Zg (by rw[b2];exact(Zi hj).1)⟩
        obtain⟨w,w1,-⟩:=b3 j y z S hj
        exact⟨w,w1⟩
       have hr:Qah M.top.r.length (fun i=>M.top.r.getD i 0) 3 t.r=some u.r:=by
        have:=(Zx e3).2.1
        have ek:t.1=2:=e6;rw[ek] at this
        exact this
       have P:(mkT 3 t.r l:TT 7).ren M.top.r.length (fun i=>M.top.r.getD i 0)=some (mkT 3 u.r k:TT 7):=Qai (t:=(mkT 3 t.r l:TT 7)) hr B;have hT:=TT.ren_at 5 P;unfold Qcf;rw[Qbn (by omega)]
       unfold IM.mem;have L:QE M.one.top.v x.a=some a:=e2;have G:Qq M.one.top.v x.args=some D:=b1;rw[L]
       simp only
       rw[Xr (by omega),Xs h,G]
       show ∃ M',M.one.got (M.h.tuple a D)=some M'/\Qce m M';unfold Qc.tuple;obtain⟨J,c2⟩:=ZX.1 B
       refine I.made hx (by omega) (by omega) (by rw[e]) O hT (show u.r=a.region from f.symm) (.inr ⟨Z,Z,?_,fun j y w S U=>?_⟩)
       ·show D.length=(k.map (TT.at 4)).length;simp[b2,J]
       ·have b:(k.map (TT.at 4))[j]?=some w:=U;rw[XS] at b
        cases eu:k[j]? with
        | none=>rw[eu] at b;cases b
        | some uj =>
          rw[eu] at b
          have K:uj.at 4=w:=Xn b;obtain⟨q,o⟩:∃ q,l[j]?=some q:=⟨_,Zg (by rw[<-J];exact(Zi eu).1)⟩
          obtain⟨w',d1,d2⟩:=b3 j y q S o
          have T:=c2 j q o;rw[eu] at T
          have C:q.ren M.top.r.length (fun i=>M.top.r.getD i 0)=some w':=d1;rw[T] at C;cases C
          have Q:uj.height<=4:=by
           rw[TT.ren_height T]
           have:=(Zo (t:=(mkT 3 t.r l:TT 7)) (m:=4)).1 (by omega) q (Zm o)
           omega
          rw[<-K,TT.at_back 4 uj Q]
          exact d2
   ·rw[Xr F] at d;exact absurd d F
end
end Go.Proofs.YtiebmclhgebhpafGreat
