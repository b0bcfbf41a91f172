import Derived.Orders
import Derived.Below
import Derived.RowKit
import Derived.Test.YtjhdpajpibdnaafGreatRows
import Derived.WalkKit
import Derived.WalkLawsBesides
import Derived.ProofKit
import Derived.OpenShut
import Derived.Deep.OwnRows
import Derived.Deep.AppendLies
import Derived.Deep.Draws
import Derived.Deep.Slices
import Derived.Deep.Strs
import Derived.ChangeOld
import Derived.Deep.QuietTactic
import Derived.Deep.DeepCutAuto
import Derived.Deep.CutBlock
import Derived.Deep.MidRow
import Derived.Laws.StructEq
import Derived.ChangeKeysEq
set_option maxHeartbeats 16000000
set_option maxRecDepth 100000
namespace Go.Proofs.YtjhdpajpibdnaafGreat
open Go.ChangeShapes Go.WideShapes Go.ChangeAt Go.RowKit _root_.Go.Proofs.Tryz
set_option linter.unusedSimpArgs false
set_option linter.unusedVariables false
variable {w w' w6 wc wr w1 w2 w9:World}{b n c k X g m B i N rc ac cm fi bh R bi d j cap most q ca x ci na id f s cR cA rl al G o pages fl fm:Nat}{O A Q O' Q2 OO:Nat→Prop}{v u:Value}{a p ag pm pa pi pR pA ra aa:Option Addr}{t e:TypeId}{l inp:List Int}{P:Program}{xa xb xc xk words fu fr xn pg:Int}{L bs:List Bool}{cs xs ds:List Value}{ops:Array Oper}
abbrev Iv (x:Int):Value:=.int .i64 x
abbrev Pv (b o:Nat):Value:=.pointer (some ⟨b,o,none⟩)
abbrev Nv:Value:=.slice none 0 0
theorem Zr {n:Nat}{w:World}:Below n w w:=Below.refl _ _
theorem Zg {α:Type _}{l:List α}{i:Nat}(h:i<l.length):l[i]?=some l[i]:=List.getElem?_eq_getElem h
theorem Zi {α:Type _}{i:Nat}{a:α}{l:List α}(h:l[i]?=some a):∃ h,l[i]=a:=List.getElem?_eq_some_iff.1 h
theorem Za {α:Type _}{xs:Array α}{i:Nat}{d:α}:xs.getD i d=xs[i]?.getD d:=Array.getD_eq_getD_getElem?
theorem Zl {n m k:Nat}:n<m→m≤k→n<k:=Nat.lt_of_lt_of_le
theorem Zm {α:Type _}{l:List α}{i:Nat}{a:α}(h:l[i]?=some a):a∈l:=List.mem_of_getElem? h
theorem Zt {n m k:Nat}:n≤m→m≤k→n≤k:=Nat.le_trans
theorem Ze {n:Nat}:n≤n:=Nat.le_refl _
theorem Z {α:Sort _}{a:α}:a=a:=rfl
theorem Y:True:=trivial
theorem Yz {α:Sort _}{a:α}:a=a:=rfl
theorem Yy:True:=trivial
theorem Xe:type_of% @List.all_eq_true:=@List.all_eq_true
theorem Xj:type_of% @Array.getElem?_eq_getElem:=@Array.getElem?_eq_getElem
theorem Xk:type_of% @List.getElem?_eq_none:=@List.getElem?_eq_none
theorem Xm:type_of% @Calls.mono:=@Calls.mono
theorem Xn:type_of% @Option.some.inj:=@Option.some.inj
theorem Xr:type_of% @if_neg:=@if_neg
theorem Xs:type_of% @if_pos:=@if_pos
def Qc3 (o:Oper):List Tmp:=o.op.operands.toList.filterMap fun | .tmp t=>some t | _=>none
def Qn (l:List Oper):List Tmp:=l.filterMap (·.dst)
def nodupB:List Tmp->Bool
 | []=>true
 | t::r=>!r.contains t&&nodupB r
def onB (gs:List (Nat × Option Bool)) (o:Oper) (b:Bool):Bool :=
 match o.guard with
 | none=>b
 | some (g,want)=>match gs.lookup g with
   | some c=>b==(c==some want)
   | none=>false
def Qip (gs:List (Nat × Option Bool)):List Oper->List Bool->Bool
 | [],[]=>true
 | o::l,b::bs=>onB gs o b&&Qip gs l bs
 | _,_=>false
def Qm1 (ops:Array Oper) (ds outs:List Tmp) (o:Oper):Bool :=
 (o.looksAt ops).all fun t=>(outs.contains t&&!ds.contains t)||o.after.any fun e=>Region.binds .any e&&((ops[e.on]?).bind (·.dst)==some t)
def Qdv (i:Nat):List Oper->Bool
 | []=>true
 | o::l=>(o.after.all fun e=>!Region.binds .any e||decide (e.on<i))&&Qdv (i+1) l
def QaS (l:List Oper) (n:Nat) (outs:List Tmp) (gs:List (Nat × Option Bool)) (bs:List Bool):Bool :=
 (gs.all fun g=>((l.toArray[g.1]?).bind (·.dst)).isSome)&&nodupB (Qn l)&&((Qn l).all fun t=>decide (t<n))&&(l.all (Qm1 l.toArray (Qn l) outs))&&Qip gs l bs&&Qdv 0 l
section
variable {P:Program}(E:Tmp->Value->World->Prop) (W:World->Prop) (R:World->World->Prop)
def EO:Option Tmp->Value->World->Prop
 | some t=>E t
 | none=>fun _ _=>True
def Qed (a:Act) (w:World):List Tmp->Prop
 | []=>True
 | t::r=>E t (a.tmps.getD t undef) w/\Qed a w r
def QkM (P:Program) (o:Oper):Prop :=
 ∀ a w,W w->Qed E a w (Qc3 o)->∀ K:Act->World->Prop,(∀ v w',R w w'->W w'->EO E o.dst v w'->K (a.put o.dst v) w')->o.wp P a w K (fun _ _ _=>False)
def QiU (o:Oper):Prop:=∀ w,W w->EO E o.dst undef w
def QeH (P:Program):List Oper->List Bool->Prop
 | o::l,true::bs=>QkM E W R P o/\QeH P l bs
 | o::l,false::bs=>QiU E W o/\QeH P l bs
 | _,_=>True
def Qbs (ops:Array Oper):List (Nat × Option Bool)->Prop
 | []=>True
 | (g,c)::r=>(∀ t,(ops[g]?).bind (·.dst)=some t->∀ v w,W w->E t v w->match c with | some b=>v=.bool b | none=>v=undef)/\Qbs ops r
def Qa3 (a:Act) (w:World):List Tmp->Prop
 | []=>True
 | t::r=>E t (a.tmps.getD t undef) w/\Qa3 a w r
def QI (a:Act) (vs:Tmp->Value):List Tmp->Act
 | []=>a
 | t::r=>QI (a.put (some t) (vs t)) vs r
end
theorem wpq {P:Program}{o:Oper}{a:Act}{K d:Act->World->Prop}{Q:Exit->Act->World->Prop}(h:∀ a w,K a w->d a w)
 (c:o.wp P a w K (fun _ _ _=>False)):o.wp P a w d Q:=by
 unfold Oper.wp at *;generalize (execOp a.eval o).run P w=r at *
 cases r with
 | ok n w' =>
   cases n<;>simp only[Oper.upon] at c |- <;>
    first
     | exact h _ _ c
     | exact Xm c (fun e f b=>by cases e<;>first | exact h _ _ b | exact b.elim | (obtain⟨_,_,b⟩:=b;exact b.elim))
     | exact Rows.mono c (fun _ _ b=>h _ _ b)
 | halt x w'=>cases x<;>simp only[Oper.upon] at c |-
theorem Qaz (b:Tmp->Value):∀ (ds:List Tmp) (a:Act),(QI a b ds).defers=a.defers
 | [],_=>rfl
 | _::r,a=>by rw[QI,Qaz b r];rfl
theorem Qbt (b:Tmp->Value):∀ (ds:List Tmp) (a:Act),(QI a b ds).tmps.size=a.tmps.size
 | [],_=>rfl
 | _::r,a=>by rw[QI,Qbt b r];simp[Act.put]
theorem Qeg (f:Tmp->Value):∀ (ds:List Tmp) (a:Act) (t:Nat),t<a.tmps.size->(QI a f ds).tmps[t]?=if t∈ds then some (f t) else a.tmps[t]?
 | [],_,_,_=>by simp[QI]
 | d::r,a,t,ht=>by
   rw[QI,Qeg f r _ t (by simpa[Act.put] using ht)]
   by_cases c:t∈r
   ·simp[c]
   ·by_cases b:d=t
    ·subst b;simp[c,Act.put,ht]
    ·have:t≠d:=fun e=>b e.symm
     simp[c,this,Act.put,b]
theorem nodup_apart:∀ (l:List Oper) (i j:Nat) (oi oj:Oper) (t:Tmp),nodupB (Qn l)=true->l[i]?=some oi->l[j]?=some oj->oi.dst=some t->oj.dst=some t->i=j
 | [],_,_,_,_,_,_,hi,_,_,_=>by simp at hi
 | o::l,i,j,oi,oj,t,h,hi,hj,di,dj=>by
   have e:∀ {k:Nat} {c:Oper},l[k]?=some c->c.dst=some t->t∈Qn l:=fun {k c} m a=>List.mem_filterMap.2 ⟨c,Zm m,a⟩
   have n:nodupB (Qn l)=true:=by
    unfold Qn at h |-
    cases a:o.dst with
    | none=>simpa[List.filterMap_cons,a] using h
    | some d=>simp[a,nodupB] at h;exact h.2
   have b:o.dst=some t->t ∉ Qn l:=fun a=>by
    unfold Qn at h |-;simp only[List.filterMap_cons,a,nodupB,Bool.and_eq_true,Bool.not_eq_true'] at h
    intro f
    have:=h.1
    simp at this
    simp at f
    obtain⟨x,b,g⟩:=f
    exact this x b g
   cases i with
   | zero =>
     cases j with
     | zero=>rfl
     | succ j=>simp at hi hj;subst hi;exact absurd (e hj dj) (b di)
   | succ i =>
     cases j with
     | zero=>simp at hi hj;subst hj;exact absurd (e hi di) (b dj)
     | succ j=>simp at hi hj;rw[nodup_apart l i j oi oj t n hi hj di dj]
section
variable {P:Program}{E:Tmp->Value->World->Prop}{W:World->Prop}{R:World->World->Prop}
theorem Qey {a:Act}{w:World}:∀ (l:List Tmp),(∀ t∈l,E t (a.tmps.getD t undef) w)->Qed E a w l
 | [],_=>trivial
 | t::r,h=>⟨h t (by simp),Qey r fun x b=>h x (by simp[b])⟩
theorem Qcw {a:Act}{w:World}:∀ (l:List Tmp),Qa3 E a w l->∀ t∈l,E t (a.tmps.getD t undef) w
 | [],_,_,h=>by simp at h
 | x::r,h,t,b=>by
   rcases List.mem_cons.1 b with rfl | b
   ·exact h.1
   ·exact Qcw r h.2 t b
theorem QeR {a:Array Oper}:∀ (gs:List (Nat × Option Bool)),Qbs E W a gs->∀ g c,gs.lookup g=some c->∀ t,(a[g]?).bind (·.dst)=some t->∀ v w,W w->E t v w->match c with | some b=>v=.bool b | none=>v=undef
 | [],_,_,_,h=>by simp at h
 | (g',c')::r,h,g,c,hl=>by
   by_cases e:g=g'
   ·subst e;simp at hl;subst hl;exact h.1
   ·have d:(g==g')=false:=by simpa using e
    simp[List.lookup_cons,d] at hl;exact QeR r h.2 g c hl
theorem mem_of_lookup:∀ (gs:List (Nat × Option Bool)) (g:Nat) (c:Option Bool),gs.lookup g=some c->(g,c)∈gs
 | [],_,_,h=>by simp at h
 | (g',c')::r,g,c,hl=>by
   by_cases e:g=g'
   ·subst e;simp at hl;subst hl;simp
   ·have a:(g==g')=false:=by simpa using e
    simp[List.lookup_cons,a] at hl;exact List.mem_cons_of_mem _ (mem_of_lookup r g c hl)
theorem filter_set:∀ (l:List Bool) (i:Nat) (h:i<l.length),l[i]=false->((l.set i true).filter (·==false)).length+1=(l.filter (·==false)).length
 | [],_,h,_=>by simp at h
 | x::l,0,_,h=>by simp at h;subst h;simp
 | x::l,i+1,hi,h=>by
   simp at h hi
   have:=filter_set l i hi h
   cases x<;>simp at this |-<;>omega
theorem Qir (gs:List (Nat × Option Bool)):∀ (l:List Oper) (bs:List Bool),Qip gs l bs=true->QeH E W R P l bs->∀ (i:Nat) (o:Oper),l[i]?=some o->(onB gs o true=true/\QkM E W R P o)\/(onB gs o false=true/\QiU E W o)
 | [],_,_,_,_,_,h=>by simp at h
 | _::_,[],h,_,_,_,_=>by simp[Qip] at h
 | x::l,b::bs,h,ha,i,o,ho=>by
   simp only[Qip,Bool.and_eq_true] at h
   cases i with
   | zero =>
     simp at ho;subst ho
     cases b with
     | true=>exact .inl ⟨h.1,ha.1⟩
     | false=>exact .inr ⟨h.1,ha.1⟩
   | succ i =>
     simp at ho
     cases b with
     | true=>exact Qir gs l bs h.2 ha.2 i o ho
     | false=>exact Qir gs l bs h.2 ha.2 i o ho
theorem back_at:∀ (l:List Oper) (k i:Nat) (o:Oper),Qdv k l=true->l[i]?=some o->∀ e∈o.after,Region.binds .any e=true->e.on<k+i
 | [],_,_,_,_,h=>by simp at h
 | x::l,k,i,o,h,ho=>by
   simp only[Qdv,Bool.and_eq_true] at h
   cases i with
   | zero =>
     simp at ho;subst ho
     intro e a b
     have:=Array.all_eq_true_iff_forall_mem.1 h.1 e a
     simpa[b] using this
   | succ i =>
     simp at ho
     intro e a b
     have:=back_at l (k+1) i o h.2 ho e a b
     omega
structure Qnu (E:Tmp->Value->World->Prop) (W:World->Prop) (l:List Oper) (outs:List Tmp) (a0:Act) (listed:Array Bool) (a:Act) (w:World):Prop where
 world:W w
 defers:a.defers=a0.defers
 size:a.tmps.size=a0.tmps.size
 outer:∀ t,t ∉ Qn l->a.tmps[t]?=a0.tmps[t]?
 outs:∀ t∈outs,t ∉ Qn l->E t (a.tmps.getD t undef) w
 known:∀ j o t,l[j]?=some o->o.dst=some t->listed.getD j false=true->E t (a.tmps.getD t undef) w
theorem Qhd {l:List Oper}{outs:List Tmp}{gs:List (Nat × Option Bool)}{a0:Act}{Q:Exit->Act->World->Prop}
 (hB:QaS l a0.tmps.size outs gs bs=true) (hR:∀ t v w w',R w w'->E t v w->E t v w') (hG:Qbs E W l.toArray gs) (hA:QeH E W R P l bs)
 (ae:∀ (vs:Tmp->Value) w',W w'->(∀ t,(Qn l).contains t=true->E t (vs t) w')->Q .normal (QI a0 vs (Qn l)) w') :
 ∀ (fuel:Nat) (listed:Array Bool) (a:Act) (w:World),listed.size=l.length->(listed.toList.filter (·==false)).length<=fuel->Qnu E W l outs a0 listed a w ->
  wpAny P .any l.toArray Q fuel listed a w:=by
 simp only[QaS,Bool.and_eq_true] at hB
 obtain⟨⟨⟨⟨⟨ap,aw⟩,M⟩,au⟩,ak⟩,am⟩:=hB
 have ag:∀ (listed:Array Bool) (a:Act) (w:World),listed.size=l.length->Region.ready .any l.toArray listed=[]->Qnu E W l outs a0 listed a w->Q .normal a w:=by
  intro listed a w T I f
  have ab:∀ j,j<l.length->listed.getD j false=true:=by
   intro j
   induction j using Nat.strongRecOn with
   | _ j ih =>
     intro z
     cases r:listed.getD j false with
     | true=>rfl
     | false =>
       exfalso
       have:j∈Region.ready .any l.toArray listed:=by
        unfold Region.ready;refine List.mem_filter.2 ⟨by simpa using z,?_⟩
        have V:listed.getD j true=false:=by
         have av:j<listed.size:=by omega
         simp[Array.getD,av] at r |-;exact r
        have U:l.toArray[j]?=some l[j]:=by simp[z]
        rw[V,U]
        simp only[Bool.not_false,Bool.true_and,Option.map_some,Option.getD_some]
        rw[Array.all_eq_true_iff_forall_mem]
        intro e he
        cases hbd:Region.binds .any e with
        | false=>rfl
        | true =>
          have:=back_at l 0 j l[j] am (by simp[z]) e he hbd
          simp only[Bool.not_true,Bool.false_or]
          exact ih e.on (by omega) (by omega)
       rw[I] at this
       cases this
  have af:∀ t∈Qn l,E t (a.tmps.getD t undef) w/\t<a0.tmps.size:=by
   intro t q;obtain⟨o,ho,s⟩:=List.mem_filterMap.1 q
   obtain⟨j,z⟩:=List.getElem?_of_mem ho
   have A:j<l.length:=by
    rcases Nat.lt_or_ge j l.length with h | h
    ·exact h
    ·rw[Xk h] at z;cases z
   exact⟨f.known j o t z s (ab j A),by simpa using Xe.1 M t q⟩
  have he:a=QI a0 (fun t=>a.tmps.getD t undef) (Qn l):=by
   have V:a.tmps=(QI a0 (fun t=>a.tmps.getD t undef) (Qn l)).tmps:=by
    refine Array.ext (by rw[Qbt,f.size]) fun t O N=>?_;have h3:t<a0.tmps.size:=by rw[<-f.size];exact O
    have:=Qeg (fun t=>a.tmps.getD t undef) (Qn l) a0 t h3
    rw[Xj N] at this
    by_cases hm:t∈Qn l
    ·rw[Xs hm] at this
     simp only[Option.some.injEq] at this
     rw[this];simp[Array.getD,O]
    ·rw[Xr hm,<-f.outer t hm,Xj O] at this
     exact(Xn this).symm
   have U:a.defers=(QI a0 (fun t=>a.tmps.getD t undef) (Qn l)).defers:=by rw[Qaz,f.defers]
   cases a with
   | mk t d =>
     simp only at V U
     generalize hp:QI a0 (fun x=>t.getD x undef) (Qn l)=p at V U |-
     cases p;simp only at V U;rw[V,U]
  rw[he]
  exact ae _ _ f.world fun t q=>(af t (by simpa using q)).1
 intro fuel
 induction fuel with
 | zero =>
   intro listed a w T hf f
   have I:Region.ready .any l.toArray listed=[]:=by
    rw[List.eq_nil_iff_forall_not_mem]
    intro i hi;obtain⟨O,N⟩:=List.mem_filter.1 hi
    have A:i<l.length:=by simpa using O
    simp only[Bool.and_eq_true,Bool.not_eq_true'] at N
    have:listed[i]'(by omega)=false:=by
     have:=N.1;simp[Array.getD,show i<listed.size by omega] at this;exact this
    have hm:false∈listed.toList.filter (·==false):=List.mem_filter.2 ⟨by rw[<-this];simp,by simp⟩
    have:=List.length_pos_of_mem hm
    omega
   exact⟨I,ag listed a w T I f⟩
 | succ fuel ih =>
   intro listed a w T hf f;refine⟨fun I=>ag listed a w T I f,fun i hi=>?_⟩
   obtain⟨O,N⟩:=List.mem_filter.1 hi
   have A:i<l.length:=by simpa using O
   simp only[Bool.and_eq_true,Bool.not_eq_true'] at N
   obtain⟨ad,m⟩:=N
   have aa:i<listed.size:=by omega
   have ah:listed[i]=false:=by simp[Array.getD,aa] at ad;exact ad
   have ho:l.toArray[i]?=some l[i]:=by simp[A]
   have n:l[i]?=some l[i]:=by simp[A]
   generalize ay:l[i]=o at ho n;rw[ho] at m
   simp only[Option.map_some,Option.getD_some] at m
   rw[Array.all_eq_true_iff_forall_mem] at m
   have u:∀ t∈o.looksAt l.toArray,E t (a.tmps.getD t undef) w:=by
    intro t q
    have:=Xe.1 (Xe.1 au o (Zm n)) t q
    rw[Bool.or_eq_true] at this
    rcases this with h | h
    ·simp only[Bool.and_eq_true,Bool.not_eq_true'] at h
     exact f.outs t (by simpa using h.1) (by simpa using h.2)
    ·obtain⟨k,hk,h⟩:=Array.any_eq_true.1 h
     simp only[Bool.and_eq_true,beq_iff_eq] at h
     obtain⟨r,s⟩:=h
     have H:=m _ (Array.getElem_mem hk);rw[r] at H
     simp only[Bool.not_true,Bool.false_or] at H
     generalize o.after[k]=e at *;obtain⟨oj,ao,ar⟩:=Option.bind_eq_some_iff.1 s
     exact f.known e.on oj t (by simpa using ao) ar H
   have al:Qed E a w (Qc3 o):=Qey _ fun t q=>u t (by
    unfold Oper.looksAt;exact List.mem_append_left _ q)
   have hw:∀ b,onB gs o b=true->Region.wanted o (yielded l.toArray a.tmps)=b:=by
    intro b r;unfold onB at r;unfold Region.wanted
    cases hg:o.guard with
    | none=>rw[hg] at r;simp only at r |-;exact r.symm
    | some gw =>
      obtain⟨g,ax⟩:=gw
      rw[hg] at r
      simp only at r |-
      cases H:gs.lookup g with
      | none=>rw[H] at r;cases r
      | some c =>
        rw[H] at r
        simp only[beq_iff_eq] at r
        have hy:yielded l.toArray a.tmps g=c:=by
         unfold yielded;have an:(g,c)∈gs:=mem_of_lookup gs g c H;have B:=Xe.1 ap _ an
         cases s:(l.toArray[g]?).bind (·.dst) with
         | none=>rw[s] at B;cases B
         | some t =>
           have hE:=u t (by unfold Oper.looksAt;rw[hg];simp only[s];simp);have F:=QeR gs hG g c H t s _ _ f.world hE;obtain⟨og,aq,ai⟩:=Option.bind_eq_some_iff.1 s
           have S:t<a.tmps.size:=by
            rw[f.size]
            have:=Xe.1 M t (List.mem_filterMap.2 ⟨og,Zm (by simpa using aq),ai⟩)
            simpa using this
           have q:a.tmps[t]?=some (a.tmps.getD t undef):=by simp[Array.getD,S]
           simp only[Option.bind_some,q]
           cases c with
           | none=>simp only at F;rw[F];rfl
           | some b=>simp only at F;rw[F]
        rw[hy,r]
   have J:((listed.setIfInBounds i true).toList.filter (·==false)).length<=fuel:=by
    have h3:=filter_set listed.toList i (by simpa using aa) (by simpa using ah);rw[Array.toList_setIfInBounds]
    omega
   have G:∀ v w',W w'->(∀ t v,E t v w->E t v w')->EO E o.dst v w'->Qnu E W l outs a0 (listed.setIfInBounds i true) (a.put o.dst v) w':=by
    intro v w' L y F
    have C:∀ t,o.dst≠some t->(a.put o.dst v).tmps[t]?=a.tmps[t]?:=by
     intro t q
     cases s:o.dst with
     | none=>rfl
     | some d =>
       have:d≠t:=fun e=>q (by rw[s,e])
       simp[Act.put,this]
    have D:∀ (b c:Array Value) (t:Nat),b[t]?=c[t]?->b.getD t undef=c.getD t undef:=by
     intro b c t h;rw[Za,Za,h]
    refine⟨L,?_,?_,?_,?_,?_⟩
    ·rw[<-f.defers];cases o.dst<;>rfl
    ·rw[<-f.size];cases o.dst<;>simp[Act.put]
    ·intro t q;rw[C t (fun e=>q (List.mem_filterMap.2 ⟨o,Zm n,e⟩)),f.outer t q]
    ·intro t q hn;rw[D _ _ t (C t (fun e=>hn (List.mem_filterMap.2 ⟨o,Zm n,e⟩)))]
     exact y _ _ (f.outs t q hn)
    ·intro j oj t z s X;by_cases K:j=i
     ·subst K;rw[n] at z
      obtain rfl:=Xn z
      have S:t<a.tmps.size:=by
       rw[f.size]
       have:=Xe.1 M t (List.mem_filterMap.2 ⟨o,Zm n,s⟩)
       simpa using this
      rw[s] at F |-
      have:(a.put (some t) v).tmps.getD t undef=v:=by simp[Act.put,Array.getD,S]
      rw[this];exact F
     ·have aj:o.dst≠some t:=fun e=>K (nodup_apart l j i oj o t aw z n s e);rw[D _ _ t (C t aj)]
      refine y _ _ (f.known j oj t z s ?_);have ac:i≠j:=fun e=>K e.symm;rw[Za,Array.getElem?_setIfInBounds_ne ac] at X
      rw[Za];exact X
   unfold wpOp;rw[ho]
   simp only
   rcases Qir gs l bs ak hA i o n with ⟨h,y⟩|⟨h,y⟩
   ·rw[hw true h,Xs Z]
    refine .inl (wpq (fun a' w' hh=>hh) (y a w f.world al _ fun v w' I L F=>?_));exact ih _ _ _ (by simpa using T) J (G v w' L (fun t v he=>hR t v w w' I he) F)
   ·rw[hw false h]
    simp only[Bool.false_eq_true,if_false]
    exact ih _ _ _ (by simpa using T) J (G undef w f.world (fun _ _ h=>h) (y w f.world))
theorem Qbc {l:List Oper}{outs:List Tmp}{gs:List (Nat × Option Bool)}(h:n<=m) (b:QaS l n outs gs bs=true):QaS l m outs gs bs=true:=by
 simp only[QaS,Bool.and_eq_true] at b |-
 obtain⟨⟨⟨⟨⟨i,e⟩,a⟩,f⟩,g⟩,k⟩:=b
 refine⟨⟨⟨⟨⟨i,e⟩,?_⟩,f⟩,g⟩,k⟩
 rw[Xe] at a |-
 intro t j;have d:t<n:=by simpa using a t j
 have c:t<m:=Zl d h;simpa using c
end
theorem Xb:type_of% @Nat.zero_le:=@Nat.zero_le
theorem Xd:type_of% @Below.heap_setCell:=@Below.heap_setCell
theorem Xf:type_of% @List.length_eq_zero_iff:=@List.length_eq_zero_iff
theorem XC:type_of% @lt_of_block:=@lt_of_block
theorem XL:type_of% @Nat.mul_one:=@Nat.mul_one
theorem XR:type_of% @List.getElem?_take:=@List.getElem?_take
theorem XS:type_of% @List.getElem?_map:=@List.getElem?_map
structure QE (O O':Nat->Prop) (w w':World):Prop where
 os:w'.os=w.os
 tape:w'.tape=w.tape
 output:w'.output=w.output
 size:w.heap.size<=w'.heap.size
 block:∀ k,k<w.heap.size->¬ O k->w'.heap[k]?=w.heap[k]?
 own:∀ k,O' k->O k\/w.heap.size<=k
theorem QE.refl (O:Nat->Prop) (w:World):QE O O w w:=⟨Z,Z,Z,Ze,fun _ _ _=>rfl,fun _ h=>Or.inl h⟩
theorem QE.trans {e:Nat->Prop}{a b c:World}(h:QE O O' a b) (k:QE O' e b c):QE O e a c :=
 ⟨k.os.trans h.os,k.tape.trans h.tape,k.output.trans h.output,Zt h.size k.size,
  fun i f g=>(k.block i (Zl f h.size) (fun j=>(h.own i j).elim g (fun d=>by omega))).trans (h.block i f g),
  fun i f=>(k.own i f).elim (h.own i) (fun d=>Or.inr (Zt h.size d))⟩
theorem QE.mono {P:Nat->Prop}{a b:World}(h:QE O O' a b) (d:∀ k,O k->P k):QE P O' a b :=
 ⟨h.os,h.tape,h.output,h.size,fun i c f=>h.block i c (fun e=>f (d i e)),fun i c=>(h.own i c).imp (d i) id⟩
theorem QE.sub {P:Nat->Prop}{a b:World}(h:QE O O' a b) (c:∀ k,P k->O' k):QE O P a b :=
 ⟨h.os,h.tape,h.output,h.size,h.block,fun i d=>h.own i (c i d)⟩
theorem QE.drewN {a:World}(h:QE O O' a w) (n:Nat):QE O O' a (w.drewN n):=⟨h.os,h.tape,h.output,h.size,h.block,h.own⟩
theorem QE.drew {a:World}(h:QE O O' a w):QE O O' a w.drew:=⟨h.os,h.tape,h.output,h.size,h.block,h.own⟩
theorem QE.alloc {a:World}(h:QE O O' a w) (o:Obj):QE O O' a (w.alloc o) :=
 ⟨h.os,h.tape,h.output,by have:=h.size;simp;omega,fun k b c=>(Below.heap_alloc _ _ _ (by have:=h.size;omega)).trans (h.block k b c),h.own⟩
theorem QE.setCell {a:World}(h:QE O O' a w){p:Addr}(f:O' p.block) (u:Value):QE O O' a (w.setCell p u) :=
 ⟨h.os,h.tape,h.output,by have:=h.size;simp;omega,
  fun k d c=>(Xd _ _ _ _ (fun e=>by subst e;rcases h.own _ f with b | b;exact c b;omega)).trans (h.block k d c),h.own⟩
theorem QE.below {a:World}(h:QE O O' a w) (e:B<=a.heap.size) (b:∀ k,O k->B<=k):Below B a w :=
 ⟨h.os,h.tape,h.output,h.size,fun k d=>h.block k (by omega) (fun c=>by have:=b k c;omega)⟩
theorem QE.of_below {a:World}(h:Below a.heap.size a w) (c:∀ k,O' k->O k\/a.heap.size<=k):QE O O' a w :=
 ⟨h.os,h.tape,h.output,h.size,fun k b _=>h.block k b,c⟩
theorem QE.keep {a:World}(h:QE O O' a w){o:Obj}(b:a.heap[k]?=some o) (hn:¬ O k):w.heap[k]?=some o :=
 (h.block k (XC b) hn).trans b
theorem Qa {c:Array Value}(h:w.heap[b]?=some (.cells c t (0,0))) (i:Nat) (v:Value) (a:c[i]?=some v):w.cell? ⟨b,i,none⟩=some v:=by
 simp[World.cell?,h,a]
theorem Qe {c:Array Value}(h:w.heap[b]?=some (.cells c t (0,0))) (i:Nat):w.frozen? ⟨b,i,none⟩=false:=by
 simp[World.frozen?,h]
theorem Qh {c:Array Value}(h:w.heap[b]?=some (.cells c t (0,0))) (i:Nat) (v:Value) :
 (w.setCell ⟨b,i,none⟩ v).heap[b]?=some (.cells (c.setIfInBounds i v) t (0,0)):=by
 simp[World.setCell,Array.getElem?_modify,h]
theorem Qf (w:World) (c:Array Value) (t:TypeId):(w.alloc (.cells c t)).heap[w.heap.size]?=some (.cells c t (0,0)):=by
 show (w.heap.push _)[w.heap.size]?=_;simp
theorem QK {c d:Array Value}{u:TypeId}{f:Nat × Nat}(h:w.heap[b]?=some (.cells c t f)) (k:w.heap[g]?=some (.cells d u f)) (hn:t≠u):b≠g:=by
 intro e;subst e;rw[h] at k;simp at k;exact hn k.2
def Row (w:World) (O:Nat->Prop) (t:TypeId) (v:Value) (xs:List Int):Prop :=
 w.ownsRow 0 t 1 v xs.length (xs.map (Value.int .i64))/\∀ g,v.ownBlock=some g->O g
theorem Row.nil (w:World) (O:Nat->Prop) (t:TypeId):Row w O t (Nv) []:=⟨⟨Z,Or.inl ⟨Z,Z⟩⟩,by simp[Value.ownBlock]⟩
theorem Row.form {xs:List Int}(h:Row w O t v xs) :
 ∃ a cap,v=.slice a xs.length cap/\(a=none->xs=[]/\cap=0)/\∀ g,a=some g->g=⟨g.block,0,none⟩/\O g.block/\xs.length<=cap/\cap<=maxLen/\∃ c,w.heap[g.block]?=some (.cells c t (0,0))/\c.size=cap/\∀ i,i<xs.length->c[i]?=some (Iv (xs.getD i 0)):=by
 obtain⟨⟨q,k⟩,o⟩:=h
 rcases k with ⟨rfl,m⟩|⟨g,cap,b,rfl,_,d,p,f,j,n⟩
 ·have:xs=[]:=Xf.1 m
  subst this;exact⟨none,0,Z,(fun _=>⟨Z,Z⟩),(fun g e=>by cases e)⟩
 ·refine⟨some ⟨g,0,none⟩,cap,Z,(fun e=>by cases e),(fun r e=>?_)⟩
  cases e
  refine⟨Z,o g Z,p,f,b,d,by simpa using j,fun i l=>?_⟩
  have:(b.toList.take (xs.length*1))[i]?=(xs.map (Value.int .i64))[i]?:=by rw[n]
  rw[XR,Xs (by omega),XS] at this
  rw[<-Array.getElem?_toList,this]
  simp[List.getD,l]
theorem Row.cell {xs:List Int}(h:Row w O t (.slice (some ⟨g,0,none⟩) n cap) xs) (i:Nat) (hi:i<xs.length) :
 w.cell? ⟨g,i,none⟩=some (Iv (xs.getD i 0)):=by
 obtain⟨a,d,e,_,f⟩:=h.form
 cases e
 obtain⟨_,_,_,_,c,j,_,b⟩:=f _ Z
 exact Qa j i _ (b i hi)
theorem Row.keep {xs:List Int}(h:Row w O t v xs) (hb:∀ g,v.ownBlock=some g->w'.heap[g]?=w.heap[g]?) (d:∀ g,v.ownBlock=some g->O' g):Row w' O' t v xs:=by
 obtain⟨⟨j,f⟩,k⟩:=h
 refine⟨⟨j,?_⟩,d⟩
 rcases f with i | ⟨g,b,a,rfl,e,c,r⟩
 ·exact Or.inl i
 ·exact Or.inr ⟨g,b,a,Z,e,(hb g Z).trans c,r⟩
theorem Row.lt {xs:List Int}(h:Row w O t v xs)(a:v.ownBlock=some g):g<w.heap.size:=by
 obtain⟨⟨f,c⟩,j⟩:=h
 rcases c with ⟨rfl,_⟩|⟨i,e,d,rfl,_,b,r⟩
 ·simp[Value.ownBlock] at a
 ·simp[Value.ownBlock] at a;subst a;exact XC b
theorem Row.block {xs:List Int}(h:Row w O t v xs)(a:v.ownBlock=some g):∃ c,w.heap[g]?=some (.cells c t (0,0)):=by
 obtain⟨⟨i,e⟩,k⟩:=h
 rcases e with ⟨rfl,_⟩|⟨j,f,b,rfl,_,d,r⟩
 ·simp[Value.ownBlock] at a
 ·simp[Value.ownBlock] at a;subst a;exact⟨b,d⟩
theorem Row.step {P c:Nat->Prop}{xs:List Int}(h:Row w O t v xs) (k:QE P c w w') (b:∀ x,O x->¬ P x):Row w' O t v xs :=
 h.keep (fun g a=>k.block g (h.lt a) (b g (h.2 g a))) h.2
theorem Row.drewN {xs:List Int}(h:Row w O t v xs) (n:Nat):Row (w.drewN n) O t v xs:=h
theorem Row.init {xs:List Int}(h:Row w O t (.slice (some ⟨g,0,none⟩) n cap) xs) (m:Nat) (j:m<=xs.length) :
 Row w O t (.slice (some ⟨g,0,none⟩) m cap) (xs.take m):=by
 obtain⟨⟨r,l⟩,p⟩:=h
 rcases l with ⟨e,_⟩|⟨f,c,b,e,q,i,s,a,k,o⟩
 ·cases e
 ·cases e
  have d:(xs.take m).length=m:=by simp;omega
  refine⟨⟨by simp,Or.inr ⟨g,cap,b,by rw[d],Xb _,i,by omega,a,k,?_⟩⟩,fun f e=>p f e⟩
  rw[d,XL,List.map_take,<-o,List.take_take,XL,Nat.min_eq_left j]
theorem QD {b k:Nat}(a:k≠b):∀ (vs:List Value) (o:Nat) (w:World),(w.setCells b o vs).heap[k]?=w.heap[k]?
 | [],_,_=>rfl
 | v::r,o,w=>by rw[World.setCells,QD a r];exact Xd _ _ _ _ a
theorem QE.setCells {O O':Nat->Prop}{a:World}{b:Nat}(c:O' b):∀ (vs:List Value) (o:Nat) (w:World),QE O O' a w->QE O O' a (w.setCells b o vs)
 | [],_,_,h=>h
 | v::r,o,w,h=>QE.setCells c r (o+1) _ (h.setCell (p:=⟨b,o,none⟩) c v)
theorem Row.pushed {xs:List Int}{k:Int}{o:Obj}(h:Row w O t v xs) (f:w1.ownsRow 0 t 1 (.slice (some ⟨g,0,none⟩) (xs.length+1) cap) (xs.length+1) (xs.map (Value.int .i64)++[Iv k]))
 (b:v.ownBlock=some g\/g=w.heap.size+1) (a:g<w1.heap.size) (O':Nat->Prop) (d:∀ x,O x\/w.heap.size<=x->x<w1.heap.size->O' x):Row w1 O' t (.slice (some ⟨g,0,none⟩) (xs.length+1) cap) (xs++[k]):=by
 refine⟨?_,fun i e=>?_⟩
 ·have e:(xs++[k]).length=xs.length+1:=by simp
  rw[e,List.map_append];exact f
 ·simp[Value.ownBlock] at e;subst e
  refine d _ ?_ a;rcases b with c | c
  ·exact Or.inl (h.2 _ c)
  ·right;omega
#print axioms Row.init
structure Fr (n:Nat) (a:Act) (L:List (Tmp × Value)):Prop where
 size:a.tmps.size=n
 defers:a.defers=[]
 sl:∀ t v,L.lookup t=some v->a.tmps.getD t undef=v
section
variable {P:Program}{n:Nat}{a:Act}{L:List (Tmp × Value)}{w w':World}{Q:Exit->Act->World->Prop}{ops:Array Oper}{o:Oper}{rest:List Oper}{t:Tmp}{v:Value}
theorem Fr.put (h:Fr n a L) (f:Nat.blt t n=true):Fr n (a.put (some t) v) ((t,v)::L):=by
 have c:t<n:=by simpa[Nat.blt,Nat.ble_eq,Nat.succ_le_iff] using f
 refine⟨by simpa[Act.put] using h.size,h.defers,fun s u b=>?_⟩
 by_cases e:s=t
 ·subst e;simp at b
  subst b
  have:s<a.tmps.size:=by rw[h.size];exact c
  simp[Act.put,Array.getD,this]
 ·have g:(s==t)=false:=by simpa using e
  simp only[List.lookup_cons,g] at b
  have:=h.sl s u b
  have d:t≠s:=fun x=>e x.symm;rw[Za] at this |-
  simp only[Act.put]
  rw[Array.getElem?_setIfInBounds_ne d]
  exact this
theorem Fr.cons (h:Fr n a L) (e:a.tmps.getD t undef=v):Fr n a ((t,v)::L):=by
 refine⟨h.size,h.defers,fun s u b=>?_⟩
 by_cases d:s=t
 ·subst d;simp at b
  subst b;exact e
 ·have c:(s==t)=false:=by simpa using d
  simp only[List.lookup_cons,c] at b
  exact h.sl s u b
theorem Fr.nil (h:Fr n a L):Fr n a []:=⟨h.size,h.defers,fun s u b=>by simp at b⟩
theorem Fr.keep {b:List (Tmp × Value)}(h:Fr n a L) (k:Fr n a b) (e:L.lookup t=some v):Fr n a ((t,v)::b):=k.cons (h.sl t v e)
theorem Qjx {l:List Oper}(h:∀ ops:Array Oper,(∀ g:Nat,(ops[g]?).bind (fun o:Oper=>o.dst)=(l[g]?).bind (fun o:Oper=>o.dst))->wpList P ops Q l a w):(Code.region id l.toArray false).wp P Q a w :=
 wp_region_lit (h _ fun g=>by simp)
theorem QlM (d:Fr n a L) (e:o.dst=none) (c:o.guard=none)
 (h:∀ K:Act->World->Prop,K a w'->o.wp P a w K Q)
 (k:wpList P ops Q rest a w'):wpList P ops Q (o::rest) a w :=
 wpList_plain c fun K b=>h K (b _ _ k)
theorem Qg3 {d:Nat}{c:Bool}(h:Fr n a L) (k:o.guard=some (g,c)) (j:(ops[g]?).bind (fun o:Oper=>o.dst)=some d) (f:Nat.blt d n=true) (l:L.lookup d=some u) :
 Region.wanted o (yielded ops a.tmps)=(match u with | .bool b=>b==c | _=>false):=by
 have e:d<a.tmps.size:=by rw[h.size];simpa[Nat.blt,Nat.ble_eq,Nat.succ_le_iff] using f
 have:=h.sl d u l
 have i:a.tmps[d]?=some u:=by rw[<-this];simp[Array.getD,e]
 simp only[Region.wanted,k,yielded,j,Option.bind_some,i]
 cases u<;>simp
theorem Qms {e:Nat}{c:Bool}(f:Fr n a L) (i:o.dst=some t) (m:o.guard=some (g,c)) (l:(ops[g]?).bind (fun o:Oper=>o.dst)=some e) (d:Nat.blt e n=true) (q:L.lookup e=some u) (h:(match u with | .bool b=>b==c | _=>false)=false) (p:Nat.blt t n=true)
 (k:∀ a',Fr n a' ((t,undef)::L)->wpList P ops Q rest a' w):wpList P ops Q (o::rest) a w :=
 wpList_step fun K j=>by
  rw[Qg3 f m l d q,h]
  simp only[Bool.false_eq_true,if_false,i]
  exact j _ _ (k _ (f.put p))
end
section
variable {P:Program}{Q:Exit->Act->World->Prop}
theorem QlO {o:Oper}{a:Act}{K N:Act->World->Prop}(h:o.wp P a w K (Exit.then N Q)):o.wp P a w K Q:=by
 unfold Oper.wp at *;generalize (execOp a.eval o).run P w=r at *
 cases r with
 | ok n w'=>cases n<;>exact h
 | halt x w'=>cases x<;>exact h
def QcE (n:Nat) (l:List Oper):Bool:=l.all fun o=>match o.guard with | some (g,_)=>decide (g<n) | none=>true
theorem ZN {a:Array Bool}:i∈Region.ready .any ops a↔i<ops.size/\a.getD i true=false/\∃ o,ops[i]?=some o/\∀ e∈o.after,Region.binds .any e=true->a.getD e.on false=true:=by
 unfold Region.ready;rw[List.mem_filter]
 simp only[List.mem_range,Bool.and_eq_true,Bool.not_eq_true']
 refine and_congr_right fun b=>and_congr_right fun c=>?_;rw[Xj b]
 simp only[Option.map_some,Option.getD_some,Option.some.injEq,exists_eq_left']
 rw[Array.all_eq_true_iff_forall_mem]
 refine forall_congr' fun e=>forall_congr' fun d=>?_
 cases Region.binds .any e<;>simp
end
theorem XP:type_of% @List.getElem?_append_left:=@List.getElem?_append_left
theorem XQ:type_of% @List.getElem?_append_right:=@List.getElem?_append_right
section
variable {P:Program}{Q:Exit->Act->World->Prop}
def QbE (all:List Oper):Nat->Oper->Nat->Bool
 | 0,_,_=>false
 | f+1,o,j=>o.after.any fun e=>Region.binds .any e&&(e.on==j||(match all[e.on]? with | some o'=>QbE all f o' j | none=>false))
def Qbl (all:List Oper) (k:Nat):List Oper->Bool
 | []=>true
 | o::l=>((List.range k).all fun j=>QbE all 24 o j)&&Qbl all (k+1) l
theorem Qa4 {all:List Oper}{j:Nat}{S:Nat->Prop}(c:∀ (q:Nat) (o':Oper),all[q]?=some o'->S q->∀ e∈o'.after,Region.binds .any e=true->S e.on):∀ (f:Nat) (o:Oper),QbE all f o j=true->(∀ e∈o.after,Region.binds .any e=true->S e.on)->S j
 | 0,_,h,_=>by simp[QbE] at h
 | f+1,o,h,hS=>by
   simp only[QbE] at h
   obtain⟨q,i,b⟩:=Array.any_eq_true.1 h
   rw[Bool.and_eq_true,Bool.or_eq_true] at b
   have d:=Array.getElem_mem i;generalize o.after[q]=g at b d;rcases b.2 with a | a
   ·have:=hS g d b.1
    rwa [beq_iff_eq.1 a] at this
   ·cases ho':all[g.on]? with
    | none=>rw[ho'] at a;simp at a
    | some o' =>
      rw[ho'] at a
      exact Qa4 c f o' a (c _ o' ho' (hS g d b.1))
theorem QeA (all:List Oper):∀ (l:List Oper) (k i:Nat) (o:Oper),Qbl all k l=true->l[i]?=some o->∀ j,j<k+i->∀ S:Nat->Prop,
 (∀ (q:Nat) (o':Oper),all[q]?=some o'->S q->∀ e∈o'.after,Region.binds .any e=true->S e.on)->(∀ e∈o.after,Region.binds .any e=true->S e.on)->S j
 | [],_,_,_,_,h=>by simp at h
 | x::l,k,0,o,h,ho=>by
   simp at ho;subst ho
   simp only[Qbl,Bool.and_eq_true] at h
   intro j b S a c;exact Qa4 a 24 x (Xe.1 h.1 j (by simpa using b)) c
 | x::l,k,i+1,o,h,ho=>by
   simp only[Qbl,Bool.and_eq_true] at h
   simp at ho
   intro j b;exact QeA all l (k+1) i o h.2 ho j (by omega)
theorem Qhr {l:List Oper}(hb:Qdv 0 l=true){k0:Nat}(S:Qbl l k0 (l.drop k0)=true):∀ (m k fuel:Nat) (listed:Array Bool) (a:Act) (w:World),k+m=l.length->k0<=k->m<=fuel->listed.size=l.length ->
 (∀ j,j<l.length->listed.getD j false=decide (j<k))->wpList P l.toArray Q (l.drop k) a w->wpAny P .any l.toArray Q fuel listed a w:=by
 intro m
 induction m with
 | zero =>
   intro k fuel listed a w W _ _ I c h
   have v:Region.ready .any l.toArray listed=[]:=by
    rw[List.eq_nil_iff_forall_not_mem]
    intro i s;obtain⟨G,r,_⟩:=ZN.1 s
    have g:i<l.length:=by simpa using G
    have:=c i g
    have R:decide (i<k)=true:=by simp;omega
    rw[R] at this
    have p:i<listed.size:=by omega
    simp[Array.getD,p] at this r
    rw[this] at r;cases r
   have t:Q .normal a w:=by
    rw[List.drop_of_length_le (by omega)] at h
    exact h
   cases fuel with
   | zero=>exact⟨v,t⟩
   | succ fuel=>exact⟨fun _=>t,fun i s=>by rw[v] at s;cases s⟩
 | succ m ih =>
   intro k fuel listed a w W L hf I c h;have b:k<l.length:=by omega
   obtain⟨fuel,rfl⟩:∃ f,fuel=f+1:=⟨fuel - 1,by omega⟩
   have u:k<listed.size:=by omega
   have D:k∈Region.ready .any l.toArray listed:=by
    refine ZN.2 ⟨by simpa using b,?_,l[k],by simp[b],fun e A n=>?_⟩
    ·have:=c k b
     simp[Array.getD,u] at this |-;exact this
    ·have:=back_at l 0 k l[k] hb (by simp[b]) e A n
     rw[c _ (by omega)];simp;omega
   refine⟨fun v=>absurd (v ▸ D) (by simp),fun i s=>?_⟩
   have B:i=k:=by
    obtain⟨G,r,o,H,T⟩:=ZN.1 s
    have g:i<l.length:=by simpa using G
    have F:listed.getD i false=false:=by
     have p:i<listed.size:=by omega
     simp[Array.getD,p] at r |-;exact r
    have y:k<=i:=by
     have:=c i g
     rw[F] at this
     have:¬ i<k:=by simpa using this.symm
     omega
    rcases Nat.eq_or_lt_of_le y with e | U
    ·exact e.symm
    ·exfalso
     have:=QeA l (l.drop k0) k0 (i - k0) o S (by rw[List.getElem?_drop,show k0+(i - k0)=i by omega];simpa using H) k (by omega) (fun j=>listed.getD j false=true)
      (fun q N t V e A n=>by
       have E:q<l.length:=(Zi t).1;have O:=back_at l 0 q N hb t e A n;have J:listed.getD q false=true:=V;rw[c q E] at J
       have X:q<k:=by simpa using J
       show listed.getD e.on false=true;rw[c e.on (by omega)];simp;omega) T
     rw[c k b] at this
     simp at this
   subst B;rw[List.drop_eq_getElem_cons b] at h
   have H:l.toArray[i]?=some l[i]:=by simp[b]
   have d:∀ a w,wpList P l.toArray Q (l.drop (i+1)) a w->wpAny P .any l.toArray Q fuel (listed.setIfInBounds i true) a w:=fun a w M =>
    ih (i+1) fuel _ a w (by omega) (by omega) (by omega) (by simpa using I) (fun j K=>by
     by_cases e:j=i
     ·subst e;simp[Array.getD,u]
     ·have C:i≠j:=fun x=>e x.symm;rw[Za,Array.getElem?_setIfInBounds_ne C,<-Za,c j K]
      simp;omega) M
   unfold wpOp;rw[H]
   simp only
   unfold wpList at h;split
   ·rename_i z
    rw[Xs z] at h
    exact h.imp (Oper.wp_mono d) id
   ·rename_i z
    rw[Xr z] at h
    exact d _ _ h
theorem Qc8 {l l2:List Oper}(hb:Qdv 0 (l++l2)=true) (hg:QcE l.length l=true) (ht:Qbl (l++l2) l.length l2=true):∀ (fuel:Nat) (listed:Array Bool) (a:Act) (w:World),listed.size=l.length→(∀ (q:Nat) (o:Oper),l[q]?=some o→listed.getD q false=true→∀ e∈o.after,Region.binds .any e=true→listed.getD e.on false=true) →
 wpAny P .any l.toArray (Exit.then (fun a w=>wpList P (l++l2).toArray Q l2 a w) Q) fuel listed a w →
 wpAny P .any (l++l2).toArray Q (fuel+l2.length) (listed++Array.replicate l2.length false) a w:=by
 have z:∀ (i:Nat) (o:Oper),l[i]?=some o→∀ e∈o.after,Region.binds .any e=true→e.on<i:=fun i o r e n c=>by
  have p:i<l.length:=(Zi r).1
  have:=back_at (l++l2) 0 i o hb (by rw[XP p];exact r) e n c
  omega
 have f:∀ (listed:Array Bool) (j:Nat) (d:Bool),listed.size=l.length→j<l.length→(listed++Array.replicate l2.length false).getD j d=listed.getD j d:=fun listed j d k x=>by
  rw[Za,Za,Array.getElem?_append_left (by omega)]
 have D:∀ (listed:Array Bool) (j:Nat),listed.size=l.length→l.length≤j→(listed++Array.replicate l2.length false).getD j false=false:=fun listed j k x=>by
  rw[Za,Array.getElem?_append_right (by omega)]
  cases h:(Array.replicate l2.length false)[j - listed.size]? with
  | none=>rfl
  | some b =>
    have:=Array.mem_of_getElem? h
    simp at this
    simp[this.2]
 -- all of the first part are listed
 have A:∀ (fuel:Nat) (listed:Array Bool) (a:Act) (w:World),listed.size=l.length→(∀ j,j<l.length→listed.getD j false=true)→wpList P (l++l2).toArray Q l2 a w →
  wpAny P .any (l++l2).toArray Q (fuel+l2.length) (listed++Array.replicate l2.length false) a w:=fun fuel listed a w k m h=>by
  refine Qhr hb (k0:=l.length) (by simpa using ht) l2.length l.length _ _ a w (by simp) Ze (by omega) (by simp[k]) (fun j x=>?_) (by simpa using h);by_cases u:j<l.length
  ·rw[f listed j false k u,m j u];simp[u]
  ·rw[D listed j k (by omega)];simp;omega
 have v:∀ (listed:Array Bool),listed.size=l.length→Region.ready .any l.toArray listed=[]→∀ j,j<l.length→listed.getD j false=true:=fun listed k W j=>by
  induction j using Nat.strongRecOn with
  | _ j ih =>
    intro x
    cases hc:listed.getD j false with
    | true=>rfl
    | false =>
      exfalso
      have u:j<listed.size:=by omega
      have V:listed.getD j true=false:=by simp[Array.getD,u] at hc ⊢;exact hc
      have:j∈Region.ready .any l.toArray listed:=ZN.2 ⟨by simpa using x,V,l[j],by simp[x],fun e n c=>by
       have:=z j l[j] (by simp[x]) e n c
       exact ih e.on this (by omega)⟩
      rw[W] at this;cases this
 intro fuel
 induction fuel with
 | zero =>
   intro listed a w k E h;exact A 0 listed a w k (v listed k h.1) h.2
 | succ fuel ih =>
   intro listed a w k E h;by_cases m:∀ j,j<l.length→listed.getD j false=true
   ·refine A (fuel+1) listed a w k m (h.1 ?_);rw[List.eq_nil_iff_forall_not_mem]
    intro i p;obtain⟨H,C,_⟩:=ZN.1 p
    have S:i<l.length:=by simpa using H
    have:=m i S
    have t:i<listed.size:=by omega
    simp[Array.getD,t] at this C
    rw[this] at C;cases C
   ·have U:Region.ready .any l.toArray listed≠[]:=fun e=>m (v listed k e)
    have B:∀ i,i∈Region.ready .any (l++l2).toArray (listed++Array.replicate l2.length false)↔i∈Region.ready .any l.toArray listed:=fun i=>by
     rw[ZN,ZN]
     by_cases p:i<l.length
     ·have e1:(l++l2).toArray[i]?=l.toArray[i]?:=by simp[List.getElem?_append_left p]
      rw[f listed i true k p,e1]
      constructor
      ·rintro ⟨_,C,o,r,F⟩;refine⟨by simpa using p,C,o,r,fun e n c=>?_⟩
       have:=z i o (by simpa using r) e n c
       have h4:=F e n c;rwa [f listed e.on false k (by omega)] at h4
      ·rintro ⟨_,C,o,r,F⟩;refine⟨by simp;omega,C,o,r,fun e n c=>?_⟩
       have:=z i o (by simpa using r) e n c
       rw[f listed e.on false k (by omega)]
       exact F e n c
     ·constructor
      ·rintro ⟨H,C,o,r,F⟩;exfalso
       refine m fun j x=>?_;have J:(l++l2)[i]?=some o:=by simpa using r
       rw[XQ (by omega)] at J
       have:=QeA (l++l2) l2 l.length (i - l.length) o ht J j (by omega) (fun q=>(listed++Array.replicate l2.length false).getD q false=true)
        (fun q o' G O e n c=>by
         have N:(listed++Array.replicate l2.length false).getD q false=true:=O;by_cases K:q<l.length
         ·rw[f listed q false k K] at N
          rw[XP K] at G
          have h6:=z q o' G e n c;show (listed++Array.replicate l2.length false).getD e.on false=true;rw[f listed e.on false k (by omega)]
          exact E q o' G N e n c
         ·rw[D listed q k (by omega)] at N
          cases N) F
       rwa [f listed j false k x] at this
      ·rintro ⟨H,_⟩;exact absurd (by simpa using H) p
    rw[show fuel+1+l2.length=(fuel+l2.length)+1 by omega]
    refine⟨fun W=>?_,fun i p=>?_⟩
    ·exfalso
     apply U
     rw[List.eq_nil_iff_forall_not_mem]
     intro i p
     have:=(B i).2 p
     rw[W] at this;cases this
    ·have t:=(B i).1 p;have s:=h.2 i t;obtain⟨H,_⟩:=ZN.1 t
     have y:i<l.length:=by simpa using H
     have r:l.toArray[i]?=some l[i]:=by simp[y]
     have X:(l++l2).toArray[i]?=some l[i]:=by simp[List.getElem?_append_left y,y]
     unfold wpOp at s ⊢;rw[r] at s
     rw[X]
     simp only at s ⊢
     have hy:Region.wanted l[i] (yielded (l++l2).toArray a.tmps)=Region.wanted l[i] (yielded l.toArray a.tmps):=by
      unfold Region.wanted
      cases hgd:(l[i]).guard with
      | none=>rfl
      | some gw =>
        obtain⟨g,aa⟩:=gw
        have:=Xe.1 hg l[i] (List.getElem_mem y)
        rw[hgd] at this
        have T:g<l.length:=by simpa using this
        simp only
        have:yielded (l++l2).toArray a.tmps g=yielded l.toArray a.tmps g:=by
         unfold yielded
         have:(l++l2).toArray[g]?=l.toArray[g]?:=by simp[List.getElem?_append_left T]
         rw[this]
        rw[this]
     rw[hy]
     have nx:∀ a w,wpAny P .any l.toArray (Exit.then (fun a w=>wpList P (l++l2).toArray Q l2 a w) Q) fuel (listed.setIfInBounds i true) a w→wpAny P .any (l++l2).toArray Q (fuel+l2.length) ((listed++Array.replicate l2.length false).setIfInBounds i true) a w:=fun a w hh=>by
      have M:∀ (q:Nat) (o:Oper),l[q]?=some o→(listed.setIfInBounds i true).getD q false=true→∀ e∈o.after,Region.binds .any e=true→(listed.setIfInBounds i true).getD e.on false=true:=fun q o G O e n c=>by
       have up:∀ j,listed.getD j false=true→(listed.setIfInBounds i true).getD j false=true:=fun j x=>by
        by_cases I:i=j
        ·subst I
         have:i<listed.size:=by omega
         simp[Array.getD,this]
        ·rw[Za,Array.getElem?_setIfInBounds_ne I,← Za];exact x
       by_cases I:i=q
       ·subst I;obtain⟨_,_,o2,L,F⟩:=ZN.1 t
        have:o2=o:=by
         have h7:l[i]?=some o2:=by simpa using L
         rw[G] at h7;exact(Xn h7).symm
        subst this;exact up _ (F e n c)
       ·rw[Za,Array.getElem?_setIfInBounds_ne I,← Za] at O
        exact up _ (E q o G O e n c)
      have:=ih (listed.setIfInBounds i true) a w (by simpa using k) M hh
      have e:(listed++Array.replicate l2.length false).setIfInBounds i true=listed.setIfInBounds i true++Array.replicate l2.length false:=by
       rw[Array.setIfInBounds_append_left (by omega)]
      rw[e];exact this
     split
     ·rename_i R
      rw[Xs R] at s
      rcases s with s | s
      ·exact .inl (Oper.wp_mono nx (QlO s))
      ·exact .inr s
     ·rename_i R
      rw[Xr R] at s
      exact nx _ _ s
end
theorem Qhu {P:Program}{l l2:List Oper}{outs:List Tmp}{gs:List (Nat × Option Bool)}{a:Act}{Q:Exit->Act->World->Prop}
 (E:Tmp->Value->World->Prop) (W:World->Prop) (R:World->World->Prop)
 (k:P.follows .mixedOrders=true)  (hn:a.tmps.size=m) (g:n<=m) (s:QaS l n outs gs bs=true)
 (i:(Qdv 0 (l++l2)&&(QcE l.length l&&Qbl (l++l2) l.length l2))=true)
 (x:∀ t v w w',R w w'->E t v w->E t v w') (u:Qbs E W l.toArray gs) (y:W w.drew) (B:Qa3 E a w.drew outs)
 (z:QeH E W R P l bs)
 (b:∀ (vs:Tmp->Value) w',W w'->(∀ t,(Qn l).contains t=true->E t (vs t) w')->wpList P (l++l2).toArray Q l2 (QI a vs (Qn l)) w') :
 (Code.region id (l++l2).toArray true).wp P Q a w:=by
 simp only[Bool.and_eq_true] at i
 obtain⟨d,c,f⟩:=i
 refine wp_region_any k ?_
 have h:wpAny P .any l.toArray (Exit.then (fun a w=>wpList P (l++l2).toArray Q l2 a w) Q) l.length (Array.replicate l.length false) a w.drew:=by
  refine Qhd (E:=E) (W:=W) (R:=R) (a0:=a) (outs:=outs) (gs:=gs) (bs:=bs) (Qbc (hn ▸ g) s) x u z b _ _ _ _ (by simp) ?_ ⟨y,Z,Z,fun _ _=>rfl,fun t A _=>Qcw outs B t A,?_⟩
  ·simp only[Array.toList_replicate]
   exact Zt (List.length_filter_le _ _) (by simp)
  ·intro j o t D G p;simp[Array.getD] at p
 have:=Qc8 (Q:=Q) d c f l.length (Array.replicate l.length false) a w.drew (by simp) (fun q o F C=>by simp[Array.getD] at C) h
 have e:(Array.replicate l.length false++Array.replicate l2.length false:Array Bool)=Array.replicate (l++l2).toArray.size false:=by
  simp
 have r:l.length+l2.length=(l++l2).toArray.size:=by simp
 rw[e,r] at this
 exact this
theorem Qm {P:Program}{lo:List Oper}{outs:List Tmp}{gs:List (Nat × Option Bool)}{a:Act}{Q:Exit->Act->World->Prop}
 (k:Nat) (E:Tmp->Value->World->Prop) (W:World->Prop) (R:World->World->Prop)
 (d:P.follows .mixedOrders=true)  (hn:a.tmps.size=m) (c:n<=m) (p:QaS (lo.take k) n outs gs bs=true)
 (g:(Qdv 0 lo&&(QcE (lo.take k).length (lo.take k)&&Qbl lo (lo.take k).length (lo.drop k)))=true)
 (o:∀ t v w w',R w w'->E t v w->E t v w') (j:Qbs E W (lo.take k).toArray gs) (f:W w.drew) (e:Qa3 E a w.drew outs)
 (i:QeH E W R P (lo.take k) bs)
 (b:∀ ops (vs:Tmp->Value) w',W w'->(∀ t,(Qn (lo.take k)).contains t=true->E t (vs t) w')->wpList P ops Q (lo.drop k) (QI a vs (Qn (lo.take k))) w') :
 (Code.region id lo.toArray true).wp P Q a w:=by
 have h:=Qhu (id:=id) (l:=lo.take k) (l2:=lo.drop k) (Q:=Q) E W R d hn c p (by rw[List.take_append_drop];exact g) o j f e i (b _);rwa [List.take_append_drop] at h
def QlI (L:List (Tmp × (Value->World->Prop))) (T:List (Tmp × Value)) (t:Tmp) (v:Value) (w:World):Prop :=
 match L.lookup t with
 | some p=>p v w
 | none=>v=(T.lookup t).getD undef
def QnK (v:Value) (w w':World):List (Tmp × (Value->World->Prop))->Prop
 | []=>True
 | p::l=>(p.2 v w->p.2 v w')/\QnK v w w' l
theorem QlI.keep {T:List (Tmp × Value)}{t:Tmp}{v:Value}{w w':World}:∀ {L:List (Tmp × (Value->World->Prop))},QlI L T t v w->QnK v w w' L->QlI L T t v w'
 | [],h,_=>h
 | (s,p)::l,h,k=>by
   have a:=fun h=>QlI.keep (T:=T) (t:=t) (L:=l) h k.2;unfold QlI at h a |-;simp only[List.lookup_cons] at h |-
   cases e:t==s with
   | true=>rw[e] at h;exact k.1 h
   | false=>rw[e] at h;exact a h
def QmY (S S':Nat->Bool) (t:Tmp) (v:Value) (w w':World):List (Tmp × ((Nat->Bool)->Value->World->Prop))->Prop
 | []=>True
 | p::l=>(t=p.1->p.2 S v w->p.2 S' v w')/\QmY S S' t v w w' l
theorem Qha {S a:Nat->Bool}{t:Tmp}{v:Value}{w w':World}{R:Prop}:∀ {L:List (Tmp × ((Nat->Bool)->Value->World->Prop))},QmY S a t v w w' L->(match L.lookup t with | some p=>p S v w | none=>R)->(match L.lookup t with | some p=>p a v w' | none=>R)
 | [],_,h=>h
 | (s,p)::l,k,h=>by
   have b:=Qha (R:=R) (L:=l) k.2;simp only[List.lookup_cons] at h |-
   cases e:t==s with
   | true=>rw[e] at h;exact k.1 (by simpa using e) h
   | false=>rw[e] at h;exact b h
theorem QeC (h:Below B (w.drewN m) w'):Below B w w':=⟨h.os,h.tape,h.output,h.size,h.block⟩
theorem QfZ (h:Below B w w'):Below B w (w'.drewN m):=⟨h.os,h.tape,h.output,h.size,h.block⟩
theorem Qax {c:Array Value}{a:TypeId}(h:wr.heap[B]?=some (.cells c a (0,0))) (b:Below wr.heap.size wr w):w.heap[B]?=some (.cells c a (0,0)) :=
 (b.block B (XC h)).trans h
abbrev Blk (w:World) (B:Nat) (c:Array Value) (t:TypeId):Prop:=w.heap[B]?=some (.cells c t (0,0))
theorem Blk.below {c:Array Value}(h:Blk w B c t) (b:Below w.heap.size w w'):Blk w' B c t:=Qax h b
theorem Blk.alloc {c:Array Value}(h:Blk w B c t) (o:Obj):Blk (w.alloc o) B c t:=Qax h ((Below.refl _ w).alloc Ze _)
theorem Blk.new (w:World) (c:Array Value) (t:TypeId):Blk (w.alloc (.cells c t)) w.heap.size c t:=Qf w c t
theorem Blk.drewN {c:Array Value}(h:Blk w B c t) (m:Nat):Blk (w.drewN m) B c t:=h
theorem Blk.lt {c:Array Value}(h:Blk w B c t):B<w.heap.size:=XC h
theorem Blk.setOther {c:Array Value}(h:Blk w B c t){p:Addr}(a:p.block≠B) (v:Value):Blk (w.setCell p v) B c t:=(Xd _ _ _ _ (fun e=>a e.symm)).trans h
theorem ZO (w:World) (o:Obj):Below w.heap.size w (w.alloc o):=(Below.refl _ w).alloc Ze _
theorem QhN (w:World) (o p:Obj):Below w.heap.size w ((w.alloc o).alloc p):=(ZO w o).alloc (by simp) _
theorem Below.andThen (h:Below w.heap.size w w1) (b:Below w1.heap.size w1 w2):Below w.heap.size w w2:=h.trans (b.mono h.size)
theorem Blk.new1 (w:World) (c d:Array Value) (t u:TypeId):Blk ((w.alloc (.cells c t)).alloc (.cells d u)) w.heap.size c t:=(Blk.new w c t).alloc _
theorem Blk.new2 (w:World) (o:Obj) (d:Array Value) (u:TypeId):Blk ((w.alloc o).alloc (.cells d u)) (w.heap.size+1) d u:=by
 have:=Blk.new (w.alloc o) d u
 simpa using this
theorem Xi:type_of% @World.block_lt_of_cell?:=@World.block_lt_of_cell?
theorem Xp:type_of% @Nat.mul_le_mul_right:=@Nat.mul_le_mul_right
theorem XK:type_of% @Nat.zero_add:=@Nat.zero_add
theorem XO:type_of% @List.take_of_length_le:=@List.take_of_length_le
section
open Go.Deep
structure Lay (α:Type) where
 size:Nat
 In:World->(Nat->Prop)->α->List Value->Prop
 len:∀ {w O x cs},In w O x cs->cs.length=size
 keep:∀ {w w':World} {O O':Nat->Prop} {x cs},(∀ k,O k->k<w.heap.size->w'.heap[k]?=w.heap[k]?)->(∀ k,O k->k<w.heap.size->O' k)->In w O x cs->In w' O' x cs
section
variable {α β:Type}{L:Lay α}{w w':World}{O O':Nat->Prop}{x:α}{cs:List Value}
theorem Lay.below (h:L.In w O x cs) (b:Below w.heap.size w w'):L.In w' O x cs:=L.keep (fun k _ a=>b.block k a) (fun _ h _=>h) h
theorem Ya:type_of% @Lay.below:=@Lay.below
theorem Lay.lt (h:L.In w (fun g=>g<B) x cs) (b:Below B w w'):L.In w' (fun g=>g<B) x cs:=L.keep (fun k a _=>b.block k a) (fun _ h _=>h) h
theorem Lay.mono (h:L.In w O x cs) (a:∀ k,O k->k<w.heap.size->O' k):L.In w O' x cs:=L.keep (fun k _ _=>rfl) a h
theorem Yc:type_of% @Lay.mono:=@Lay.mono
theorem Lay.alloc (h:L.In w O x cs) (o:Obj):L.In (w.alloc o) O x cs:=L.keep (fun k _ a=>Below.heap_alloc _ _ _ a) (fun _ h _=>h) h
theorem Lay.setCell (h:L.In w O x cs){p:Addr}(b:¬ O p.block) (v:Value):L.In (w.setCell p v) O x cs :=
 L.keep (fun k a _=>Xd _ _ _ _ (fun e=>by subst e;exact b a)) (fun _ h _=>h) h
theorem Lay.drewN (h:L.In w O x cs) (m:Nat):L.In (w.drewN m) O x cs:=L.keep (w:=w) (w':=w.drewN m) (fun k _ _=>rfl) (fun _ h _=>h) h
end
def Lay.int:Lay Int where
 size:=1
 In:=fun _ _ x cs=>cs=[Iv x]/\-9223372036854775808<=x/\x<=9223372036854775807
 len:=fun h=>by rw[h.1];rfl
 keep:=fun _ _ h=>h
def Lay.pair {α β:Type}(A:Lay α) (B:Lay β):Lay (α × β) where
 size:=A.size+B.size
 In:=fun w O x cs=>∃ c d,cs=c++d/\A.In w O x.1 c/\B.In w O x.2 d
 len:=fun ⟨c,d,e,h1,h2⟩=>by rw[e,List.length_append,A.len h1,B.len h2]
 keep:=fun hb hl ⟨c,d,e,h1,h2⟩=>⟨c,d,e,A.keep hb hl h1,B.keep hb hl h2⟩
def Lay.list {α:Type}(A:Lay α):Lay (List α) where
 size:=1
 In:=fun w O l cs=>∃ a c,cs=[.slice a l.length c]/\∀ (i:Nat) (x:α),l[i]?=some x->∃ g o ds,a=some ⟨g,o,none⟩/\O g/\g<w.heap.size/\(∀ j,j<A.size->w.cell? ⟨g,o+i*A.size+j,none⟩=ds[j]?)/\A.In w O x ds
 len:=fun ⟨_,_,e,_⟩=>by rw[e];rfl
 keep:=fun {w w' O O' l cs} hb hl ⟨a,c,e,h⟩=>⟨a,c,e,fun i x hx=>by
  obtain⟨g,o,ds,e1,hg,hlt,hc,hi⟩:=h i x hx
  have hk:w'.heap[g]?=w.heap[g]?:=hb g hg hlt;refine⟨g,o,ds,e1,hl g hg hlt,?_,fun j hj=>?_,A.keep hb hl hi⟩
  ·rcases Nat.lt_or_ge g w'.heap.size with h' | h'
   ·exact h'
   ·rw[Array.getElem?_eq_none h',Array.getElem?_eq_getElem hlt] at hk;cases hk
  ·exact(World.cell?_of_block (w:=w) (a:=⟨g,o+i*A.size+j,none⟩) hk).trans (hc j hj)⟩
theorem Lay.int_mk (w:World) (O:Nat->Prop){x:Int}(h:-9223372036854775808<=x/\x<=9223372036854775807):Lay.int.In w O x [Iv x]:=⟨Z,h⟩
theorem Lay.list_nil {α:Type}(A:Lay α) (w:World) (O:Nat->Prop) (a:Option Addr) (c:Nat):A.list.In w O [] [.slice a 0 c]:=⟨a,c,Z,fun i x h=>by simp at h⟩
theorem Yg:type_of% @Lay.list_nil:=@Lay.list_nil
theorem Lay.list_at {α:Type}{A:Lay α}{w:World}{O:Nat->Prop}{l:List α}(h:A.list.In w O l [.slice a n c]){x:α}(b:l[i]?=some x) :
 ∃ g o ds,a=some ⟨g,o,none⟩/\O g/\g<w.heap.size/\(∀ j,j<A.size->w.cell? ⟨g,o+i*A.size+j,none⟩=ds[j]?)/\A.In w O x ds:=by
 obtain⟨d,f,e,h⟩:=h
 simp at e
 obtain⟨rfl,_,rfl⟩:=e
 exact h i x b
theorem Yf:type_of% @Lay.list_at:=@Lay.list_at
theorem Lay.list_len {α:Type}{A:Lay α}{w:World}{O:Nat->Prop}{l:List α}(h:A.list.In w O l [.slice a n c]):n=l.length:=by
 obtain⟨b,d,e,h⟩:=h
 simp at e
 exact e.2.1
def QaH (P:Program) (t:TypeId){α:Type}(A:Lay α) (n:Nat):Prop :=
 P.cellsOf t=A.size/\∀ {H:Type} {enc:TypeId × Value->H} {w:World} {base:Nat} {spare:Nat->Bool} {held:Bool} {fuel:Nat} {cs:List Value} {x:DataW H × List MemPlace},
  fuel<=n->DataW.trod enc P w base spare held fuel t cs=some x->∃ d,A.In w (fun _=>True) d cs
theorem QaH.int (n:Nat) (h:P.underlying t=some (.int .i64)) (c:P.cellsOf t=1):QaH P t Lay.int n :=
 ⟨c,fun _ a=>by
  obtain⟨k,e,_,b⟩:=DataW.trod_int h a
  exact⟨k,e,Go.bounds_i64 b⟩⟩
theorem Qgy {α:Type}{P:Nat->α->Prop}(m:Nat) (h:∀ i,i<m->∃ x,P i x):∃ l:List α,l.length=m/\∀ i x,l[i]?=some x->P i x:=by
 induction m with
 | zero=>exact⟨[],Z,fun i x b=>by simp at b⟩
 | succ m ih =>
   obtain⟨l,c,e⟩:=ih (fun i d=>h i (by omega))
   obtain⟨x,b⟩:=h m (by omega)
   refine⟨l++[x],by simp[c],fun i y a=>?_⟩
   rw[List.getElem?_append] at a
   split at a
   ·exact e i y a
   ·rename_i d
    have:i=m:=by
     have:=(Zi a).1
     simp at this
     omega
    subst this;simp[c] at a
    subst a;exact b
theorem QaH.list {e:TypeId}{α:Type}{A:Lay α}(h:P.underlying t=some (.slice e)) (X:P.cellsOf t=1) (O:QaH P e A n) (v:0<A.size):QaH P t A.list (n+1) :=
 ⟨X,fun {H ab w p C T U cs x} hf W=>by
  rcases DataW.trod_slice h W with ⟨D,_⟩|⟨a,F,L,B,Q,q,rfl,D,_,hb,hl,hm,R,G,_,_⟩
  ·exact⟨[],by rw[D];exact Yg A _ _ _ _⟩
  ·obtain⟨l,M,N⟩:=Qgy (P:=fun i (d:α)=>∃ c,w.cells? p (a.add (i*A.size)) A.size=some c/\A.In w (fun _=>True) d c) F (fun i J=>by
    have z:=G i J;rw[Zg (by omega),O.1] at z
    rw[Option.bind_eq_some_iff] at z
    obtain⟨c,g,E⟩:=z
    obtain⟨d,y⟩:=O.2 (by omega) E
    exact⟨d,c,g,y⟩)
   refine⟨l,some a,L,by rw[D,M],fun i x S=>?_⟩
   obtain⟨c,g,y⟩:=N i x S
   obtain⟨_,aa,k⟩:=World.cells?_some g
   obtain⟨b,o,r⟩:=a
   have f:r=none:=by
    have J:0<l.length:=Nat.lt_of_le_of_lt (Xb i) (Zi S).1;obtain⟨K,u,I⟩:=N 0 l[0] (Zg J)
    have m:0<K.length:=by rw[A.len I];exact v
    have:=(World.cells?_some u).2.2 0 v
    rw[Zg m] at this
    simpa[Addr.add] using World.cell?_spot this
   subst f
   have s:∀ j,j<A.size->w.cell? ⟨b,o+i*A.size+j,none⟩=c[j]?:=fun j V=>by
    have:=k j V
    rw[Go.WideShapes.add_plain,Go.WideShapes.add_plain] at this
    exact this
   refine⟨b,o,c,Z,Y,?_,s,y⟩
   have m:0<c.length:=by rw[A.len y];exact v
   have:=s 0 v
   rw[Zg m] at this
   exact Xi w _ this⟩
theorem QaH.mono {α:Type}{A:Lay α}(h:QaH P t A n) (b:m<=n):QaH P t A m:=⟨h.1,fun c a=>h.2 (Zt c b) a⟩
def Z5 (P:Program) (fs:Array Field):Nat->Nat->{α:Type}->Lay α->Nat->Prop:=fun i o α A n =>
 ∀ {H:Type} {enc:TypeId × Value->H} {w:World} {base:Nat} {spare:Nat->Bool} {held:Bool} {fuel:Nat} {cs:List Value} {xs:List (DataW H × List MemPlace)},
  fuel<=n->cs.length=o+A.size->xs.length=fs.size->(∀ (j:Nat) (f:Field),fs[j]?=some f->DataW.trod enc P w base spare held fuel f.type ((cs.drop f.offset).take (P.cellsOf f.type))=xs[j]?) ->
  ∃ d,A.In w (fun _=>True) d (cs.drop o)
theorem Z5.last {fs:Array Field}{f:Field}{α:Type}{A:Lay α}(c:fs[i]?=some f) (p:f.offset=o) (b:QaH P f.type A n):Z5 P fs i o A n:=by
 intro H m w k a e j u v q t r h;have g:=h i f c;have s:i<fs.size:=(Array.getElem?_eq_some_iff.1 c).1;rw[Zg (by omega),p,b.1] at g
 obtain⟨d,l⟩:=b.2 q g
 refine⟨d,?_⟩
 rwa [XO (by simp;omega)] at l
theorem Z5.cons {fs:Array Field}{f:Field}{α β:Type}{A:Lay α}{B:Lay β}(j:fs[i]?=some f) (t:f.offset=o) (c:QaH P f.type A n) (u:Z5 P fs (i+1) (o+A.size) B n):Z5 P fs i o (A.pair B) n:=by
 intro H q w m a k l z C b y r h;have g:=h i f j;have x:i<fs.size:=(Array.getElem?_eq_some_iff.1 j).1;rw[Zg (by omega),t,c.1] at g
 obtain⟨d,p⟩:=c.2 b g
 have v:(A.pair B).size=A.size+B.size:=rfl;obtain⟨e,s⟩:=u b (by omega) r h
 refine⟨(d,e),_,_,?_,p,s⟩
 rw[<-List.drop_drop,List.take_append_drop]
theorem QaH.struct {fs:Array Field}{α:Type}{A:Lay α}(h:P.underlying t=some (.struct fs)) (f:P.cellsOf t=A.size) (o:Z5 P fs 0 0 A n):QaH P t A (n+1) :=
 ⟨f,fun {H l w j c g i r x} q p=>by
  obtain⟨s,m,rfl,_,e,a,b⟩:=DataW.trod_struct h p
  obtain⟨d,k⟩:=o (by omega) (by rw[e,f];omega) a b
  exact⟨d,by simpa using k⟩⟩
structure Qac {α:Type}(A:Lay α) (e:TypeId) (w:World) (lo:Nat) (v:Value) (l:List α) (xs:List Value):Prop where
 own:w.ownsRow lo e A.size v l.length xs
 kids:∀ (i:Nat) (x:α),l[i]?=some x->A.In w (fun g=>lo<=g/\v.ownBlock≠some g) x ((xs.drop (i*A.size)).take A.size)
section
variable {α:Type}{A:Lay α}{e:TypeId}{w w':World}{lo:Nat}{v:Value}{l:List α}{xs:List Value}
theorem Qac.nil (A:Lay α) (e:TypeId) (w:World) (lo:Nat):Qac A e w lo (Nv) [] []:=⟨⟨by simp,Or.inl ⟨Z,Z⟩⟩,fun i x h=>by simp at h⟩
theorem Qac.lo_le (h:Qac A e w lo v l xs)(b:v.ownBlock=some g):lo<=g/\g<w.heap.size:=by
 obtain⟨⟨k,d⟩,n⟩:=h
 rcases d with ⟨rfl,j⟩|⟨m,i,f,rfl,a,c,r⟩
 ·simp[Value.ownBlock] at b
 ·simp[Value.ownBlock] at b;subst b;exact⟨a,XC c⟩
theorem Qac.below (h:Qac A e w lo v l xs) (b:Below w.heap.size w w'):Qac A e w' lo v l xs:=by
 obtain⟨⟨n,k⟩,o⟩:=h
 refine⟨⟨n,?_⟩,fun i x f=>Ya (o i x f) b⟩
 rcases k with m | ⟨g,c,a,e,j,d,r⟩
 ·exact Or.inl m
 ·exact Or.inr ⟨g,c,a,e,j,(b.block g (XC d)).trans d,r⟩
theorem Qac.setOther (h:Qac A e w lo v l xs){p:Addr}(q:p.block<lo) (y:Value):Qac A e (w.setCell p y) lo v l xs:=by
 obtain⟨⟨m,j⟩,n⟩:=h
 refine⟨⟨m,?_⟩,fun i x d=>Lay.setCell (n i x d) (fun o=>by have:=o.1;omega) _⟩
 rcases j with k | ⟨g,b,a,e,f,c,r⟩
 ·exact Or.inl k
 ·exact Or.inr ⟨g,b,a,e,f,(Xd _ _ _ _ (by omega)).trans c,r⟩
theorem Qac.lay (h:Qac A e w lo v l xs):A.list.In w (fun g=>lo<=g) l [v]:=by
 obtain⟨⟨C,o⟩,t⟩:=h
 rcases o with ⟨rfl,r⟩|⟨g,c,b,rfl,q,f,y,z,B,s⟩
 ·have:l=[]:=Xf.1 r
  subst this;exact Yg A _ _ _ _
 ·refine⟨some ⟨g,0,none⟩,c,Z,fun i x m=>⟨g,0,_,Z,q,XC f,fun j n=>?_,Yc (t i x m) (fun k u _=>u.1)⟩⟩
  have p:i<l.length:=(Zi m).1
  have d:i*A.size+j<l.length*A.size:=by
   have:(i+1)*A.size<=l.length*A.size:=Xp _ p
   rw[Nat.add_mul] at this
   omega
  rw[XR,Xs n,List.getElem?_drop,<-s,XR,Xs d,XK]
  have a:i*A.size+j<b.size:=by
   have:l.length*A.size<=c*A.size:=Xp _ y
   omega
  rw[Array.getElem?_toList]
  exact(Qa f _ b[i*A.size+j] (Xj a)).trans (Xj a).symm
theorem Qac.push (h:Qac A e w lo v l xs){x:α}(m:A.In w (fun g=>lo<=g/\v.ownBlock≠some g) x ds)
  (u:w.grownBy w' v.ownBlock) (j:v.ownBlock=some g\/g=w.heap.size)
 (s:w'.ownsRow lo e A.size (.slice (some ⟨g,0,none⟩) (l.length+1) cap) (l.length+1) (xs++ds)) :
 Qac A e w' lo (.slice (some ⟨g,0,none⟩) (l.length+1) cap) (l++[x]) (xs++ds):=by
 obtain⟨z,B⟩:=h
 have d:=z.1;have t:=A.len m
 have b:∀ {y:α} {es:List Value},A.In w (fun g=>lo<=g/\v.ownBlock≠some g) y es->A.In w' (fun q=>lo<=q/\(Value.slice (some ⟨g,0,none⟩) (l.length+1) cap).ownBlock≠some q) y es:=fun a=>by
  refine A.keep (fun k c o=>?_) (fun k c o=>⟨c.1,?_⟩) a
  ·exact u.block k o (fun e=>c.2 e.symm)
  ·simp only[Value.ownBlock,ne_eq,Option.some.injEq]
   intro e;subst e;rcases j with p | p
   ·exact c.2 p
   ·omega
 refine⟨by rw[List.length_append];exact s,fun i y a=>?_⟩
 rw[List.getElem?_append] at a
 split at a
 ·rename_i n
  have r:(i+1)*A.size<=l.length*A.size:=Xp _ n;rw[Nat.add_mul] at r
  have:=B i y a
  rw[List.drop_append_of_le_length (by omega),List.take_append_of_le_length (by simp;omega)]
  exact b this
 ·rename_i n
  have f:i=l.length:=by
   have:=(Zi a).1
   simp at this
   omega
  subst f;simp at a
  subst a;rw[List.drop_append,List.drop_of_length_le (by omega),<-d,Nat.sub_self,List.drop_zero,List.nil_append,XO (by omega)]
  exact b m
end
end
def TT:Nat->Type
 | 0=>Empty
 | n+1=>Int × Int × List (TT n)
def TT.kind:{n:Nat}->TT n->Int
 | 0,t=>Empty.elim t
 | _+1,t=>t.1
def TT.r:{n:Nat}->TT n->Int
 | 0,t=>Empty.elim t
 | _+1,t=>t.2.1
def TT.len:{n:Nat}->TT n->Nat
 | 0,t=>Empty.elim t
 | _+1,t=>t.2.2.length
def TT.count:{n:Nat}->TT n->Nat
 | 0,t=>Empty.elim t
 | n+1,t=>1+(t.2.2.map (TT.count (n:=n))).sum
def TT.height:{n:Nat}->TT n->Nat
 | 0,t=>Empty.elim t
 | n+1,t=>(t.2.2.map (fun x=>1+TT.height (n:=n) x)).foldl max 0
def ownC (k r:Int) (len:Nat) (regs:Int):Int :=
 if k<1\/4<k then 3
 else if k=1/\r≠0 then 4
 else if k≠3/\0<len then 4
 else if 8<len then 2
 else if k≠1/\(r<0\/regs<=r) then 1
 else 0
def QM {α:Type}(f:α->Int):List α->Int
 | []=>0
 | x::xs=>if f x≠0 then f x else QM f xs
def TT.fault:{n:Nat}->Int->TT n->Int
 | 0,_,t=>Empty.elim t
 | n+1,regs,t=>if ownC t.1 t.2.1 t.2.2.length regs≠0 then ownC t.1 t.2.1 t.2.2.length regs else QM (TT.fault (n:=n) regs) t.2.2
def TT.check {n:Nat}(regs:Int) (t:TT n):Int:=if 4<t.height then 19 else t.fault regs
def Qay (m:Nat) (too:Nat->Int) (k r:Int):Option Int :=
 if k=1 then some r else if r<0\/(m:Int)<=r then none else if too r.toNat<0 then none else some (too r.toNat)
def QbW {α:Type}(f:α->Option α):List α->Option (List α)
 | []=>some []
 | x::xs=>match f x with
   | none=>none
   | some y=>match QbW f xs with
     | none=>none
     | some ys=>some (y::ys)
def TT.ren:{n:Nat}->Nat->(Nat->Int)->TT n->Option (TT n)
 | 0,_,_,t=>Empty.elim t
 | n+1,m,too,t=>match Qay m too t.1 t.2.1 with
   | none=>none
   | some r=>match QbW (TT.ren (n:=n) m too) t.2.2 with
     | none=>none
     | some l=>some ((t.1,r,l):Int × Int × List (TT n))
def TT.ok:{n:Nat}->TT n->Prop
 | 0,t=>Empty.elim t
 | n+1,t=>(-9223372036854775808<=t.2.1/\t.2.1<=9223372036854775807)/\∀ x∈t.2.2,TT.ok (n:=n) x
theorem Qbz {α:Type}{f:α->Option α}:∀ {l l':List α},QbW f l=some l'↔(l'.length=l.length/\∀ (i:Nat) x,l[i]?=some x->f x=l'[i]?)
 | [],l'=>by
   simp only[QbW,Option.some.injEq]
   constructor
   ·intro h;subst h;simp
   ·intro h;exact(Xf.1 h.1).symm
 | x::xs,l'=>by
   simp only[QbW]
   constructor
   ·intro h
    cases a:f x with
    | none=>simp[a] at h
    | some y =>
      simp only[a] at h
      cases b:QbW f xs with
      | none=>simp[b] at h
      | some ys =>
        simp only[b,Option.some.injEq] at h
        subst h;obtain⟨e,d⟩:=Qbz.1 b
        refine⟨by simp[e],fun i z c=>?_⟩
        cases i with
        | zero=>simp at c;subst c;simpa using a
        | succ i=>simpa using d i z (by simpa using c)
   ·rintro ⟨e,d⟩
    cases l' with
    | nil=>simp at e
    | cons y ys =>
      have a:f x=some y:=by simpa using d 0 x Z
      have b:QbW f xs=some ys:=Qbz.2 ⟨by simpa using e,fun i z c=>by simpa using d (i+1) z (by simpa using c)⟩;simp[a,b]
theorem QeU {α:Type}{f:α->Option α}:∀ {l:List α}{i:Nat}{x:α},l[i]?=some x->f x=none->QbW f l=none
 | [],i,x,h,_=>by simp at h
 | y::ys,0,x,h,hf=>by simp at h;subst h;simp[QbW,hf]
 | y::ys,i+1,x,h,hf=>by
   have:=QeU (l:=ys) (i:=i) (by simpa using h) hf
   simp only[QbW,this]
   cases f y<;>rfl
theorem QaV {α:Type}{f:α->Int}:∀ {l:List α}{i:Nat}{x:α},l[i]?=some x->(∀ (j:Nat) y,j<i->l[j]?=some y->f y=0)->f x≠0->QM f l=f x
 | [],i,x,h,_,_=>by simp at h
 | y::ys,0,x,h,_,hf=>by simp at h;subst h;simp[QM,hf]
 | y::ys,i+1,x,h,hz,hf=>by
   have b:f y=0:=hz 0 y (by omega) Z;simp only[QM,b,ne_eq,not_true_eq_false,if_false]
   exact QaV (by simpa using h) (fun j z c a=>hz (j+1) z (by omega) (by simpa using a)) hf
theorem QaG {α:Type}{f:α->Int}:∀ {l:List α},(∀ (j:Nat) y,l[j]?=some y->f y=0)->QM f l=0
 | [],_=>rfl
 | y::ys,h=>by
   have a:f y=0:=h 0 y Z;simp only[QM,a,ne_eq,not_true_eq_false,if_false]
   exact QaG (fun j z b=>h (j+1) z (by simpa using b))
theorem QP {α:Type}{f:α->Int}:∀ {l:List α},QM f l=0↔∀ x∈l,f x=0
 | []=>by simp[QM]
 | y::ys=>by
   simp only[QM]
   by_cases h:f y=0
   ·simp[h,QP]
   ·simp[h]
theorem QaZ {α β:Type}{f:α->Int}{g:β->Int}:∀ {l:List α}{l':List β},l'.length=l.length->(∀ (i:Nat) x y,l[i]?=some x->l'[i]?=some y->f x=g y)->QM f l=QM g l'
 | [],[],_,_=>rfl
 | [],_::_,h,_=>by simp at h
 | _::_,[],h,_=>by simp at h
 | x::xs,y::ys,h,k=>by
   have e:f x=g y:=k 0 x y Z Z;have c:=QaZ (f:=f) (g:=g) (l:=xs) (l':=ys) (by simpa using h) (fun i a b d j=>k (i+1) a b (by simpa using d) (by simpa using j));simp only[QM,e,c]
theorem TT.count_pos:{n:Nat}->(t:TT n)->1<=t.count
 | 0,t=>Empty.elim t
 | n+1,t=>by simp only[TT.count];omega
theorem Qgo (l:List Nat):∀ i,(l.take i).sum<=l.sum:=by
 intro i
 have:=congrArg List.sum (List.take_append_drop i l)
 rw[List.sum_append] at this
 omega
theorem length_le_sum:∀ (l:List Nat),(∀ x∈l,1<=x)->l.length<=l.sum
 | [],_=>by simp
 | x::xs,h=>by
   have c:=h x (by simp);have b:=length_le_sum xs (fun y a=>h y (by simp[a]));simp only[List.length_cons,List.sum_cons]
   omega
theorem TT.len_lt_count:{n:Nat}->(t:TT n)->t.len<t.count
 | 0,t=>Empty.elim t
 | n+1,t=>by
   have:=length_le_sum (t.2.2.map (TT.count (n:=n))) (fun x a=>by simp only[List.mem_map] at a;obtain⟨y,_,rfl⟩:=a;exact y.count_pos)
   simp only[TT.count,TT.len]
   simp at this
   omega
theorem le_sum_of_mem:∀ {l:List Nat}{x:Nat},x∈l->x<=l.sum
 | y::ys,x,h=>by
   rcases List.mem_cons.1 h with rfl | h
   ·simp
   ·have:=le_sum_of_mem h
    simp only[List.sum_cons];omega
theorem TT.count_kid (t:TT (n+1)){x:TT n}(h:x∈t.2.2):x.count<t.count:=by
 have:=le_sum_of_mem (l:=t.2.2.map (TT.count (n:=n))) (List.mem_map_of_mem h)
 simp only[TT.count]
 omega
theorem Qfn {l:List Nat}{a:Nat}:l.foldl max a<=m↔a<=m/\∀ x∈l,x<=m:=by
 induction l generalizing a with
 | nil=>simp
 | cons y ys ih =>
   simp only[List.foldl_cons,ih,List.mem_cons,forall_eq_or_imp,Nat.max_le,and_assoc]
theorem ZB {t:TT (n+1)}:t.height<=m↔∀ x∈t.2.2,1+x.height<=m:=by
 simp only[TT.height,Qfn,List.mem_map,Nat.zero_le,true_and,forall_exists_index,and_imp,forall_apply_eq_imp_iff₂]
theorem TT.ren_some {m:Nat}{too:Nat->Int}(P:Int->Int->Prop) (d:∀ k r,P k r->∃ r',Qay m too k r=some r') :
 {n:Nat}->(Q:{n:Nat}->TT n->Prop)->(∀ {n:Nat} (t:TT (n+1)),Q t->P t.1 t.2.1/\∀ x∈t.2.2,Q x)->(t:TT n)->Q t->∃ u,t.ren m too=some u
 | 0,_,_,t,_=>Empty.elim t
 | n+1,Q,hQ,t,hq=>by
   obtain⟨f,b⟩:=hQ t hq
   obtain⟨r',j⟩:=d _ _ f
   have:∃ c,QbW (TT.ren m too) t.2.2=some c:=by
    generalize t.2.2=l at b
    induction l with
    | nil=>exact⟨[],Z⟩
    | cons x xs ih =>
      obtain⟨u,e⟩:=TT.ren_some P d Q hQ x (b x (by simp))
      obtain⟨h,a⟩:=ih (fun y g=>b y (by simp[g]))
      exact⟨u::h,by simp[QbW,e,a]⟩
   obtain⟨c,i⟩:=this
   exact⟨((t.1,r',c):Int × Int × List (TT n)),by simp only[TT.ren,j,i]⟩
theorem TT.ren_height {m:Nat}{too:Nat->Int}:{n:Nat}->{t u:TT n}->t.ren m too=some u->u.height=t.height
 | 0,t,_,_=>Empty.elim t
 | n+1,t,u,h=>by
   simp only[TT.ren] at h
   cases e1:Qay m too t.1 t.2.1 with
   | none=>simp[e1] at h
   | some r1 =>
     simp only[e1] at h
     cases e2:QbW (TT.ren m too) t.2.2 with
     | none=>simp[e2] at h
     | some l1 =>
       simp only[e2] at h
       have h:=Xn h;subst h;simp only[TT.height]
       congr 1
       obtain⟨d,e⟩:=Qbz.1 e2
       apply List.ext_getElem (by simp[d])
       intro i b a;simp at b a
       have c:=e i t.2.2[i] (Zg a);rw[Zg b] at c
       simp[TT.ren_height c]
theorem TT.fault_zero {t:TT (n+1)}{regs:Int}(h:t.fault regs=0):ownC t.1 t.2.1 t.2.2.length regs=0/\∀ x∈t.2.2,x.fault regs=0:=by
 simp only[TT.fault] at h
 split at h
 ·contradiction
 ·rename_i a
  exact⟨by simpa using a,QP.1 h⟩
theorem XU:type_of% @World.cell?_of_block:=@World.cell?_of_block
section
open Go.Deep
abbrev All:Nat->Prop:=fun _=>True
abbrev Qb1 (lo:Nat):Nat->Prop:=fun g=>lo<=g
abbrev But (lo:Nat) (v:Value):Nat->Prop:=fun g=>lo<=g/\v.ownBlock≠some g
def TIn (w:World) (O:Nat->Prop):{n:Nat}->TT n->Option Addr->Prop
 | 0,t,_=>Empty.elim t
 | n+1,t,a=>∀ (i:Nat) (x:TT n),t.2.2[i]?=some x->∃ g o a' c',a=some ⟨g,o,none⟩/\O g /\
  w.cell? ⟨g,o+i*3,none⟩=some (Iv x.kind)/\w.cell? ⟨g,o+i*3+1,none⟩=some (Iv x.r)/\w.cell? ⟨g,o+i*3+2,none⟩=some (.slice a' x.len c')/\TIn w O (n:=n) x a'
abbrev Tv {n:Nat}(t:TT n) (a:Option Addr) (c:Nat):Value:=.agg #[Iv t.kind,Iv t.r,.slice a t.len c]
abbrev mkT {n:Nat}(k r:Int) (l:List (TT n)):TT (n+1):=(k,r,l)
abbrev LIn (w:World) (O:Nat->Prop){n:Nat}(l:List (TT n)) (a:Option Addr):Prop:=TIn w O (mkT 0 0 l) a
theorem TIn.list {w:World}{O:Nat->Prop}{n:Nat}{t:TT (n+1)}{a:Option Addr}(h:TIn w O t a):LIn w O t.2.2 a:=h
theorem LIn.tree {w:World}{O:Nat->Prop}{n:Nat}{k r:Int}{l:List (TT n)}{a:Option Addr}(h:LIn w O l a):TIn w O (mkT k r l) a:=h
theorem LIn.at {w:World}{O:Nat->Prop}{n:Nat}{l:List (TT n)}{a:Option Addr}(h:LIn w O l a){x:TT n}(b:l[i]?=some x) :
 ∃ g o a' c',a=some ⟨g,o,none⟩/\O g /\
  w.cell? ⟨g,o+i*3,none⟩=some (Iv x.kind)/\w.cell? ⟨g,o+i*3+1,none⟩=some (Iv x.r)/\w.cell? ⟨g,o+i*3+2,none⟩=some (.slice a' x.len c')/\TIn w O x a':=h i x b
theorem LIn.nil {w:World}{O:Nat->Prop}{n:Nat}{a:Option Addr}:LIn w O ([]:List (TT n)) a:=fun i x h=>by simp at h
theorem TIn.keep {w w':World}{O O':Nat->Prop}(hb:∀ k,O k->k<w.heap.size->w'.heap[k]?=w.heap[k]?) (f:∀ k,O k->k<w.heap.size->O' k):{n:Nat}->{t:TT n}->{a:Option Addr}->TIn w O t a->TIn w' O' t a
 | 0,t,_,_=>Empty.elim t
 | n+1,t,a,h=>fun i x m=>by
   obtain⟨g,o,l,s,e,d,j,p,r,q⟩:=h i x m
   have b:g<w.heap.size:=Xi w ⟨g,o+i*3,none⟩ j;have c:w'.heap[g]?=w.heap[g]?:=hb g d b;refine⟨g,o,l,s,e,f g d b,?_,?_,?_,TIn.keep hb f q⟩
   ·exact(XU (w:=w) (a:=⟨g,o+i*3,none⟩) c).trans j
   ·exact(XU (w:=w) (a:=⟨g,o+i*3+1,none⟩) c).trans p
   ·exact(XU (w:=w) (a:=⟨g,o+i*3+2,none⟩) c).trans r
section
variable {w w':World}{O O':Nat->Prop}{n:Nat}{t:TT n}{a:Option Addr}
theorem TIn.below (h:TIn w O t a) (b:Below w.heap.size w w'):TIn w' O t a:=h.keep (fun k _ c=>b.block k c) (fun _ h _=>h)
theorem TIn.mono (h:TIn w O t a) (b:∀ k,O k->k<w.heap.size->O' k):TIn w O' t a:=h.keep (fun k _ _=>rfl) b
theorem TIn.all (h:TIn w O t a):TIn w All t a:=h.mono (fun _ _ _=>trivial)
theorem TIn.alloc (h:TIn w O t a) (o:Obj):TIn (w.alloc o) O t a:=h.keep (fun k _ b=>Below.heap_alloc _ _ _ b) (fun _ h _=>h)
theorem TIn.setCell (h:TIn w O t a){p:Addr}(c:¬ O p.block) (v:Value):TIn (w.setCell p v) O t a :=
 h.keep (fun k b _=>Xd _ _ _ _ (fun e=>by subst e;exact c b)) (fun _ h _=>h)
theorem TIn.drew (h:TIn w O t a):TIn w.drew O t a:=h.keep (w:=w) (w':=w.drew) (fun k _ _=>rfl) (fun _ h _=>h)
theorem TIn.drewN (h:TIn w O t a) (m:Nat):TIn (w.drewN m) O t a:=h.keep (w:=w) (w':=w.drewN m) (fun k _ _=>rfl) (fun _ h _=>h)
end
theorem TT.len_eq {n:Nat}(t:TT (n+1)):t.len=t.2.2.length:=rfl
theorem QlT {α:Type}{P:Nat->α->Prop}(m:Nat) (h:∀ i,i<m->∃ x,P i x):∃ l:List α,l.length=m/\∀ i x,l[i]?=some x->P i x:=by
 induction m with
 | zero=>exact⟨[],Z,fun i x b=>by simp at b⟩
 | succ m ih =>
   obtain⟨l,c,e⟩:=ih (fun i d=>h i (by omega))
   obtain⟨x,b⟩:=h m (by omega)
   refine⟨l++[x],by simp[c],fun i y a=>?_⟩
   rw[List.getElem?_append] at a
   split at a
   ·exact e i y a
   ·rename_i d
    have:i=m:=by
     have:=(Zi a).1
     simp at this
     omega
    subst this;simp[c] at a
    subst a;exact b
theorem Qk0 {H:Type}{enc:TypeId × Value->H}{w:World}{f:Nat}{g:Nat->Bool}{E:Bool}{G ts ti:TypeId}{u A C:Field}
 (hs:P.underlying ts=some (.slice G)) (ht:P.underlying G=some (.struct #[u,A,C])) (hc:P.cellsOf G=3)
 (U:u.offset=0/\P.cellsOf u.type=1/\P.underlying u.type=some (.int .i64)) (h1:A.offset=1/\P.cellsOf A.type=1/\P.underlying A.type=some (.int .i64))
 (X:C.offset=2/\P.cellsOf C.type=1/\C.type=ts):∀ (n fuel:Nat),fuel<=n->∀ {cs:List Value} {x:DataW H × List MemPlace},
 DataW.trod enc P w f g E fuel G cs=some x->∃ (T:TT n) (a:Option Addr) (c:Nat),cs=[Iv T.kind,Iv T.r,.slice a T.len c]/\TIn w All T a/\T.ok:=by
 intro n
 induction n with
 | zero =>
   intro fuel hf cs x h;obtain rfl:fuel=0:=by omega
   simp[DataW.trod] at h
 | succ n ih =>
   intro fuel hf cs x h;obtain⟨xs,m,rfl,_,y,L,p⟩:=DataW.trod_struct ht h
   have ad:xs.length=3:=L;have g0:=p 0 u Z;have g1:=p 1 A Z;have g2:=p 2 C Z;rw[U.1,U.2.1,Zg (by omega)] at g0
   rw[h1.1,h1.2.1,Zg (by omega)] at g1
   rw[X.1,X.2.1,X.2.2,Zg (by omega)] at g2
   obtain⟨k,e0,_,_⟩:=DataW.trod_int U.2.2 g0
   obtain⟨r,e1,_,V⟩:=DataW.trod_int h1.2.2 g1
   have ew:-9223372036854775808<=r/\r<=9223372036854775807:=by
    have:=Go.bounds_i64 V
    omega
   rw[hc] at y
   obtain⟨J,K,O,rfl⟩:∃ J K O,cs=[J,K,O]:=by
    match cs,y with
    | [J,K,O],_=>exact⟨_,_,_,Z⟩
   simp at e0 e1
   subst e0 e1;rcases DataW.trod_slice hs g2 with ⟨v,_⟩|⟨a,len,aa,N,ae,q,rfl,v,_,hb,hl,hm,af,W,_,_⟩
   ·simp at v
    subst v;exact⟨mkT k r [],none,0,Z,LIn.nil,ew,fun x t=>by cases t⟩
   ·simp at v
    subst v
    obtain⟨l,ab,R⟩:=QlT (P:=fun i (T:TT n)=>∃ o s,w.cells? f (a.add (i*3)) 3=some [Iv T.kind,Iv T.r,.slice o T.len s]/\TIn w All T o/\T.ok) len (fun i z=>by
     have M:=W i z;rw[Zg (by omega),hc] at M
     rw[Option.bind_eq_some_iff] at M
     obtain⟨ag,e,S⟩:=M
     obtain⟨T,o,s,rfl,F,I⟩:=ih q (by omega) S
     exact⟨T,o,s,e,F,I⟩)
    refine⟨mkT k r l,some a,aa,by simp[TT.kind,TT.r,TT.len,ab],fun i x t=>?_,ew,fun x t=>?_⟩
    ·obtain⟨o,s,e,F,I⟩:=R i x t
     obtain⟨_,ac,d⟩:=World.cells?_some e
     have q0:=d 0 (by omega);have q1:=d 1 (by omega);have q2:=d 2 (by omega);obtain⟨b,Q,B⟩:=a
     have j:B=none:=by
      have z:0<l.length:=Nat.lt_of_le_of_lt (Xb i) (Zi t).1;obtain⟨_,_,D,_,_⟩:=R 0 l[0] (Zg z)
      have:=(World.cells?_some D).2.2 0 (by omega)
      simpa[Addr.add] using World.cell?_spot this
     subst j;rw[Go.WideShapes.add_plain,Go.WideShapes.add_plain] at q0 q1 q2
     exact⟨b,Q,o,s,Z,Y,q0,q1,q2,F⟩
    ·obtain⟨i,z,rfl⟩:=List.mem_iff_getElem.1 t
     obtain⟨o,s,e,F,I⟩:=R i l[i] (Zg z)
     exact I
#print axioms Qk0
end
section
open Go.Deep
structure Qv where
 op:Int
 a:Int
 b:Int
 c:Int
 k:Int
 n:Int
 regs:List Int
 args:List Int
structure MTo where
 block:Int
 regs:List Int
 args:List Int
structure Z0 where
 op:Int
 a:Int
 yes:MTo
 no:MTo
 args:List Int
structure MBlock (n:Nat) where
 regs:Int
 params:List (TT n)
 code:List Qv
 fin:Z0
structure MFunc (n:Nat) where
 regs:Int
 params:List (TT n)
 results:List (TT n)
 blocks:List (MBlock n)
def Lay.via {α β:Type}(A:Lay α) (f:β->α):Lay β where
 size:=A.size
 In:=fun w O x cs=>A.In w O (f x) cs
 len:=fun h=>A.len h
 keep:=fun hb hl h=>A.keep hb hl h
theorem QaH.via {α β:Type}{A:Lay α}{n:Nat}{f:β->α}(h:QaH P t A n) (g:α->β) (a:∀ d,f (g d)=d):QaH P t (A.via f) n :=
 ⟨h.1,fun e b=>by
  obtain⟨d,c⟩:=h.2 e b
  exact⟨g d,by show A.In _ _ (f (g d)) _;rw[a];exact c⟩⟩
def Lay.tt (n:Nat):Lay (TT n) where
 size:=3
 In:=fun w O t cs=>∃ a c,cs=[Iv t.kind,Iv t.r,.slice a t.len c]/\TIn w O t a/\t.ok
 len:=fun ⟨_,_,e,_⟩=>by rw[e];rfl
 keep:=fun hb hl ⟨a,c,e,h1,h2⟩=>⟨a,c,e,h1.keep hb hl,h2⟩
abbrev intsL:Lay (List Int):=Lay.int.list
abbrev Qx (n:Nat):Lay (List (TT n)):=(Lay.tt n).list
def insL:Lay Qv:=(Lay.int.pair (Lay.int.pair (Lay.int.pair (Lay.int.pair (Lay.int.pair (Lay.int.pair (intsL.pair intsL))))))).via (fun x=>(x.op,x.a,x.b,x.c,x.k,x.n,x.regs,x.args))
def toL:Lay MTo:=(Lay.int.pair (intsL.pair intsL)).via (fun x=>(x.block,x.regs,x.args))
def endL:Lay Z0:=(Lay.int.pair (Lay.int.pair (toL.pair (toL.pair intsL)))).via (fun x=>(x.op,x.a,x.yes,x.no,x.args))
def Zq (n:Nat):Lay (MBlock n):=(Lay.int.pair ((Qx n).pair (insL.list.pair endL))).via (fun x=>(x.regs,x.params,x.code,x.fin))
def ZW (n:Nat):Lay (MFunc n):=(Lay.int.pair ((Qx n).pair ((Qx n).pair (Zq n).list))).via (fun x=>(x.regs,x.params,x.results,x.blocks))
abbrev ZZ (n:Nat):Lay (List (MFunc n)):=(ZW n).list
section
variable {w:World}{O:Nat->Prop}{n:Nat}{cs:List Value}
theorem Zs {α:Type}{A:Lay α}{l:List α}(h:A.list.In w O l cs):∃ a c,cs=[.slice a l.length c]/\A.list.In w O l [.slice a l.length c]:=by
 obtain⟨a,c,e,h⟩:=h
 exact⟨a,c,e,a,c,Z,h⟩
theorem QfM {x:MTo}(h:toL.In w O x cs):∃ a c b d,cs=[Iv x.block,.slice a x.regs.length c,.slice b x.args.length d]/\intsL.In w O x.regs [.slice a x.regs.length c]/\intsL.In w O x.args [.slice b x.args.length d]/\(-9223372036854775808<=x.block/\x.block<=9223372036854775807):=by
 obtain⟨_,_,rfl,⟨rfl,g⟩,⟨_,_,rfl,f,e⟩⟩:=h
 obtain⟨a,c,rfl,f⟩:=Zs f
 obtain⟨b,d,rfl,e⟩:=Zs e
 exact⟨a,c,b,d,Z,f,e,g⟩
theorem QnD {x:MTo}{b:Option Addr}(f:intsL.In w O x.regs [.slice a x.regs.length c]) (e:intsL.In w O x.args [.slice b x.args.length d]) (g:-9223372036854775808<=x.block/\x.block<=9223372036854775807) :
 toL.In w O x [Iv x.block,.slice a x.regs.length c,.slice b x.args.length d]:=⟨_,_,Z,⟨Z,g⟩,⟨_,_,Z,f,e⟩⟩
theorem QgW {x:Qv}(h:insL.In w O x cs):∃ a c b d,cs=[Iv x.op,Iv x.a,Iv x.b,Iv x.c,Iv x.k,Iv x.n,.slice a x.regs.length c,.slice b x.args.length d]/\intsL.In w O x.regs [.slice a x.regs.length c]/\intsL.In w O x.args [.slice b x.args.length d] /\
 ((-9223372036854775808<=x.op/\x.op<=9223372036854775807)/\(-9223372036854775808<=x.a/\x.a<=9223372036854775807)/\(-9223372036854775808<=x.b/\x.b<=9223372036854775807)/\(-9223372036854775808<=x.c/\x.c<=9223372036854775807)/\(-9223372036854775808<=x.k/\x.k<=9223372036854775807)/\(-9223372036854775808<=x.n/\x.n<=9223372036854775807)):=by
 obtain⟨_,_,rfl,⟨rfl,i⟩,⟨_,_,rfl,⟨rfl,m⟩,⟨_,_,rfl,⟨rfl,g⟩,⟨_,_,rfl,⟨rfl,o⟩,⟨_,_,rfl,⟨rfl,j⟩,⟨_,_,rfl,⟨rfl,l⟩,⟨_,_,rfl,f,e⟩⟩⟩⟩⟩⟩⟩:=h
 obtain⟨a,c,rfl,f⟩:=Zs f
 obtain⟨b,d,rfl,e⟩:=Zs e
 exact⟨a,c,b,d,Z,f,e,i,m,g,o,j,l⟩
theorem QdS {x:Qv}{b:Option Addr}(g:intsL.In w O x.regs [.slice a x.regs.length c]) (f:intsL.In w O x.args [.slice b x.args.length d])
 (e:(-9223372036854775808<=x.op/\x.op<=9223372036854775807)/\(-9223372036854775808<=x.a/\x.a<=9223372036854775807)/\(-9223372036854775808<=x.b/\x.b<=9223372036854775807)/\(-9223372036854775808<=x.c/\x.c<=9223372036854775807)/\(-9223372036854775808<=x.k/\x.k<=9223372036854775807)/\(-9223372036854775808<=x.n/\x.n<=9223372036854775807)) :
 insL.In w O x [Iv x.op,Iv x.a,Iv x.b,Iv x.c,Iv x.k,Iv x.n,.slice a x.regs.length c,.slice b x.args.length d] :=
 ⟨_,_,Z,⟨Z,e.1⟩,⟨_,_,Z,⟨Z,e.2.1⟩,⟨_,_,Z,⟨Z,e.2.2.1⟩,⟨_,_,Z,⟨Z,e.2.2.2.1⟩,⟨_,_,Z,⟨Z,e.2.2.2.2.1⟩,⟨_,_,Z,⟨Z,e.2.2.2.2.2⟩,⟨_,_,Z,g,f⟩⟩⟩⟩⟩⟩⟩
theorem QgZ {x:Z0}(h:endL.In w O x cs):∃ c1 c2 a c,cs=Iv x.op::Iv x.a::(c1++(c2++[.slice a x.args.length c]))/\toL.In w O x.yes c1/\toL.In w O x.no c2/\intsL.In w O x.args [.slice a x.args.length c]/\((-9223372036854775808<=x.op/\x.op<=9223372036854775807)/\(-9223372036854775808<=x.a/\x.a<=9223372036854775807)):=by
 obtain⟨_,_,rfl,⟨rfl,e⟩,⟨_,_,rfl,⟨rfl,f⟩,⟨c1,_,rfl,d,⟨c2,_,rfl,g,b⟩⟩⟩⟩:=h
 obtain⟨a,c,rfl,b⟩:=Zs b
 exact⟨c1,c2,a,c,Z,d,g,b,e,f⟩
theorem QmD {x:Z0}{b d:List Value}(f:toL.In w O x.yes b) (h:toL.In w O x.no d) (g:intsL.In w O x.args [.slice a x.args.length c]) (e:(-9223372036854775808<=x.op/\x.op<=9223372036854775807)/\(-9223372036854775808<=x.a/\x.a<=9223372036854775807)) :
 endL.In w O x (Iv x.op::Iv x.a::(b++(d++[.slice a x.args.length c]))):=⟨[_],_,Z,⟨Z,e.1⟩,⟨[_],_,Z,⟨Z,e.2⟩,⟨b,_,Z,f,⟨d,_,Z,h,g⟩⟩⟩⟩
theorem Qcb {x:MBlock n}(h:(Zq n).In w O x cs):∃ a c b d es,cs=Iv x.regs::.slice a x.params.length c::.slice b x.code.length d::es/\(Qx n).In w O x.params [.slice a x.params.length c]/\insL.list.In w O x.code [.slice b x.code.length d]/\endL.In w O x.fin es/\(-9223372036854775808<=x.regs/\x.regs<=9223372036854775807):=by
 obtain⟨_,_,rfl,⟨rfl,g⟩,⟨_,_,rfl,f,⟨_,es,rfl,e,i⟩⟩⟩:=h
 obtain⟨a,c,rfl,f⟩:=Zs f
 obtain⟨b,d,rfl,e⟩:=Zs e
 exact⟨a,c,b,d,es,Z,f,e,i,g⟩
theorem QgD {x:MBlock n}{b:Option Addr}{e:List Value}(h:(Qx n).In w O x.params [.slice a x.params.length c]) (f:insL.list.In w O x.code [.slice b x.code.length d]) (i:endL.In w O x.fin e) (g:-9223372036854775808<=x.regs/\x.regs<=9223372036854775807) :
 (Zq n).In w O x (Iv x.regs::.slice a x.params.length c::.slice b x.code.length d::e):=⟨[_],_,Z,⟨Z,g⟩,⟨[_],_,Z,h,⟨[_],e,Z,f,i⟩⟩⟩
theorem QaY {x:MFunc n}(h:(ZW n).In w O x cs):∃ a c b d e f,cs=[Iv x.regs,.slice a x.params.length c,.slice b x.results.length d,.slice e x.blocks.length f]/\(Qx n).In w O x.params [.slice a x.params.length c]/\(Qx n).In w O x.results [.slice b x.results.length d]/\(Zq n).list.In w O x.blocks [.slice e x.blocks.length f]/\(-9223372036854775808<=x.regs/\x.regs<=9223372036854775807):=by
 obtain⟨_,_,rfl,⟨rfl,k⟩,⟨_,_,rfl,i,⟨_,_,rfl,g,j⟩⟩⟩:=h
 obtain⟨a,c,rfl,i⟩:=Zs i
 obtain⟨b,d,rfl,g⟩:=Zs g
 obtain⟨e,f,rfl,j⟩:=Zs j
 exact⟨a,c,b,d,e,f,Z,i,g,j,k⟩
theorem Qjk {x:MFunc n}{b e:Option Addr}(h:(Qx n).In w O x.params [.slice a x.params.length c]) (g:(Qx n).In w O x.results [.slice b x.results.length d]) (j:(Zq n).list.In w O x.blocks [.slice e x.blocks.length f]) (i:-9223372036854775808<=x.regs/\x.regs<=9223372036854775807) :
 (ZW n).In w O x [Iv x.regs,.slice a x.params.length c,.slice b x.results.length d,.slice e x.blocks.length f]:=⟨[_],_,Z,⟨Z,i⟩,⟨[_],_,Z,h,⟨[_],_,Z,g,j⟩⟩⟩
theorem ZJ (h:intsL.In w O l [.slice a m c])(hi:i<l.length):∃ g o,a=some ⟨g,o,none⟩/\O g/\g<w.heap.size/\w.cell? ⟨g,o+i,none⟩=some (Iv (l.getD i 0)):=by
 obtain⟨g,o,k,e,f,d,j,rfl,_⟩:=Yf h (Zg hi)
 refine⟨g,o,e,f,d,?_⟩
 have:=j 0 (by decide)
 have b:Lay.int.size=1:=rfl;rw[b,XL,Nat.add_zero] at this
 rw[this]
 simp[List.getD,hi]
theorem Q7 {l:List (TT n)}(h:(Qx n).In w O l [.slice a m c]):LIn w O l a/\∀ x∈l,x.ok:=by
 refine⟨fun i x d=>?_,fun x d=>?_⟩
 ·obtain⟨g,o,u,e,k,r,b,f,p,rfl,j,_⟩:=Yf h d
  have q:(Lay.tt n).size=3:=rfl;rw[q] at b
  exact⟨g,o,f,p,e,k,b 0 (by omega),b 1 (by omega),b 2 (by omega),j⟩
 ·obtain⟨i,s,rfl⟩:=List.mem_iff_getElem.1 d
  obtain⟨g,o,u,e,k,r,b,f,p,rfl,j,t⟩:=Yf h (Zg s)
  exact t
theorem Qfg {l:List (TT n)}(h:LIn w O l a) (d:∀ x∈l,x.ok):(Qx n).In w O l [.slice a l.length c]:=by
 refine⟨a,c,Z,fun i x k=>?_⟩
 obtain⟨g,o,f,p,e,v,m,y,t,u⟩:=LIn.at h k
 refine⟨g,o,[Iv x.kind,Iv x.r,.slice f x.len p],e,v,Xi w ⟨g,o+i*3,none⟩ m,fun j q=>?_,f,p,Z,u,d x (Zm k)⟩
 have b:j<3:=q;have s:(Lay.tt n).size=3:=rfl;rw[s]
 match j,b with
 | 0,_=>exact m
 | 1,_=>exact y
 | 2,_=>exact t
end
end
def Zo (op:Int):Option (Bool × Bool × Bool × Bool × Bool × Bool × Bool) :=
 if op=1 then some (false,false,false,false,true,false,false)
 else if op=2\/op=7 then some (true,true,false,true,false,false,false)
 else if op=3\/op=12 then some (false,false,false,false,false,false,false)
 else if op=4\/op=11\/op=13 then some (true,false,false,false,false,false,false)
 else if op=5 then some (true,false,false,false,false,false,true)
 else if op=6 then some (true,false,false,true,false,false,false)
 else if op=8\/op=9 then some (true,true,false,false,false,false,false)
 else if op=10 then some (true,true,true,false,false,false,false)
 else if op=14 then some (false,false,false,true,false,true,true)
 else none
def Qv.formless (x:Qv):Bool:=match Zo x.op with
 | none=>false
 | some (a,b,c,k,n,rg,ar)=>(!a&&x.a != 0)||(!b&&x.b != 0)||(!c&&x.c != 0)||(!k&&x.k != 0)||(!n&&x.n != 0)||(!rg&&decide (0<x.regs.length))||(!ar&&decide (0<x.args.length))
def Qv.form (funcs:Nat) (x:Qv):Int :=
 if (Zo x.op).isNone then 3
 else if x.formless then 4
 else if x.op=2/\(x.k<1\/9<x.k) then 1
 else if x.op=5/\8<x.args.length then 2
 else if (x.op=6\/x.op=7)/\(x.k<0\/7<x.k) then 1
 else if x.op=14/\(x.k<0\/(funcs:Int)<=x.k) then 1
 else if x.op=14/\(6<x.regs.length\/8<x.args.length) then 2
 else 0
def MTo.form (blocks:Nat) (has:Bool) (t:MTo):Int :=
 if has=false then (if t.block≠0\/0<t.regs.length+t.args.length then 4 else 0)
 else if t.block<0\/(blocks:Int)<=t.block then 1
 else if 16<t.regs.length\/8<t.args.length then 2
 else 0
def Z0.form (blocks:Nat) (e:Z0):Int :=
 if e.op<1\/3<e.op then 3
 else if (e.a≠0/\e.op≠2)\/(0<e.args.length/\e.op≠3) then 4
 else if 8<e.args.length then 2
 else if e.yes.form blocks (decide (e.op≠3))≠0 then e.yes.form blocks (decide (e.op≠3))
 else e.no.form blocks (decide (e.op=2))
def listC {n:Nat}(regs:Int) (l:List (TT n)):Int:=if 8<l.length then 2 else QM (TT.check regs) l
def firstF {α:Type}(f:Nat->α->Int × Int):Nat->List α->Int × Int
 | _,[]=>(0,0)
 | i,x::xs=>if (f i x).1≠0 then f i x else firstF f (i+1) xs
def TT.dec:(n:Nat)->DecidableEq (TT n)
 | 0=>fun t _=>Empty.elim t
 | n+1=>fun t u=>match (TT.dec n) with
   | d=>if h1:t.1=u.1 then if h2:t.2.1=u.2.1 then match (@List.hasDecEq _ d t.2.2 u.2.2) with
    | isTrue h3=>isTrue (by obtain⟨a,b,c⟩:=t;obtain⟨a',b',c'⟩:=u;simp only at h1 h2 h3;subst h1 h2 h3;rfl)
    | isFalse h3=>isFalse (fun e=>h3 (by rw[e]))
    else isFalse (fun e=>h2 (by rw[e])) else isFalse (fun e=>h1 (by rw[e]))
def Qdy {n:Nat}(l m:List (TT n)):Bool:=match @List.hasDecEq _ (TT.dec n) l m with
 | isTrue _=>true
 | isFalse _=>false
theorem QcZ {l m:List (TT n)}:Qdy l m=true↔l=m:=by
 unfold Qdy;split
 ·rename_i h _;simp[h]
 ·rename_i h _;simp[h]
def MBlock.fault {n:Nat}(funcs:Nat) (f:Nat) (fn:MFunc n) (b:Nat) (x:MBlock n):Int × Int :=
 if x.regs<fn.regs\/16<x.regs then (1,10000*f+100*b+90)
 else if listC x.regs x.params≠0 then (listC x.regs x.params,10000*f+100*b+90)
 else if b=0/\(x.regs≠fn.regs\/Qdy x.params fn.params=false) then (9,10000*f+100*b+90)
 else if 40<x.code.length then (2,10000*f+100*b+90)
 else if (firstF (fun i y=>(Qv.form funcs y,(10000*f+100*b+i:Int))) 0 x.code).1≠0 then firstF (fun i y=>(Qv.form funcs y,(10000*f+100*b+i:Int))) 0 x.code
 else if x.fin.form fn.blocks.length≠0 then (x.fin.form fn.blocks.length,10000*f+100*b+91)
 else (0,0)
def MFunc.fault {n:Nat}(funcs:Nat) (f:Nat) (x:MFunc n):Int × Int :=
 if x.regs<0\/6<x.regs then (1,10000*f+9999)
 else if listC x.regs x.params≠0 then (listC x.regs x.params,10000*f+9999)
 else if listC x.regs x.results≠0 then (listC x.regs x.results,10000*f+9999)
 else if x.blocks.length<1\/12<x.blocks.length then (2,10000*f+9999)
 else if f=0/\¬ (x.regs=0/\x.params.length=0/\x.results.all (fun t=>t.kind==1)=true) then (18,10000*f+9999)
 else firstF (fun b y=>MBlock.fault funcs f x b y) 0 x.blocks
def modFault {n:Nat}(m:List (MFunc n)):Int × Int :=
 if m.length<1\/8<m.length then (2,-1) else firstF (fun f x=>MFunc.fault m.length f x) 0 m
def ZG {n:Nat}(l:List (TT n)):Prop:=200<l.length\/∃ t∈l,2000<t.count
def MBlock.great {n:Nat}(x:MBlock n):Prop:=200<x.code.length\/ZG x.params\/300<x.fin.args.length\/300<x.fin.yes.regs.length\/300<x.fin.yes.args.length\/300<x.fin.no.regs.length\/300<x.fin.no.args.length\/∃ y∈x.code,300<y.regs.length\/300<y.args.length
def MFunc.great {n:Nat}(x:MFunc n):Prop:=30<x.blocks.length\/ZG x.params\/ZG x.results\/∃ y∈x.blocks,y.great
def QO {n:Nat}(m:List (MFunc n)):Prop:=20<m.length\/∃ x∈m,x.great
theorem QbC {α:Type}{f:Nat->α->Int × Int}:∀ {l:List α}{i j:Nat}{x:α},l[i]?=some x->(∀ k y,k<i->l[k]?=some y->(f (j+k) y).1=0)->(f (j+i) x).1≠0->firstF f j l=f (j+i) x
 | [],i,j,x,h,_,_=>by simp at h
 | y::ys,0,j,x,h,_,hf=>by
   simp at h;subst h
   simp only[firstF]
   rw[Xs (by simpa using hf)]
   rfl
 | y::ys,i+1,j,x,h,hz,hf=>by
   have b:(f j y).1=0:=by simpa using hz 0 y (by omega) Z
   simp only[firstF,b,ne_eq,not_true_eq_false,if_false]
   have:=QbC (f:=f) (l:=ys) (i:=i) (j:=j+1) (x:=x) (by simpa using h) (fun k z c a=>by have:=hz (k+1) z (by omega) (by simpa using a);rwa [show j+1+k=j+(k+1) by omega]) (by rwa [show j+1+i=j+(i+1) by omega])
   rw[this,show j+1+i=j+(i+1) by omega]
theorem QaD {α:Type}{f:Nat->α->Int × Int}:∀ {l:List α}{j:Nat},(∀ (k:Nat) y,l[k]?=some y->(f (j+k) y).1=0)->firstF f j l=(0,0)
 | [],_,_=>rfl
 | y::ys,j,h=>by
   have a:(f j y).1=0:=by simpa using h 0 y Z
   simp only[firstF,a,ne_eq,not_true_eq_false,if_false]
   exact QaD (fun k z b=>by have:=h (k+1) z (by simpa using b);rwa [show j+1+k=j+(k+1) by omega])
theorem XV:type_of% @List.take_add_one:=@List.take_add_one
structure Bx (w wr:World) (k r:Int) (a:Option Addr) (len c:Nat):Prop where
 bel:Below w.heap.size w wr
 box:wr.heap[w.heap.size]?=some (.cells #[Iv k,Iv r,.slice a len c] 105 (0,0))
theorem Bx.start (w:World) (k r:Int) (a:Option Addr) (len c:Nat):Bx w (w.alloc (.cells #[Iv k,Iv r,.slice a len c] 105)) k r a len c :=
 ⟨(Below.refl _ w).alloc Ze _,Qf w _ _⟩
theorem Bx.lt {k r:Int}{len:Nat}(h:Bx w wr k r a len c):w.heap.size<wr.heap.size:=XC h.box
theorem Bx.below {k r:Int}{len:Nat}(h:Bx w wr k r a len c) (b:Below wr.heap.size wr w'):Bx w w' k r a len c :=
 ⟨h.bel.trans (b.mono h.bel.size),Qax h.box b⟩
theorem Bx.alloc {k r:Int}{len:Nat}(h:Bx w wr k r a len c) (o:Obj):Bx w (wr.alloc o) k r a len c :=
 h.below ((Below.refl _ wr).alloc Ze _)
theorem Bx.drewN {k r:Int}{len:Nat}(h:Bx w wr k r a len c) (m:Nat):Bx w (wr.drewN m) k r a len c:=⟨⟨h.bel.os,h.bel.tape,h.bel.output,h.bel.size,h.bel.block⟩,h.box⟩
theorem Bx.drew {k r:Int}{len:Nat}(h:Bx w wr k r a len c):Bx w wr.drew k r a len c:=h.drewN 1
theorem QeD {α:Type}(f:α->Nat) (l:List α) (i:Nat) (x:α) (h:l[i]?=some x):((l.map f).take (i+1)).sum=((l.map f).take i).sum+f x:=by
 rw[XV,XS,h]
 simp
def Qi2 (f:Nat) (n:Nat):Prop:=∀ (t:TT n) (a:Option Addr) (c:Nat) (regs:Int) (w:World),TIn w All t a->t.count<=100000 ->
 Calls prog f #[Tv t a c,Iv regs] w fun e w'=>e=.returned (Iv (t.fault regs))/\Below w.heap.size w w'
def Rd (P:Program) (f:FuncId) (args:Array Value) (w:World) (V:Value):Prop:=Calls P f args w fun e w'=>e=.returned V/\Below w.heap.size w w'
noncomputable def Qam (A:Prop):Bool:=@decide A (Classical.propDecidable A)
theorem Qbb {A:Prop}:Qam A=true↔A:=by unfold Qam;simp
theorem QG {A:Prop}(h:A):Qam A=true:=Qbb.2 h
theorem QA {A:Prop}(h:¬ A):Qam A=false:=by
 cases e:Qam A with
 | false=>rfl
 | true=>exact absurd (Qbb.1 e) h
theorem Qf3 {A:Prop}{q:Bool}(h:q=true↔A):q=Qam A:=by
 cases q with
 | false=>exact(QA fun a=>by have:=h.2 a;cases this).symm
 | true=>exact(QG (h.1 Z)).symm
theorem Xl:type_of% @Below.andThen:=@Below.andThen
structure Wd (w0 w:World) (Bs:List (Nat × Array Value × TypeId)):Prop where
 bel:Below w0.heap.size w0 w
 blk:∀ (i:Nat) x,Bs[i]?=some x->Blk w x.1 x.2.1 x.2.2
 new:∀ (i:Nat) x,Bs[i]?=some x->w0.heap.size<=x.1
 nd:∀ (i j:Nat) x y,Bs[i]?=some x->Bs[j]?=some y->x.1=y.1->i=j
section
variable {w0 w w':World}{Bs:List (Nat × Array Value × TypeId)}
theorem Wd.start (w:World):Wd w w []:=⟨Zr,fun i x h=>by simp at h,fun i x h=>by simp at h,fun i j x y h=>by simp at h⟩
theorem Ye:type_of% @Wd.start:=@Wd.start
theorem Wd.below (h:Wd w0 w Bs) (b:Below w.heap.size w w'):Wd w0 w' Bs:=⟨Xl h.bel b,fun i x a=>(h.blk i x a).below b,h.new,h.nd⟩
theorem Wd.get (h:Wd w0 w Bs) (i:Nat){c:Array Value}{t:TypeId}(hi:Bs[i]?=some (B,c,t)):Blk w B c t:=h.blk i _ hi
theorem Wd.set (h:Wd w0 w Bs) (i:Nat){c c':Array Value}{t:TypeId}{o:List (Nat × Array Value × TypeId)}(hi:Bs[i]?=some (B,c,t)) (j:Nat) (v:Value)
 (s:c.setIfInBounds j v=c') (z:Bs.set i (B,c',t)=o):Wd w0 (w.setCell ⟨B,j,none⟩ v) o:=by
 subst z;subst s
 have m:∀ (k:Nat) x,(Bs.set i (B,c.setIfInBounds j v,t))[k]?=some x->(k=i/\x=(B,c.setIfInBounds j v,t))\/(k≠i/\Bs[k]?=some x):=by
  intro k x a;rw[List.getElem?_set] at a
  split at a
  ·rename_i e
   subst e;have q:i<Bs.length:=(Zi hi).1;rw[Xs q] at a
   exact .inl ⟨Z,(Xn a).symm⟩
  ·rename_i e
   exact .inr ⟨fun u=>e u.symm,a⟩
 have g:∀ (k:Nat) x,Bs[k]?=some x->k≠i->x.1≠B:=fun k x a f e=>f (h.nd k i x _ a hi e);refine⟨h.bel.setCell (p:=⟨B,j,none⟩) (h.new i _ hi) v,fun k x a=>?_,fun k x a=>?_,fun k l x y a r e=>?_⟩
 ·rcases m k x a with ⟨rfl,rfl⟩|⟨f,a⟩
  ·exact Qh (h.blk k _ hi) j v
  ·exact(h.blk k x a).setOther (fun e=>g k x a f e.symm) v
 ·rcases m k x a with ⟨rfl,rfl⟩|⟨f,a⟩
  ·exact h.new k (B,c,t) hi
  ·exact h.new k x a
 ·rcases m k x a with ⟨f,d⟩|⟨f,d⟩
  ·rcases m l y r with ⟨n,b⟩|⟨n,b⟩
   ·rw[f,n]
   ·rw[d] at e;exact absurd e.symm (g l y b n)
  ·rcases m l y r with ⟨n,b⟩|⟨n,b⟩
   ·rw[b] at e;exact absurd e (g k x d f)
   ·exact h.nd k l x y d b e
def ZK (c:Array Value) (j:Nat) (vs:List Value):Array Value:=(c.toList.take j++(vs++c.toList.drop (j+vs.length))).toArray
theorem Qck (c:Array Value) (j:Nat) (v:Value) (b:List Value) (h:j+(v::b).length<=c.size):ZK (c.setIfInBounds j v) (j+1) b=ZK c j (v::b):=by
 unfold ZK;congr 1
 have d:j<c.toList.length:=by simp at h |-;omega
 simp only[Array.toList_setIfInBounds]
 rw[List.take_set,List.drop_set_of_lt (by omega),XV,Zg d]
 simp only[Option.toList,List.length_cons]
 have:(c.toList.take j++[c.toList[j]]).set j v=c.toList.take j++[v]:=by
  rw[List.set_append_right _ _ (by simp;omega)]
  have a:j<c.size:=by simpa using d
  simp[Nat.min_eq_left (Nat.le_of_lt a)]
 rw[this,Nat.add_assoc,Nat.add_comm 1]
 simp
theorem Wd.setAt (h:Wd w0 w Bs) (i:Nat){c c':Array Value}{t:TypeId}{d:List (Nat × Array Value × TypeId)}(hi:Bs[i]?=some (B,c,t)) (j:Nat) (a:List Value)
 (l:Nat.ble (j+a.length) c.size=true) (g:ZK c j a=c') (m:Bs.set i (B,c',t)=d):Wd w0 (w.setCells B j a) d:=by
 have b:j+a.length<=c.size:=by simpa[Nat.ble_eq] using l
 clear l
 induction a generalizing w Bs c j with
 | nil =>
   subst m
   have:c=c':=by rw[<-g];unfold ZK;simp
   subst this
   have:Bs.set i (B,c,t)=Bs:=by
    apply List.ext_getElem?
    intro k;rw[List.getElem?_set]
    split
    ·rename_i e;subst e;rw[hi];simp[(Zi hi).1]
    ·rfl
   rw[this];exact h
 | cons v a ih =>
   have f:i<Bs.length:=(Zi hi).1;refine ih (c:=c.setIfInBounds j v) (h.set i hi j v Z Z) (by rw[List.getElem?_set];simp[f]) (j+1) ?_ ?_ ?_
   ·rw[<-g,Qck _ _ _ _ b]
   ·rw[List.set_set];exact m
   ·simp at b |-;omega
theorem Wd.drewN (h:Wd w0 w Bs) (m:Nat):Wd w0 (w.drewN m) Bs:=⟨QfZ h.bel,fun i x a=>h.blk i x a,h.new,h.nd⟩
end
section
variable {P:Program}{n:Nat}{a:Act}{L:List (Tmp × Value)}{w0 w w':World}{Bs Bs':List (Nat × Array Value × TypeId)}{Q:Exit->Act->World->Prop}{ops:Array Oper}{o:Oper}{rest:List Oper}{t:Tmp}{v:Value}
theorem QkO (b:Fr n a L) (c:Wd w0 w' Bs') (d:o.dst=none) (e:o.guard=none)
 (h:∀ K:Act->World->Prop,K a w'->o.wp P a w K Q)
 (k:∀ w',Wd w0 w' Bs'->wpList P ops Q rest a w'):wpList P ops Q (o::rest) a w :=
 QlM b d e h (k _ c)
end
section
variable {w0 w w' w00:World}{Bs:List (Nat × Array Value × TypeId)}
theorem Wd.add (h:Wd w0 w Bs){c:Array Value}(hb:Blk w B c t) (d:Wd w0 w00 Bs) (f:w00.heap.size<=B):Wd w0 w ((B,c,t)::Bs):=by
 refine⟨h.bel,fun i x a=>?_,fun i x a=>?_,fun i j x y a b e=>?_⟩
 ·cases i with
  | zero=>simp at a;subst a;exact hb
  | succ i=>exact h.blk i x (by simpa using a)
 ·cases i with
  | zero=>simp at a;subst a;have:=d.bel.size;simp only;omega
  | succ i=>exact h.new i x (by simpa using a)
 ·cases i with
  | zero =>
    cases j with
    | zero=>rfl
    | succ j =>
      simp at a b;subst a
      have:=(d.blk j y b).lt
      simp at e;omega
  | succ i =>
    cases j with
    | zero =>
      simp at a b;subst b
      have:=(d.blk i x a).lt
      simp at e;omega
    | succ j=>rw[h.nd i j x y (by simpa using a) (by simpa using b) e]
end
def QgI (o:Oper) (j:Nat):Bool:=o.after.any fun e=>Region.binds .any e&&e.on==j
theorem Qh3 {o:Oper}(h:QgI o j=true):∃ e∈o.after,Region.binds .any e=true/\e.on=j:=by
 obtain⟨q,b,a⟩:=Array.any_eq_true.1 h
 simp only[Bool.and_eq_true,beq_iff_eq] at a
 exact⟨_,Array.getElem_mem b,a.1,a.2⟩
def Qcr (L:List (Tmp × Value)):Operand->Option Value
 | .tmp t=>L.lookup t
 | .const v=>some v
 | .func f=>some (.func (.func f) #[] #[])
 | _=>none
abbrev St (n:Nat) (L:List (Tmp × Value)) (ops:Array Oper) (Q:Exit->Act->World->Prop) (l:List Oper) (w:World):Prop:=∀ a,Fr n a L->wpList prog ops Q l a w
def Gok (ops:Array Oper) (n:Nat) (L:List (Tmp × Value)):Option (Nat × Bool)->Prop
 | none=>True
 | some (g,want)=>∃ tg,(ops[g]?).bind (fun o:Oper=>o.dst)=some tg/\Nat.blt tg n=true/\L.lookup tg=some (.bool want)
section
variable {n:Nat}{a:Act}{L:List (Tmp × Value)}{w0 w:World}{Bs:List (Nat × Array Value × TypeId)}{Q:Exit->Act->World->Prop}{ops:Array Oper}{rest:List Oper}{t:Tmp}{u v:Value}{ty ty2 ty3:TypeId}{pos:String}{aft:Array Edge}{gd:Option (Nat × Bool)}{x y z:Operand}{g tg:Nat}{want b:Bool}
theorem Fr.ev (h:Fr n a L) (e:Qcr L x=some v):a.eval x=v:=by
 cases x<;>simp only[Qcr,Option.some.injEq,reduceCtorEq] at e
 ·exact h.sl _ _ e
 ·exact e
 ·subst e;rfl
theorem Gok.on {o:Oper}(c:Fr n a L) (h:Gok ops n L o.guard):Region.wanted o (yielded ops a.tmps)=true:=by
 cases hg:o.guard with
 | none=>simp[Region.wanted,hg]
 | some p =>
   obtain⟨g,b⟩:=p
   rw[hg] at h
   obtain⟨i,e,d,f⟩:=h
   rw[Qg3 c hg e d f];simp
theorem St.go {l:List Oper}(b:Fr n a L) (h:St n L ops Q l w):wpList prog ops Q l a w:=h a b
theorem rg {l:List Oper}(b:Fr n a L) (h:∀ ops,St n L ops Q l w):(Code.region id l.toArray false).wp prog Q a w:=Qjx fun ops _=>h ops a b
theorem St.nil (h:∀ a,Fr n a L->Q .normal a w):St n L ops Q [] w:=h
theorem Yb:type_of% @St.nil:=@St.nil
theorem QjE {o:Oper}(f:Gok ops n L o.guard) (c:o.dst=some t) (g:Nat.blt t n=true)
 (h:∀ ev:Operand->Value,(∀ x v,Qcr L x=some v->ev x=v)->(execOp ev o).run prog w=.ok (.value v) w)
 (k:St n ((t,v)::L) ops Q rest w):St n L ops Q (o::rest) w:=fun a b =>
 wpList_step fun K d=>by
  rw[Xs (f.on b)]
  unfold Oper.wp;rw[h a.eval (fun x v e=>b.ev e),Oper.upon_value,c]
  exact d _ _ (k _ (b.put g))
theorem so {op:Op}(f:(ops[g]?).bind (fun o:Oper=>o.dst)=some tg) (c:Nat.blt tg n=true) (i:L.lookup tg=some u) (d:(match u with | .bool b=>b==want | _=>false)=false) (h:Nat.blt t n=true)
 (k:St n ((t,undef)::L) ops Q rest w):St n L ops Q (⟨some t,op,ty,pos,aft,some (g,want)⟩::rest) w:=fun a e =>
 Qms e Z Z f c i d h k
theorem sa (c:Gok ops n L gd) (b:Qcr L x=some (v)) (d:Nat.blt t n=true)
 (k:St n ((t,v)::L) ops Q rest w):St n L ops Q (⟨some t,.assign x,ty,pos,aft,gd⟩::rest) w :=
 QjE c Z d (fun f a=>by have e:=a _ _ b;simp[go_sem,e]) k
theorem sp (d:Gok ops n L gd) (c:Qcr L x=some (.bool true)) (b:Qcr L y=some (v)) (f:Nat.blt t n=true)
 (k:St n ((t,v)::L) ops Q rest w):St n L ops Q (⟨some t,.pick x y z,ty,pos,aft,gd⟩::rest) w :=
 QjE d Z f (fun h a=>by have e:=a _ _ c;have g:=a _ _ b;simp[go_sem,e,g]) k
theorem seq {p q:Int}(d:Gok ops n L gd) (c:Qcr L x=some (Iv p)) (b:Qcr L y=some (Iv q)) (f:Nat.blt t n=true)
 (k:St n ((t,.bool (p==q))::L) ops Q rest w):St n L ops Q (⟨some t,.binOp .eql 3 x y 3,ty,pos,aft,gd⟩::rest) w :=
 QjE d Z f (fun h a=>by have e:=a _ _ c;have g:=a _ _ b;simp[go_sem,e,g]) k
theorem Qli {w:World}{c:Array Value}{t:TypeId}(h:Blk w B c t) (j m:Nat) (hn:Nat.ble (j+m) c.size=true):w.rangeAt B j ((c.toList.drop j).take m):=fun k v a=>by
 have b:k<((c.toList.drop j).take m).length:=(Zi a).1;have d:k<m:=by simp at b;omega
 rw[XR,Xs d,List.getElem?_drop] at a
 exact Qa h (j+k) v (by simpa using a)
theorem Qiv {w:World}{c:Array Value}{t:TypeId}(h:Blk w B c t) (j n:Nat) (hn:j+n<=c.size):w.there B j n:=fun k a =>
 ⟨by rw[Qa h (j+k) c[j+k] (by simp[show j+k<c.size by omega])];rfl,Qe h (j+k)⟩
theorem sT (i:Nat){c:Array Value}{l:TypeId}{b:List Value}(g:Wd w0 w Bs)
 (o:Qcr L x=some (Pv B j)) (m:Qcr L y=some (.agg b.toArray)) (hi:(prog.info? ty2).map (·.size)=some b.length) (q:b.all (·.oneCell')=true)
 (hb:Bs[i]?=some (B,c,l)) (h:Nat.ble (j+b.length) c.size=true)
 (k:∀ w',Wd w0 w' (Bs.set i (B,ZK c j b,l))->St n L ops Q rest w'):St n L ops Q (⟨none,.store ty2 x y,ty,pos,aft,none⟩::rest) w:=fun a d=>by
 have s:j+b.length<=c.size:=by simpa[Nat.ble_eq] using h
 refine QkO d (g.setAt i hb j b h Z Z) Z Z (fun K p=>?_) (fun w' f=>k w' f a d);have e:=d.ev o;have r:=d.ev m
 have:=run_storeAt_mid (P:=prog) w B j ty2 b.toArray (by simpa using Qiv (g.get i hb) j b.length s) (by simpa using hi) (by simpa using q)
 unfold Oper.wp execOp;simp only[e,r,Sem.run_bind,this,Result.andThen_ok,Sem.run_pure]
 rw[Oper.upon_skip];simpa[Act.put] using p
theorem s1 (i:Nat){c:Array Value}{r:TypeId}(hi:(prog.info? ty2).map (·.size)=some 1) (l:Wd w0 w Bs)
 (A:Qcr L x=some (Pv B j)) (t:Qcr L y=some v) (s:v.cells=#[v]) (C:v.oneCell'=true)
 (hb:Bs[i]?=some (B,c,r)) (m:Nat.ble (j+1) c.size=true)
 (k:∀ w',Wd w0 w' (Bs.set i (B,ZK c j [v],r))->St n L ops Q rest w'):St n L ops Q (⟨none,.store ty2 x y,ty,pos,aft,none⟩::rest) w:=fun a b=>by
 have F:j+1<=c.size:=by simpa[Nat.ble_eq] using m
 refine QkO b (l.setAt i hb j [v] m Z Z) Z Z (fun K z=>?_) (fun w' f=>k w' f a b);have e:=b.ev A;have E:=b.ev t;have p:=Qiv (l.get i hb) j 1 F;have o:=run_storeCells_cells (P:=prog) B j [v] 0 w (fun k g=>by simpa using (p k (by simpa using g)).1) (fun k g=>by simpa using (p k (by simpa using g)).2) (fun u h=>by simp at h;subst h;exact C)
 have D:(Instr.storeAt ty2 (Pv B j) v).run prog w=.ok () (w.setCells B j [v]):=by
  cases hq:prog.info? ty2 with
  | none=>simp[hq] at hi
  | some q =>
    have d:q.size=1:=by simpa[hq] using hi
    simp only[Nat.add_zero] at o
    simp[Instr.storeAt,Instr.sureAddr,storeVar,sizeOf,typeInfo,hq,s,d,o]
 unfold Oper.wp execOp;simp only[e,E,Sem.run_bind,D,Result.andThen_ok,Sem.run_pure]
 rw[Oper.upon_skip];simpa[Act.put] using z
def CF (f:FuncId):Prop:=∀ (args:Array Value) (w:World),(callFunc f args).run prog w=.ok (.enter f args) w
end
def Qnd (B:Nat) (w w':World):Prop:=∀ k,k≠B->w'.heap[k]?=w.heap[k]?
theorem Qbk (w:World) (B j:Nat) (a:List Value):Qnd B w (w.setCells B j a):=fun k b=>QD b a j w
theorem XM:type_of% @Nat.one_mul:=@Nat.one_mul
theorem QaW {B:Nat}{t:TypeId}:∀ (vs:List Value) (w:World) (c:Array Value) (j:Nat),Blk w B c t->j+vs.length<=c.size->Blk (w.setCells B j vs) B (ZK c j vs) t
 | [],w,c,j,h,hs=>by
   have:ZK c j []=c:=by unfold ZK;simp
   rw[this];exact h
 | v::vs,w,c,j,h,hs=>by
   have:=QaW vs (w.setCell ⟨B,j,none⟩ v) (c.setIfInBounds j v) (j+1) (Qh h j v) (by simp at hs |-;omega)
   rw[Qck _ _ _ _ hs] at this
   exact this
theorem QB {B b:Nat}(hb:B<=b):∀ (vs:List Value) (w w0:World) (j:Nat),Below B w0 w->Below B w0 (w.setCells b j vs)
 | [],w,w0,j,h=>h
 | v::vs,w,w0,j,h=>QB hb vs _ _ _ (h.setCell hb v)
theorem Qdn (w:World) (b j:Nat) (c:List Value):w.grownBy (w.setCells b j c) (some b):=by
 have h:=QB (Xb b) c w w j (Below.refl 0 w);exact⟨h.os,h.tape,h.output,h.size,fun k d a=>QD (fun e=>a (by rw[e])) c j w⟩
section
variable {α:Type}{A:Lay α}{e:TypeId}{w:World}{lo g n:Nat}{l:List α}{xs:List Value}
theorem Qac.fill (h:Qac A e w lo (.slice (some ⟨g,0,none⟩) l.length n) l xs){x:α}(j:A.In w (fun k=>lo<=k/\k≠g) x ds) (m:l.length<n) :
 Qac A e (w.setCells g (l.length*A.size) ds) lo (.slice (some ⟨g,0,none⟩) (l.length+1) n) (l++[x]) (xs++ds):=by
 have c:=A.len j;refine Qac.push h (Yc j (fun k q _=>⟨q.1,fun e=>q.2 (by simpa[Value.ownBlock] using e.symm)⟩)) (Qdn w g _ ds) (.inl Z) ?_;obtain⟨o,t⟩:=h.own
 rcases t with ⟨d,_⟩|⟨y,p,b,d,v,s,u,i,f,a⟩
 ·simp at d
 ·simp only[Value.slice.injEq,Option.some.injEq,Addr.mk.injEq,and_true,true_and] at d
  obtain⟨rfl,rfl⟩:=d
  have r:(l.length+1)*A.size<=n*A.size:=Xp _ m;rw[Nat.add_mul,XM] at r
  refine⟨by rw[List.length_append,o,c,Nat.add_mul,XM],.inr ⟨g,n,ZK b (l.length*A.size) ds,Z,v,QaW ds w b _ s (by omega),m,i,?_,?_⟩⟩
  ·rw[<-f];unfold ZK;simp;omega
  ·unfold ZK;rw[a,Nat.add_mul,XM]
   rw[show l.length*A.size+A.size=(xs++ds).length by rw[List.length_append,o,c],List.toList_toArray,<-List.append_assoc]
   exact List.take_left' Z
end
section
variable {P:Program}{Q:Exit->Act->World->Prop}
def Qad (l:List Oper) (S:Nat->Bool):Prop:=∀ (j:Nat) (o:Oper),l[j]?=some o->S j=true->∀ e∈o.after,Region.binds .any e=true->S e.on=true
def QkH (o:Oper) (S:Nat->Bool):Prop:=∀ e∈o.after,Region.binds .any e=true->S e.on=true
theorem QkH.at {o:Oper}{S:Nat->Bool}(h:QkH o S) (j:Nat) (a:QgI o j=true):S j=true:=by
 obtain⟨e,b,c,rfl⟩:=Qh3 a
 exact h e b c
def ZE (i:Nat) (S:Nat->Bool):Nat->Bool:=fun j=>j==i||S j
end
structure DI (n:Nat) (a0:Act) (w00:World) (ds:List Tmp) (Ti:List (Nat × Tmp)) (Ai:List (Nat × Tmp × Nat × TypeId)) (Oi:List (Nat × Tmp × Nat × TypeId)) (M:List (Tmp × Value)) (C:List (Tmp × List Value)) (S:Nat->Bool) (a:Act) (w:World):Prop where
 size:a.tmps.size=n
 defers:a.defers=[]
 outer:∀ t,ds.contains t=false->a.tmps.getD t undef=a0.tmps.getD t undef
 bel:Below w00.heap.size w00 w
 vals:∀ x∈Ti,S x.1=true->∀ v,M.lookup x.2=some v->a.tmps.getD x.2 undef=v
 new:∀ x∈Ai,S x.1=true->∃ B,a.tmps.getD x.2.1 undef=Pv B 0/\w00.heap.size<=B/\∃ c,Blk w B c x.2.2.2/\c.size=x.2.2.1
 ne:∀ x∈Ai,∀ y∈Ai,x.2.1≠y.2.1->S x.1=true->S y.1=true->a.tmps.getD x.2.1 undef≠a.tmps.getD y.2.1 undef
 did:∀ x∈Oi,S x.1=true->∀ c,C.lookup x.2.1=some c->∃ B,a.tmps.getD x.2.1 undef=Pv B 0/\Blk w B c.toArray x.2.2.2
def diB (l:List Oper) (n:Nat) (Ti:List (Nat × Tmp)) (Ai Oi:List (Nat × Tmp × Nat × TypeId)):Bool :=
 (nodupB (Ti.map (·.1))&&nodupB (Ai.map (·.1))&&nodupB (Oi.map (·.1)))&&(nodupB (Ti.map (·.2)++Ai.map (·.2.1))&&nodupB (Oi.map (·.2.1))&&((Ti.map (·.2)++Ai.map (·.2.1)).all fun t=>decide (t<n)&&(Qn l).contains t) &&
 (Oi.all fun x=>Ai.any fun y=>y.2.1==x.2.1&&y.2.2.1==x.2.2.1&&y.2.2.2==x.2.2.2&&(match l[x.1]? with | some o=>QgI o y.1 | none=>false)))
theorem Qce {a l2:List Tmp}:∀ {t:Tmp},nodupB (a++l2)=true->t∈a->t∈l2->False:=by
 induction a with
 | nil=>intro t _ h;cases h
 | cons x r ih =>
   intro t h b c;simp only[List.cons_append,nodupB,Bool.and_eq_true,Bool.not_eq_true'] at h
   rcases List.mem_cons.1 b with rfl | b
   ·have:=h.1
    simp at this
    exact this.2 c
   ·exact ih h.2 b c
theorem ZQ {α:Type}{f:α->Tmp}:∀ {l:List α},nodupB (l.map f)=true->∀ x∈l,∀ y∈l,f x=f y->x=y
 | [],_,_,h,_,_,_=>by cases h
 | z::r,h,x,hx,y,hy,e=>by
   simp only[List.map_cons,nodupB,Bool.and_eq_true,Bool.not_eq_true'] at h
   have c:∀ u∈r,f u≠f z:=fun u d e=>by
    have:=h.1
    simp at this
    exact this u d e
   rcases List.mem_cons.1 hx with b | b
   ·rcases List.mem_cons.1 hy with a | a
    ·rw[b,a]
    ·exact absurd e.symm (b ▸ c y a)
   ·rcases List.mem_cons.1 hy with a | a
    ·exact absurd e (a ▸ c x b)
    ·exact ZQ h.2 x b y a e
theorem Qfd {a l2:List Tmp}(h:nodupB (a++l2)=true):nodupB l2=true:=by
 induction a with
 | nil=>exact h
 | cons x r ih =>
   simp only[List.cons_append,nodupB,Bool.and_eq_true,Bool.not_eq_true'] at h
   exact ih h.2
section
variable {n i:Nat}{a0 a:Act}{w00 w w':World}{l:List Oper}{Ti:List (Nat × Tmp)}{Ai Oi:List (Nat × Tmp × Nat × TypeId)}{M:List (Tmp × Value)}{C:List (Tmp × List Value)}{S:Nat->Bool}{t:Tmp}{v:Value}{s:Nat}{ty:TypeId}
theorem Zk {u:Tmp}(h:t<a.tmps.size):(a.put (some t) v).tmps.getD u undef=if u=t then v else a.tmps.getD u undef:=by
 by_cases e:u=t
 ·subst e;simp[Act.put,Array.getD,h]
 ·rw[Xr e]
  have b:t≠u:=fun x=>e x.symm;rw[Za,Za]
  simp only[Act.put]
  rw[Array.getElem?_setIfInBounds_ne b]
theorem Zb (a:j≠i) (h:ZE i S j=true):S j=true:=by
 have:(j==i)=false:=by simpa using a
 unfold ZE at h;rwa [this,Bool.false_or] at h
theorem DI.pure (N:diB l n Ti Ai Oi=true) (j:DI n a0 w00 (Qn l) Ti Ai Oi M C S a w) (hi:(i,t)∈Ti) (R:M.lookup t=some v) (X:S i=false) (hb:Below w.heap.size w w')
 (H:(Ai.all fun x=>x.1 != i)=true) (D:(Oi.all fun x=>x.1 != i)=true):DI n a0 w00 (Qn l) Ti Ai Oi M C (ZE i S) (a.put (some t) v) w':=by
 simp only[diB,Bool.and_eq_true] at N
 obtain⟨s,⟨⟨L,O⟩,p⟩,W⟩:=N
 have r:t∈Ti.map (·.2):=List.mem_map.2 ⟨(i,t),hi,Z⟩;have z:=Xe.1 p t (List.mem_append_left _ r);simp only[Bool.and_eq_true,decide_eq_true_eq] at z
 have g:t<a.tmps.size:=by rw[j.size];exact z.1
 have d:∀ x∈Ai,x.2.1≠t:=fun x b e=>Qce L r (e ▸ List.mem_map.2 ⟨x,b,Z⟩)
 have q:∀ x∈Oi,x.2.1≠t:=fun x b e=>by
  obtain⟨y,m,P⟩:=List.any_eq_true.1 (Xe.1 W x b)
  simp only[Bool.and_eq_true,beq_iff_eq] at P
  exact d y m (P.1.1.1.trans e)
 have I:∀ x∈Ai,ZE i S x.1=true->S x.1=true:=fun x b h=>Zb (by have:=Xe.1 H x b;simpa using this) h;have A:∀ x∈Oi,ZE i S x.1=true->S x.1=true:=fun x b h=>Zb (by have:=Xe.1 D x b;simpa using this) h;refine⟨by rw[<-j.size];simp[Act.put],j.defers,fun u k=>?_,Xl j.bel hb,fun x b o u k=>?_,fun x b o=>?_,fun x b y m K E G=>?_,fun x b o c T=>?_⟩
 ·have:u≠t:=fun e=>by subst e;rw[z.2] at k;cases k
  rw[Zk g,Xr this];exact j.outer u k
 ·rw[Zk g]
  by_cases e:x.2=t
  ·rw[Xs e];rw[e,R] at k;exact Xn k
  ·rw[Xr e]
   refine j.vals x b (Zb (fun Q=>e ?_) o) u k;exact congrArg (·.2) (ZQ (f:=fun x:Nat × Tmp=>x.1) s.1.1 x b (i,t) hi Q)
 ·obtain⟨B,J,F,c,V,U⟩:=j.new x b (I x b o)
  exact⟨B,by rw[Zk g,Xr (d x b)];exact J,F,c,V.below hb,U⟩
 ·rw[Zk g,Xr (d x b),Zk g,Xr (d y m)]
  exact j.ne x b y m K (I x b E) (I y m G)
 ·obtain⟨B,J,F⟩:=j.did x b (A x b o) c T
  exact⟨B,by rw[Zk g,Xr (q x b)];exact J,F.below hb⟩
theorem DI.alloc (hB:diB l n Ti Ai Oi=true) (g:DI n a0 w00 (Qn l) Ti Ai Oi M C S a w) (hi:(i,t,s,ty)∈Ai){c:Array Value}(hc:c.size=s) (hS:S i=false) (W:Qad l S)
 (R:(Ti.all fun x=>x.1 != i)=true) (U:(Oi.all fun x=>x.1 != i)=true):DI n a0 w00 (Qn l) Ti Ai Oi M C (ZE i S) (a.put (some t) (Pv w.heap.size 0)) (w.alloc (.cells c ty)):=by
 simp only[diB,Bool.and_eq_true] at hB
 obtain⟨P,⟨⟨K,ab⟩,z⟩,hO⟩:=hB
 have V:Below w.heap.size w (w.alloc (.cells c ty)):=ZO w _;have J:t∈Ai.map (·.2.1):=List.mem_map.2 ⟨(i,t,s,ty),hi,Z⟩;have Q:=Xe.1 z t (List.mem_append_right _ J);simp only[Bool.and_eq_true,decide_eq_true_eq] at Q
 have d:t<a.tmps.size:=by rw[g.size];exact Q.1
 have H:∀ x∈Ti,x.2≠t:=fun x b e=>Qce K (e ▸ List.mem_map.2 ⟨x,b,Z⟩) J;have L:∀ x∈Ai,x.2.1=t->x=(i,t,s,ty):=fun x b e=>ZQ (f:=fun x:Nat × Tmp × Nat × TypeId=>x.2.1) (Qfd K) x b _ hi e;have j:∀ x∈Ai,x.2.1≠t->ZE i S x.1=true->S x.1=true:=fun x b m h=>Zb (fun e=>m (congrArg (·.2.1) (ZQ (f:=fun x:Nat × Tmp × Nat × TypeId=>x.1) P.1.2 x b _ hi e))) h;refine⟨by rw[<-g.size];simp[Act.put],g.defers,fun u E=>?_,Xl g.bel V,fun x b k u E=>?_,fun x b k=>?_,fun x b y v I D F=>?_,fun x b k N T=>?_⟩
 ·have:u≠t:=fun e=>by subst e;rw[Q.2] at E;cases E
  rw[Zk d,Xr this];exact g.outer u E
 ·rw[Zk d,Xr (H x b)]
  exact g.vals x b (Zb (by have:=Xe.1 R x b;simpa using this) k) u E
 ·by_cases e:x.2.1=t
  ·rw[L x b e]
   exact⟨w.heap.size,by rw[Zk d,Xs Z],g.bel.size,c,Blk.new w c ty,hc⟩
  ·obtain⟨B,G,O,N,X,h4⟩:=g.new x b (j x b e k)
   exact⟨B,by rw[Zk d,Xr e];exact G,O,N,X.below V,h4⟩
 ·have lt:∀ x∈Ai,x.2.1≠t->ZE i S x.1=true->a.tmps.getD x.2.1 undef≠Pv w.heap.size 0:=fun x b e k h=>by
   obtain⟨B,G,O,N,X,h4⟩:=g.new x b (j x b e k)
   rw[G] at h
   simp at h
   have:=X.lt
   omega
  by_cases r:x.2.1=t
  ·by_cases p:y.2.1=t
   ·exact absurd (r.trans p.symm) I
   ·rw[Zk d,Xs r,Zk d,Xr p]
    exact fun h=>lt y v p F h.symm
  ·by_cases p:y.2.1=t
   ·rw[Zk d,Xr r,Zk d,Xs p]
    exact lt x b r D
   ·rw[Zk d,Xr r,Zk d,Xr p]
    exact g.ne x b y v I (j x b r D) (j y v p F)
 ·have A:S x.1=true:=Zb (by have:=Xe.1 U x b;simpa using this) k
  have m:x.2.1≠t:=fun e=>by
   obtain⟨y,v,q⟩:=List.any_eq_true.1 (Xe.1 hO x b)
   simp only[Bool.and_eq_true,beq_iff_eq] at q
   have aa:=L y v (q.1.1.1.trans e)
   cases ho:l[x.1]? with
   | none=>rw[ho] at q;simp at q
   | some o =>
     rw[ho] at q
     have:=QkH.at (W x.1 o ho A) y.1 q.2
     rw[aa] at this
     simp only at this
     rw[hS] at this
     cases this
  obtain⟨B,G,O⟩:=g.did x b A N T
  exact⟨B,by rw[Zk d,Xr m];exact G,O.below V⟩
theorem DI.box (b:DI n a0 w00 (Qn l) Ti Ai Oi M C S a w) (hi:(i,t,s,ty)∈Ai) (d:S i=true):∃ B,a.tmps.getD t undef=Pv B 0/\w00.heap.size<=B/\∃ c,Blk w B c ty/\c.size=s:=b.new _ hi d
theorem QlZ {w:World}{c:Array Value}{a:TypeId}(h:Blk w B c a) (d:c.size=cs.length):Blk (w.setCells B 0 cs) B cs.toArray a:=by
 have:=QaW cs w c 0 h (by omega)
 have e:ZK c 0 cs=cs.toArray:=by
  unfold ZK;have b:c.toList.drop (0+cs.length)=[]:=List.drop_of_length_le (by simp[d]);rw[b];simp
 rwa [e] at this
theorem DI.store (X:diB l n Ti Ai Oi=true) (g:DI n a0 w00 (Qn l) Ti Ai Oi M C S a w) (hi:(i,t,s,ty)∈Oi){c:Array Value}(hj:(j,t,s,ty)∈Ai) (T:S j=true) (hv:a.tmps.getD t undef=Pv B 0) (z:Blk w B c ty) (aa:c.size=s) (O:w00.heap.size<=B) (hC:C.lookup t=some cs) (ac:cs.length=s) (hS:S i=false) (N:Qad l S)
 (H:(Ti.all fun x=>x.1 != i)=true) (Q:(Ai.all fun x=>x.1 != i)=true):DI n a0 w00 (Qn l) Ti Ai Oi M C (ZE i S) a (w.setCells B 0 cs):=by
 simp only[diB,Bool.and_eq_true] at X
 obtain⟨G,⟨⟨ab,v⟩,W⟩,hO⟩:=X
 have hk:=Qbk w B 0 cs;have k:=QlZ (cs:=cs) z (by omega);have R:∀ x∈Ai,ZE i S x.1=true->S x.1=true:=fun x b h=>Zb (by have:=Xe.1 Q x b;simpa using this) h;refine⟨g.size,g.defers,g.outer,QB O cs w w00 0 g.bel,fun x b q u hu=>?_,fun x b q=>?_,fun x b y D U K P=>g.ne x b y D U (R x b K) (R y D P),fun x b q E d=>?_⟩
 ·exact g.vals x b (Zb (by have:=Xe.1 H x b;simpa using this) q) u hu
 ·obtain⟨m,A,F,E,h3,h4⟩:=g.new x b (R x b q)
  by_cases e:m=B
  ·subst e
   have:some (Obj.cells E x.2.2.2 (0,0))=some (Obj.cells c ty (0,0)):=by rw[<-h3,<-z]
   simp at this
   obtain⟨rfl,J⟩:=this
   exact⟨m,A,F,_,by rw[J];exact k,by simp;omega⟩
  ·exact⟨m,A,F,E,(hk m e).trans h3,h4⟩
 ·by_cases e:x.2.1=t
  ·have L:=ZQ (f:=fun x:Nat × Tmp × Nat × TypeId=>x.2.1) v x b _ hi e;subst L;simp only at d |-
   rw[hC] at d
   cases d
   exact⟨B,hv,k⟩
  ·have r:S x.1=true:=Zb (fun V=>e (congrArg (·.2.1) (ZQ (f:=fun x:Nat × Tmp × Nat × TypeId=>x.1) G.2 x b _ hi V))) q;obtain⟨m,A,F⟩:=g.did x b r E d
   have I:m≠B:=fun V=>by
    obtain⟨y,D,p⟩:=List.any_eq_true.1 (Xe.1 hO x b)
    simp only[Bool.and_eq_true,beq_iff_eq] at p
    cases ho:l[x.1]? with
    | none=>rw[ho] at p;simp at p
    | some o =>
      rw[ho] at p
      exact g.ne y D _ hj (by rw[p.1.1.1];exact e) (QkH.at (N x.1 o ho r) y.1 p.2) T (by rw[p.1.1.1,A,V];exact hv.symm)
   exact⟨m,A,(hk m I).trans F⟩
theorem DI.full (f:DI n a0 w00 (Qn l) Ti Ai Oi M C S a w){i:Nat}(g:(j,t,s,ty)∈Ai) (e:S j=true) (hi:(i,t,s,ty)∈Oi) (c:S i=true) (m:C.lookup t=some cs) :
 ∃ B,a.tmps.getD t undef=Pv B 0/\w00.heap.size<=B/\Blk w B cs.toArray ty:=by
 obtain⟨B,d,h⟩:=f.did _ hi c cs m
 obtain⟨o,b,k,_⟩:=f.new _ g e
 simp only at d b
 rw[d] at b
 simp at b
 subst b;exact⟨B,d,k,h⟩
end
section
variable (E:Tmp->Value->World->Prop) (W:(Nat->Bool)->World->Prop) (R:World->World->Prop) (P:Program) (l:List Oper)
def Qah (ops:Array Oper):List (Nat × Option Bool)->Prop
 | []=>True
 | (g,c)::r=>(∀ t,(ops[g]?).bind (·.dst)=some t->∀ v w,E t v w->match c with | some b=>v=.bool b | none=>v=undef)/\Qah ops r
end
section
variable {P:Program}{E:Tmp->Value->World->Prop}{W:(Nat->Bool)->World->Prop}{R:World->World->Prop}
theorem Qd4 {a:Array Oper}:∀ (gs:List (Nat × Option Bool)),Qah E a gs->∀ g c,gs.lookup g=some c->∀ t,(a[g]?).bind (·.dst)=some t->∀ v w,E t v w->match c with | some b=>v=.bool b | none=>v=undef
 | [],_,_,_,h=>by simp at h
 | (g',c')::r,h,g,c,hl=>by
   by_cases e:g=g'
   ·subst e;simp at hl;subst hl;exact h.1
   ·have d:(g==g')=false:=by simpa using e
    simp[List.lookup_cons,d] at hl;exact Qd4 r h.2 g c hl
end
def Qnw (l:List Oper) (S:Nat->Bool) (t:Tmp):Prop:=t∈Qn l->∃ j o,l[j]?=some o/\o.dst=some t/\S j=true
def PEx (PX:List PanicEntry->World->Prop):Exit->Act->World->Prop:=fun e _ w=>∃ ch,e=.panic ch/\PX ch w
theorem Qop {o:Oper}{a:Act}{K f:Act->World->Prop}{PX:List PanicEntry->World->Prop}{Q:Exit->Act->World->Prop}(h:∀ a w,K a w->f a w) (d:∀ e w,PEx PX e a w->Q e a w)
 (b:o.wp P a w K (PEx PX)):o.wp P a w f Q:=by
 unfold Oper.wp at *;generalize (execOp a.eval o).run P w=r at *
 cases r with
 | ok n w' =>
   cases n<;>simp only[Oper.upon] at b |- <;>
    first
     | exact h _ _ b
     | exact d _ _ b
     | exact Xm b (fun e g c=>by cases e<;>first | exact h _ _ c | exact d _ _ c | (obtain⟨x,y,i,c,_⟩:=c;cases c))
     | exact Rows.mono b (fun _ _ c=>h _ _ c)
 | halt x w'=>cases x<;>simp only[Oper.upon] at b |-<;>first | exact d _ _ b | exact b
section
variable (E:(Nat->Bool)->Tmp->Value->World->Prop) (W:(Nat->Bool)->World->Prop) (PX:List PanicEntry->World->Prop) (P:Program) (l:List Oper)
def Qiu (i:Nat) (o:Oper):Prop :=
 ∀ (S:Nat->Bool) a w,S i=false->QkH o S->Qad l S->W S w->Qed (E S) a w (Qc3 o)->∀ K:Act->World->Prop,(∀ v w',(∀ t,Qnw l S t->E S t (a.tmps.getD t undef) w->E (ZE i S) t (a.tmps.getD t undef) w')->W (ZE i S) w'->EO (E (ZE i S)) o.dst v w'->K (a.put o.dst v) w')->o.wp P a w K (PEx PX)
def QgM (i:Nat) (o:Oper):Prop:=∀ (S:Nat->Bool) (a:Act) w,S i=false->QkH o S->Qad l S->W S w->(W (ZE i S) w/\EO (E (ZE i S)) o.dst undef w/\∀ t,Qnw l S t->E S t (a.tmps.getD t undef) w->E (ZE i S) t (a.tmps.getD t undef) w)
structure Qk4 (outs:List Tmp) (a0:Act) (listed:Array Bool) (a:Act) (w:World):Prop where
 world:W (fun j=>listed.getD j false) w
 closed:Qad l (fun j=>listed.getD j false)
 defers:a.defers=a0.defers
 size:a.tmps.size=a0.tmps.size
 outer:∀ t,t ∉ Qn l->a.tmps[t]?=a0.tmps[t]?
 outs:∀ t∈outs,t ∉ Qn l->E (fun j=>listed.getD j false) t (a.tmps.getD t undef) w
 known:∀ j o t,l[j]?=some o->o.dst=some t->listed.getD j false=true->E (fun j=>listed.getD j false) t (a.tmps.getD t undef) w
def AllOkY:Nat->List Oper->List Bool->Prop
 | i,o::r,true::bs=>Qiu E W PX P l i o/\AllOkY (i+1) r bs
 | i,o::r,false::bs=>QgM E W l i o/\AllOkY (i+1) r bs
 | _,_,_=>True
end
section
variable {P:Program}{E:(Nat->Bool)->Tmp->Value->World->Prop}{W:(Nat->Bool)->World->Prop}{PX:List PanicEntry->World->Prop}
theorem Qgd {a:List Oper}(gs:List (Nat × Option Bool)):∀ (l:List Oper) (k:Nat) (bs:List Bool),Qip gs l bs=true->AllOkY E W PX P a k l bs->∀ (i:Nat) (o:Oper),l[i]?=some o->(onB gs o true=true/\Qiu E W PX P a (k+i) o)\/(onB gs o false=true/\QgM E W a (k+i) o)
 | [],_,_,_,_,_,_,h=>by simp at h
 | _::_,_,[],h,_,_,_,_=>by simp[Qip] at h
 | x::l,k,b::bs,h,ha,i,o,ho=>by
   simp only[Qip,Bool.and_eq_true] at h
   cases i with
   | zero =>
     simp at ho;subst ho
     cases b with
     | true=>exact .inl ⟨h.1,ha.1⟩
     | false=>exact .inr ⟨h.1,ha.1⟩
   | succ i =>
     simp at ho
     have e:k+(i+1)=k+1+i:=by omega
     rw[e]
     cases b with
     | true=>exact Qgd gs l (k+1) bs h.2 ha.2 i o ho
     | false=>exact Qgd gs l (k+1) bs h.2 ha.2 i o ho
theorem Qda {l:List Oper}{outs:List Tmp}{gs:List (Nat × Option Bool)}{a0:Act}{Q:Exit->Act->World->Prop}
 (hX:∀ ch a w,a.defers=a0.defers->PX ch w->Q (.panic ch) a w) (hB:QaS l a0.tmps.size outs gs bs=true) (hG:∀ S,Qah (E S) l.toArray gs) (hA:AllOkY E W PX P l 0 l bs)
 (af:∀ (vs:Tmp->Value) (S:Nat->Bool) w',(∀ j,j<l.length->S j=true)->W S w'->(∀ t,(Qn l).contains t=true->E S t (vs t) w')->Q .normal (QI a0 vs (Qn l)) w') :
 ∀ (fuel:Nat) (listed:Array Bool) (a:Act) (w:World),listed.size=l.length->(listed.toList.filter (·==false)).length<=fuel->Qk4 E W l outs a0 listed a w ->
  wpAny P .any l.toArray Q fuel listed a w:=by
 simp only[QaS,Bool.and_eq_true] at hB
 obtain⟨⟨⟨⟨⟨aq,aw⟩,V⟩,ar⟩,ap⟩,ay⟩:=hB
 have aj:∀ (listed:Array Bool) (a:Act) (w:World),listed.size=l.length->Region.ready .any l.toArray listed=[]->Qk4 E W l outs a0 listed a w->Q .normal a w:=by
  intro listed a w hs R f
  have O:∀ j,j<l.length->listed.getD j false=true:=by
   intro j
   induction j using Nat.strongRecOn with
   | _ j ih =>
     intro s
     cases q:listed.getD j false with
     | true=>rfl
     | false =>
       exfalso
       have:j∈Region.ready .any l.toArray listed:=by
        unfold Region.ready;refine List.mem_filter.2 ⟨by simpa using s,?_⟩
        have e1:listed.getD j true=false:=by
         have an:j<listed.size:=by omega
         simp[Array.getD,an] at q |-;exact q
        have e2:l.toArray[j]?=some l[j]:=by simp[s]
        rw[e1,e2]
        simp only[Bool.not_false,Bool.true_and,Option.map_some,Option.getD_some]
        rw[Array.all_eq_true_iff_forall_mem]
        intro e H
        cases I:Region.binds .any e with
        | false=>rfl
        | true =>
          have:=back_at l 0 j l[j] ay (by simp[s]) e H I
          simp only[Bool.not_true,Bool.false_or]
          exact ih e.on (by omega) (by omega)
       rw[R] at this
       cases this
  have ai:∀ t∈Qn l,E (fun j=>listed.getD j false) t (a.tmps.getD t undef) w/\t<a0.tmps.size:=by
   intro t r;obtain⟨o,ho,y⟩:=List.mem_filterMap.1 r
   obtain⟨j,s⟩:=List.getElem?_of_mem ho
   have C:j<l.length:=by
    rcases Nat.lt_or_ge j l.length with h | h
    ·exact h
    ·rw[Xk h] at s;cases s
   exact⟨f.known j o t s y (O j C),by simpa using Xe.1 V t r⟩
  have H:a=QI a0 (fun t=>a.tmps.getD t undef) (Qn l):=by
   have e1:a.tmps=(QI a0 (fun t=>a.tmps.getD t undef) (Qn l)).tmps:=by
    refine Array.ext (by rw[Qbt,f.size]) fun t h1 h2=>?_;have h3:t<a0.tmps.size:=by rw[<-f.size];exact h1
    have:=Qeg (fun t=>a.tmps.getD t undef) (Qn l) a0 t h3
    rw[Xj h2] at this
    by_cases hm:t∈Qn l
    ·rw[Xs hm] at this
     simp only[Option.some.injEq] at this
     rw[this];simp[Array.getD,h1]
    ·rw[Xr hm,<-f.outer t hm,Xj h1] at this
     exact(Xn this).symm
   have e2:a.defers=(QI a0 (fun t=>a.tmps.getD t undef) (Qn l)).defers:=by rw[Qaz,f.defers]
   cases a with
   | mk t d =>
     simp only at e1 e2
     generalize hp:QI a0 (fun x=>t.getD x undef) (Qn l)=p at e1 e2 |-
     cases p;simp only at e1 e2;rw[e1,e2]
  rw[H]
  exact af _ _ _ O f.world fun t r=>(ai t (by simpa using r)).1
 intro fuel
 induction fuel with
 | zero =>
   intro listed a w hs hf f
   have R:Region.ready .any l.toArray listed=[]:=by
    rw[List.eq_nil_iff_forall_not_mem]
    intro i hi;obtain⟨h1,h2⟩:=List.mem_filter.1 hi
    have C:i<l.length:=by simpa using h1
    simp only[Bool.and_eq_true,Bool.not_eq_true'] at h2
    have:listed[i]'(by omega)=false:=by
     have:=h2.1;simp[Array.getD,show i<listed.size by omega] at this;exact this
    have hm:false∈listed.toList.filter (·==false):=List.mem_filter.2 ⟨by rw[<-this];simp,by simp⟩
    have:=List.length_pos_of_mem hm
    omega
   exact⟨R,aj listed a w hs R f⟩
 | succ fuel ih =>
   intro listed a w hs hf f;refine⟨fun R=>aj listed a w hs R f,fun i hi=>?_⟩
   obtain⟨h1,h2⟩:=List.mem_filter.1 hi
   have C:i<l.length:=by simpa using h1
   simp only[Bool.and_eq_true,Bool.not_eq_true'] at h2
   obtain⟨ae,m⟩:=h2
   have K:i<listed.size:=by omega
   have M:listed[i]=false:=by simp[Array.getD,K] at ae;exact ae
   have ho:l.toArray[i]?=some l[i]:=by simp[C]
   have n:l[i]?=some l[i]:=by simp[C]
   generalize a1:l[i]=o at ho n;rw[ho] at m
   simp only[Option.map_some,Option.getD_some] at m
   rw[Array.all_eq_true_iff_forall_mem] at m
   have z:∀ t∈o.looksAt l.toArray,E (fun j=>listed.getD j false) t (a.tmps.getD t undef) w:=by
    intro t r
    have:=Xe.1 (Xe.1 ar o (Zm n)) t r
    rw[Bool.or_eq_true] at this
    rcases this with h | h
    ·simp only[Bool.and_eq_true,Bool.not_eq_true'] at h
     exact f.outs t (by simpa using h.1) (by simpa using h.2)
    ·obtain⟨k,hk,h⟩:=Array.any_eq_true.1 h
     simp only[Bool.and_eq_true,beq_iff_eq] at h
     obtain⟨q,y⟩:=h
     have L:=m _ (Array.getElem_mem hk);rw[q] at L
     simp only[Bool.not_true,Bool.false_or] at L
     generalize o.after[k]=e at *;obtain⟨U,au,am⟩:=Option.bind_eq_some_iff.1 y
     exact f.known e.on U t (by simpa using au) am L
   have ax:Qed (E (fun j=>listed.getD j false)) a w (Qc3 o):=Qey _ fun t r=>z t (by
    unfold Oper.looksAt;exact List.mem_append_left _ r)
   have hw:∀ b,onB gs o b=true->Region.wanted o (yielded l.toArray a.tmps)=b:=by
    intro b q;unfold onB at q;unfold Region.wanted
    cases hg:o.guard with
    | none=>rw[hg] at q;simp only at q |-;exact q.symm
    | some gw =>
      obtain⟨g,az⟩:=gw
      rw[hg] at q
      simp only at q |-
      cases L:gs.lookup g with
      | none=>rw[L] at q;cases q
      | some c =>
        rw[L] at q
        simp only[beq_iff_eq] at q
        have hy:yielded l.toArray a.tmps g=c:=by
         unfold yielded;have al:(g,c)∈gs:=mem_of_lookup gs g c L;have D:=Xe.1 aq _ al
         cases y:(l.toArray[g]?).bind (·.dst) with
         | none=>rw[y] at D;cases D
         | some t =>
           have hE:=z t (by unfold Oper.looksAt;rw[hg];simp only[y];simp);have J:=Qd4 gs (hG _) g c L t y _ _ hE;obtain⟨og,av,ao⟩:=Option.bind_eq_some_iff.1 y
           have aa:t<a.tmps.size:=by
            rw[f.size]
            have:=Xe.1 V t (List.mem_filterMap.2 ⟨og,Zm (by simpa using av),ao⟩)
            simpa using this
           have r:a.tmps[t]?=some (a.tmps.getD t undef):=by simp[Array.getD,aa]
           simp only[Option.bind_some,r]
           cases c with
           | none=>simp only at J;rw[J];rfl
           | some b=>simp only at J;rw[J]
        rw[hy,q]
   have T:((listed.setIfInBounds i true).toList.filter (·==false)).length<=fuel:=by
    have h3:=filter_set listed.toList i (by simpa using K) (by simpa using M);rw[Array.toList_setIfInBounds]
    omega
   have u:(fun j=>(listed.setIfInBounds i true).getD j false)=ZE i (fun j=>listed.getD j false):=by
    funext j
    unfold ZE;by_cases e:j=i
    ·subst e;simp[Array.getD,K]
    ·have ac:i≠j:=fun x=>e x.symm;rw[Za,Array.getElem?_setIfInBounds_ne ac,<-Za]
     simp[e]
   have G:QkH o (fun j=>listed.getD j false):=fun e H q=>by
    have:=m e H
    rw[q] at this
    simpa using this
   have ad:(fun j=>listed.getD j false) i=false:=by simp[Array.getD,K,M]
   have N:∀ v w',W (ZE i (fun j=>listed.getD j false)) w'->(∀ t,Qnw l (fun j=>listed.getD j false) t->E (fun j=>listed.getD j false) t (a.tmps.getD t undef) w->E (ZE i (fun j=>listed.getD j false)) t (a.tmps.getD t undef) w')->EO (E (ZE i (fun j=>listed.getD j false))) o.dst v w'->Qk4 E W l outs a0 (listed.setIfInBounds i true) (a.put o.dst v) w':=by
    intro v w' ab A J
    have B:∀ t,o.dst≠some t->(a.put o.dst v).tmps[t]?=a.tmps[t]?:=by
     intro t r
     cases y:o.dst with
     | none=>rfl
     | some d =>
       have:d≠t:=fun e=>r (by rw[y,e])
       simp[Act.put,this]
    have F:∀ (b c:Array Value) (t:Nat),b[t]?=c[t]?->b.getD t undef=c.getD t undef:=by
     intro b c t h;rw[Za,Za,h]
    refine⟨by rw[u];exact ab,?_,?_,?_,?_,?_,?_⟩
    ·rw[u]
     intro j U s hS e H I;unfold ZE at hS |-;by_cases e':j=i
     ·subst e';rw[n] at s
      obtain rfl:=Xn s
      have:=G e H I
      simp only at this
      simp[this]
     ·have:(j==i)=false:=by simpa using e'
      rw[this,Bool.false_or] at hS
      have:=f.closed j U s hS e H I
      simp only at this
      simp[this]
    ·rw[<-f.defers];cases o.dst<;>rfl
    ·rw[<-f.size];cases o.dst<;>simp[Act.put]
    ·intro t r;rw[B t (fun e=>r (List.mem_filterMap.2 ⟨o,Zm n,e⟩)),f.outer t r]
    ·intro t r hn;rw[F _ _ t (B t (fun e=>hn (List.mem_filterMap.2 ⟨o,Zm n,e⟩)))]
     rw[u]
     exact A _ (fun h=>absurd h hn) (f.outs t r hn)
    ·intro j U t s y ak;by_cases X:j=i
     ·subst X;rw[n] at s
      obtain rfl:=Xn s
      have aa:t<a.tmps.size:=by
       rw[f.size]
       have:=Xe.1 V t (List.mem_filterMap.2 ⟨o,Zm n,y⟩)
       simpa using this
      rw[y] at J |-
      have:(a.put (some t) v).tmps.getD t undef=v:=by simp[Act.put,Array.getD,aa]
      rw[this,u];exact J
     ·have ac:o.dst≠some t:=fun e=>X (nodup_apart l j i U o t aw s n y e);rw[F _ _ t (B t ac)]
      have ah:i≠j:=fun e=>X e.symm
      have ag:listed.getD j false=true:=by
       rw[Za,Array.getElem?_setIfInBounds_ne ah] at ak
       rw[Za];exact ak
      rw[u]
      exact A _ (fun _=>⟨j,U,s,y,ag⟩) (f.known j U t s y ag)
   unfold wpOp;rw[ho]
   simp only
   rcases Qgd gs l 0 bs ap hA i o n with ⟨h,A⟩|⟨h,A⟩
   ·rw[hw true h,Xs Z]
    refine .inl (Qop (fun a' w' hh=>hh) (fun e w' H=>by obtain⟨ch,rfl,hp⟩:=H;exact hX ch _ _ f.defers hp) ((XK i ▸ A) (fun j=>listed.getD j false) a w ad G f.closed f.world ax _ fun v w' R ab J=>?_));exact ih _ _ _ (by simpa using hs) T (N v w' ab R J)
   ·rw[hw false h]
    simp only[Bool.false_eq_true,if_false]
    have hO:=(XK i ▸ A) (fun j=>listed.getD j false) a w ad G f.closed f.world;exact ih _ _ _ (by simpa using hs) T (N undef w hO.1 hO.2.2 hO.2.1)
theorem Zu {l:List Oper}{outs:List Tmp}{gs:List (Nat × Option Bool)}{a:Act}{Q:Exit->Act->World->Prop}
 (E:(Nat->Bool)->Tmp->Value->World->Prop) (W:(Nat->Bool)->World->Prop) (PX:List PanicEntry->World->Prop) (k:∀ ch a' w,a'.defers=a.defers->PX ch w->Q (.panic ch) a' w)
 (f:P.follows .mixedOrders=true)  (hn:a.tmps.size=m) (c:n<=m) (u:QaS l n outs gs bs=true)
 (q:∀ S,Qah (E S) l.toArray gs) (e:W (fun _=>false) w.drew) (g:Qa3 (E (fun _=>false)) a w.drew outs)
 (p:AllOkY E W PX P l 0 l bs)
 (b:∀ (vs:Tmp->Value) (S:Nat->Bool) w',(∀ j,j<l.length->S j=true)->W S w'->(∀ t,(Qn l).contains t=true->E S t (vs t) w')->Q .normal (QI a vs (Qn l)) w') :
 (Code.region id l.toArray true).wp P Q a w:=by
 refine wp_region_any f ?_
 have d:(fun j=>(Array.replicate l.length false).getD j false)=fun _=>false:=by
  funext j
  rw[Za,Array.getElem?_replicate]
  split<;>rfl
 have s:l.toArray.size=l.length:=by simp
 rw[s]
 refine Qda k (Qbc (hn ▸ c) u) q p b _ _ _ _ (by simp) ?_ ⟨by rw[d];exact e,(by rw[d];intro j o _ h;cases h),Z,Z,fun _ _=>rfl,(fun t r _=>by rw[d];exact Qcw outs g t r),?_⟩
 ·simp only[Array.toList_replicate]
  exact Zt (List.length_filter_le _ _) (by simp)
 ·intro j o t x v i;simp[Array.getD] at i
end
section
variable (E:Tmp->Value->World->Prop) (W:World->Prop) (R:World->World->Prop) (PX:List PanicEntry->World->Prop) (P:Program)
def Qlr (o:Oper):Prop :=
 ∀ a w,W w->Qed E a w (Qc3 o)->∀ K:Act->World->Prop,(∀ v w',R w w'->W w'->EO E o.dst v w'->K (a.put o.dst v) w')->o.wp P a w K (PEx PX)
def AllOkC:List Oper->List Bool->Prop
 | o::r,true::bs=>Qlr E W R PX P o/\AllOkC r bs
 | o::r,false::bs=>(∀ w,W w->EO E o.dst undef w)/\AllOkC r bs
 | _,_=>True
end
section
variable {P:Program}{E:Tmp->Value->World->Prop}{W:World->Prop}{R:World->World->Prop}{PX:List PanicEntry->World->Prop}
theorem Qg8 {g:List Oper}(c:∀ t v w w',R w w'->E t v w->E t v w'):∀ (l:List Oper) (bs:List Bool) (k:Nat),AllOkC E W R PX P l bs->AllOkY (fun _=>E) (fun _=>W) PX P g k l bs
 | [],bs,k,h=>by cases bs<;>trivial
 | o::r,[],k,h=>trivial
 | o::r,true::bs,k,h=>⟨fun S a w _ _ _ b i K f=>h.1 a w b i K (fun v w' j d m=>f v w' (fun t _ e=>c t _ w w' j e) d m),Qg8 c r bs (k+1) h.2⟩
 | o::r,false::bs,k,h=>⟨fun S a w _ _ _ b=>⟨b,h.1 w b,fun _ _ h=>h⟩,Qg8 c r bs (k+1) h.2⟩
theorem Zx {l:List Oper}{outs:List Tmp}{gs:List (Nat × Option Bool)}{a:Act}{Q:Exit->Act->World->Prop}
 (E:Tmp->Value->World->Prop) (W:World->Prop) (R:World->World->Prop) (PX:List PanicEntry->World->Prop) (g:∀ ch a' w,a'.defers=a.defers->PX ch w->Q (.panic ch) a' w)
 (e:P.follows .mixedOrders=true)  (hn:a.tmps.size=m) (d:n<=m) (o:QaS l n outs gs bs=true)
 (k:∀ t v w w',R w w'->E t v w->E t v w') (i:Qah E l.toArray gs) (c:W w.drew) (f:Qa3 E a w.drew outs)
 (h:AllOkC E W R PX P l bs)
 (b:∀ (vs:Tmp->Value) w',W w'->(∀ t,(Qn l).contains t=true->E t (vs t) w')->Q .normal (QI a vs (Qn l)) w') :
 (Code.region id l.toArray true).wp P Q a w :=
 Zu (fun _=>E) (fun _=>W) PX g e hn d o (fun _=>i) c f (Qg8 k l bs 0 h) (fun vs _ w' _ c j=>b vs w' c j)
end
section
variable {P:Program}{E:Tmp->Value->World->Prop}{W:World->Prop}{R:World->World->Prop}
theorem eoB (o:Option Tmp)(a:W w) (h:EO E o v w):EO (fun t v w=>W w/\E t v w) o v w:=by
 cases o with
 | none=>exact h
 | some t=>exact⟨a,h⟩
theorem knB (a:Act) (w:World):∀ l,Qed (fun t v w=>W w/\E t v w) a w l->Qed E a w l
 | [],h=>h
 | _::r,h=>⟨h.1.2,knB a w r h.2⟩
theorem Qm9 (d:∀ t v w w',R w w'->E t v w->E t v w'):∀ (l:List Oper) (bs:List Bool),QeH E W R P l bs->AllOkC (fun t v w=>W w/\E t v w) W (fun w w'=>R w w'/\W w') (fun _ _=>False) P l bs
 | [],bs,h=>by cases bs<;>trivial
 | o::r,[],h=>trivial
 | o::r,true::bs,h=>⟨fun a w b f K e=>wpq (fun _ _ h=>h) (h.1 a w b (knB a w _ f) K (fun v w' g c i=>e v w' ⟨g,c⟩ c (eoB o.dst c i))),Qm9 d r bs h.2⟩
 | o::r,false::bs,h=>⟨fun w b=>eoB o.dst b (h.1 w b),Qm9 d r bs h.2⟩
theorem guB {a:Array Oper}:∀ gs,Qbs E W a gs->Qah (fun t v w=>W w/\E t v w) a gs
 | [],h=>h
 | _::r,h=>⟨fun t c v w b=>h.1 t c v w b.1 b.2,guB r h.2⟩
theorem ouB {a:Act}{w:World}(b:W w):∀ l,Qa3 E a w l->Qa3 (fun t v w=>W w/\E t v w) a w l
 | [],h=>h
 | _::r,h=>⟨⟨b,h.1⟩,ouB b r h.2⟩
theorem QV {l:List Oper}{outs:List Tmp}{gs:List (Nat × Option Bool)}{a:Act}{Q:Exit->Act->World->Prop}
 (E:Tmp->Value->World->Prop) (W:World->Prop) (R:World->World->Prop)
 (g:P.follows .mixedOrders=true)  (hn:a.tmps.size=m) (c:n<=m) (s:QaS l n outs gs bs=true)
 (f:∀ t v w w',R w w'->E t v w->E t v w') (p:Qbs E W l.toArray gs) (d:W w.drew) (i:Qa3 E a w.drew outs)
 (o:QeH E W R P l bs)
 (b:∀ (vs:Tmp->Value) w',W w'->(∀ t,(Qn l).contains t=true->E t (vs t) w')->Q .normal (QI a vs (Qn l)) w') :
 (Code.region id l.toArray true).wp P Q a w :=
 Zx _ W _ (fun _ _=>False) (fun _ _ _ _ h=>h.elim) g hn c s (fun t v w w' e k=>⟨e.2,f t v w w' e.1 k.2⟩) (guB gs p) d (ouB d outs i) (Qm9 f l bs o) (fun vs w' j r=>b vs w' j (fun t q=>(r t q).2))
end
theorem XT:type_of% @Int.toNat_natCast:=@Int.toNat_natCast
structure Qj where
 kind:Int
 region:Int
 thing:Int
 n:Int
structure Qq where
 arr:Bool
 l:List Qj
structure Qi where
 there:Bool
 l:List Qq
 pages:Nat
 used:Int
structure Qd where
 L:List Qi
 left:Nat
def Qj.bare (v:Qj):Qj:=if v.kind=1 then ⟨1,0,0,v.n⟩ else if v.kind=2 then ⟨2,v.region,0,0⟩ else if v.kind=3\/v.kind=4 then ⟨v.kind,v.region,v.thing,0⟩ else ⟨v.kind,0,0,0⟩
def Zp (x:Int):Prop:=-9223372036854775808<=x/\x<=9223372036854775807
def Qj.ok (v:Qj):Prop:=Zp v.kind/\Zp v.region/\Zp v.thing/\Zp v.n
def Qq.knd (t:Qq):Int:=if t.arr then 4 else 3
def noV:Qj:=⟨0,0,0,0⟩
def Qa9 (n:Int):Qj:=⟨1,0,0,n⟩
def noP:Qi:=⟨false,[],0,0⟩
def newP:Qi:=⟨true,[],0,0⟩
def Qd.new (pages:Nat):Qd:=⟨[],pages⟩
def Qd.live (h:Qd):Nat:=(h.L.filter (·.there)).length
def Qd.place (h:Qd) (k:Int):Option Qi:=if k<0 then none else match h.L[k.toNat]? with
 | none=>none
 | some p=>if p.there then some p else none
def Qd.open_ (h:Qd):Qj × Bool × Qd:=if 16<=h.live then (noV,false,h) else (⟨2,h.L.length,0,0⟩,true,{ h with L:=h.L++[newP] })
def Qd.at (h:Qd) (v:Qj):Option Qi:=if v.kind=2 then h.place v.region else none
def Qd.shut (h:Qd) (v:Qj):Bool × Qd:=match h.at v with
 | none=>(false,h)
 | some p=>(true,⟨h.L.set v.region.toNat noP,h.left+p.pages⟩)
def Qi.tight (p:Qi) (words:Int):Bool:=decide (p.pages=0)||decide (words>16 - p.used)
def Qi.more (p:Qi) (t:Qq) (words:Int):Qi:=if p.tight words then ⟨p.there,p.l++[t],p.pages+1,words⟩ else ⟨p.there,p.l++[t],p.pages,p.used+words⟩
def Qd.put (h:Qd) (v:Qj) (t:Qq) (words:Int):Qj × Int × Qd:=match h.at v with
 | none=>(noV,20,h)
 | some p=>if p.tight words/\h.left=0 then (noV,14,h)
   else (⟨if t.arr then 4 else 3,v.region,p.l.length,0⟩,0,⟨h.L.set v.region.toNat (p.more t words),if p.tight words then h.left - 1 else h.left⟩)
def Qd.tuple (h:Qd) (v:Qj) (l:List Qj):Qj × Int × Qd:=h.put v ⟨false,l⟩ (if l.length=0 then 1 else l.length)
def Qd.array (h:Qd) (v:Qj) (n:Int):Qj × Int × Qd:=if n<0\/15<n then (noV,1,h) else h.put v ⟨true,List.replicate n.toNat (Qa9 0)⟩ (n+1)
def Qd.thing (h:Qd) (v:Qj):Option Qq:=if v.kind=3\/v.kind=4 then (match h.place v.region with
 | none=>none
 | some p=>if v.thing<0 then none else match p.l[v.thing.toNat]? with
   | none=>none
   | some t=>if t.arr=decide (v.kind=4) then some t else none) else none
def Qd.get (h:Qd) (v:Qj) (k:Int):Qj × Int:=match h.thing v with
 | none=>(noV,20)
 | some t=>if k<0 then (noV,1) else match t.l[k.toNat]? with
   | none=>(noV,1)
   | some x=>(x,0)
def Qd.set (h:Qd) (v:Qj) (k:Int) (x:Qj):Int × Qd:=match h.thing v,h.place v.region with
 | some t,some p=>if t.arr=true/\x.kind≠1 then (20,h) else if k<0\/t.l.length<=k.toNat then (1,h)
   else (0,{ h with L:=h.L.set v.region.toNat { p with l:=p.l.set v.thing.toNat { t with l:=t.l.set k.toNat x } } })
 | _,_=>(20,h)
def Qd.len (h:Qd) (v:Qj):Int × Int:=match h.thing v with
 | none=>(0,20)
 | some t=>(t.l.length,0)
theorem Qd.place_nat (h:Qd) (k:Nat):h.place (k:Int)=match h.L[k]? with
 | none=>none
 | some p=>if p.there then some p else none:=by
 unfold Qd.place;rw[Xr (by omega),XT]
theorem Qd.place_some {h:Qd}{k:Int}{p:Qi}(e:h.place k=some p):0<=k/\h.L[k.toNat]?=some p/\p.there=true:=by
 unfold Qd.place at e;split at e
 ·cases e
 ·rename_i c
  refine⟨by omega,?_⟩
  split at e
  ·cases e
  ·rename_i q a
   split at e
   ·rename_i b;cases e;exact⟨a,b⟩
   ·cases e
theorem Qd.place_of {h:Qd}{p:Qi}(e:h.L[k]?=some p) (a:p.there=true):h.place (k:Int)=some p:=by rw[h.place_nat,e];simp[a]
theorem Qd.place_set {h:Qd}(b:k<h.L.length) (p:Qi) (n:Nat) (j:Int):Qd.place ⟨h.L.set k p,n⟩ j=if j=k then (if p.there then some p else none) else h.place j:=by
 unfold Qd.place;by_cases a:j<0
 ·rw[Xs a,Xr (by omega),Xs a]
 ·rw[Xr a,Xr a]
  by_cases e:j=k
  ·subst e;simp[b]
  ·rw[Xr e,List.getElem?_set_ne (by omega)]
theorem Qd.place_push (h:Qd) (p:Qi) (j:Int) (n:Nat):Qd.place ⟨h.L++[p],n⟩ j=if j=h.L.length then (if p.there then some p else none) else h.place j:=by
 unfold Qd.place;by_cases b:j<0
 ·rw[Xs b,Xr (by omega),Xs b]
 ·rw[Xr b,Xr b]
  by_cases e:j=h.L.length
  ·subst e;simp
  ·rw[Xr e]
   rcases Nat.lt_or_ge j.toNat h.L.length with a | a
   ·simp[List.getElem?_append,a]
   ·rw[XQ a,Xk a,Xk (by simp;omega)]
theorem Qd.live_push (h:Qd) (n:Nat):Qd.live ⟨h.L++[newP],n⟩=h.live+1:=by simp[Qd.live,newP]
theorem Qbg {α:Type}(f:α->Bool) (q:α):∀ (l:List α) (k:Nat) (p:α),l[k]?=some p->((l.set k q).filter f).length+(if f p then 1 else 0)=(l.filter f).length+(if f q then 1 else 0)
 | [],_,_,h=>by simp at h
 | x::r,0,p,h=>by
   simp at h;subst h
   simp only[List.set_cons_zero,List.filter_cons]
   cases f x<;>cases f q<;>simp
 | x::r,k+1,p,h=>by
   have a:=Qbg f q r k p (by simpa using h);simp only[List.set_cons_succ,List.filter_cons]
   cases f x<;>simp<;>omega
theorem Qd.live_set {h:Qd}{p q:Qi}(e:h.L[k]?=some p) (n:Nat):Qd.live ⟨h.L.set k q,n⟩+(if p.there then 1 else 0)=h.live+(if q.there then 1 else 0):=Qbg (fun x:Qi=>x.there) q h.L k p e
structure HOk (N T:Nat) (h:Qd):Prop where
 len:h.L.length<=N
 things:∀ (k:Nat) (p:Qi),h.L[k]?=some p->p.l.length<=N
 used:∀ (k:Nat) (p:Qi),h.L[k]?=some p->0<=p.used/\p.used<=N
 pages:h.left+(h.L.map (·.pages)).sum<=T
theorem Qi5 {l:List Qi}{p:Qi}(e:l[k]?=some p):p.pages<=(l.map (·.pages)).sum:=by
 induction l generalizing k with
 | nil=>simp at e
 | cons x r ih =>
   cases k with
   | zero=>simp at e;subst e;simp
   | succ k=>have:=ih (k:=k) (by simpa using e);simp;omega
theorem sum_set:∀ (l:List Qi) (k:Nat) (p q:Qi),l[k]?=some p->((l.set k q).map (·.pages)).sum+p.pages=(l.map (·.pages)).sum+q.pages
 | [],_,_,_,h=>by simp at h
 | x::r,0,p,q,h=>by simp at h;subst h;simp only[List.set_cons_zero,List.map_cons,List.sum_cons];omega
 | x::r,k+1,p,q,h=>by have:=sum_set r k p q (by simpa using h);simp only[List.set_cons_succ,List.map_cons,List.sum_cons];omega
theorem Qbf {l:List Qi}{q p:Qi}(e:(l.set k q)[j]?=some p):p=q\/l[j]?=some p:=by
 by_cases a:j=k
 ·subst a;rcases Nat.lt_or_ge j l.length with h | h
  ·simp[h] at e;exact .inl e.symm
  ·rw[Xk (by simpa using h)] at e;cases e
 ·rw[List.getElem?_set_ne (Ne.symm a)] at e;exact .inr e
theorem Xq:type_of% @Decidable.not_not:=@Decidable.not_not
def Ql7 {n:Nat}(l:List (TT n)):Prop:=l.length<=8/\∀ t∈l,∃ regs:Int,regs<=16/\t.check regs=0
structure MBlock.fine {n:Nat}(x:MBlock n) (funcs:Nat):Prop where
 regs:0<=x.regs/\x.regs<=16
 params:Ql7 x.params
 code:∀ y∈x.code,y.form funcs=0
 fin:∃ nb,nb<=12/\x.fin.form nb=0
structure MFunc.fine {n:Nat}(x:MFunc n) (funcs:Nat):Prop where
 regs:0<=x.regs/\x.regs<=6
 params:Ql7 x.params
 results:Ql7 x.results
 blocks:∀ y∈x.blocks,y.fine funcs
theorem Zy {α:Type}{f:Nat->α->Int × Int}:∀ {l:List α}{j:Nat},(firstF f j l).1=0->∀ (i:Nat) x,l[i]?=some x->(f (j+i) x).1=0
 | [],j,h,i,x,hx=>by simp at hx
 | y::l,j,h,i,x,hx=>by
   rw[firstF] at h
   by_cases a:(f j y).1=0
   ·rw[Xr (by simpa using a)] at h
    cases i with
    | zero=>simp at hx;subst hx;exact a
    | succ i =>
      have:=Zy h i x (by simpa using hx)
      rwa [show j+1+i=j+(i+1) by omega] at this
   ·rw[Xs a] at h
    exact absurd h a
theorem QlE {regs:Int}{l:List (TT n)}(a:regs<=16) (h:listC regs l=0):Ql7 l:=by
 unfold listC at h;split at h
 ·cases h
 ·exact⟨by omega,fun t b=>⟨regs,a,QP.1 h t b⟩⟩
theorem Qkg {a:Nat}{fn:MFunc n}{x:MBlock n}(k:0<=fn.regs) (hb:fn.blocks.length<=12) (h:(MBlock.fault a f fn b x).1=0):x.fine a:=by
 unfold MBlock.fault at h;split at h
 ·cases h
 rename_i l
 split at h
 ·rename_i c;exact absurd h c
 rename_i c
 split at h
 ·cases h
 split at h
 ·cases h
 split at h
 ·rename_i d;exact absurd h d
 rename_i d
 split at h
 ·rename_i e;exact absurd h e
 rename_i e
 refine⟨by omega,QlE (by omega) (Xq.1 c),fun y g=>?_,_,hb,Xq.1 e⟩
 obtain⟨i,j⟩:=List.getElem?_of_mem g
 exact Zy (Xq.1 d) i y j
theorem Qlt {a:Nat}{x:MFunc n}(h:(MFunc.fault a f x).1=0):x.fine a:=by
 unfold MFunc.fault at h;split at h
 ·cases h
 rename_i j
 split at h
 ·rename_i b;exact absurd h b
 rename_i b
 split at h
 ·rename_i c;exact absurd h c
 rename_i c
 split at h
 ·cases h
 rename_i g
 split at h
 ·cases h
 refine⟨by omega,QlE (by omega) (Xq.1 b),QlE (by omega) (Xq.1 c),fun y d=>?_⟩
 obtain⟨i,e⟩:=List.getElem?_of_mem d
 exact Qkg (by omega) (by omega) (Zy h i y e)
theorem Qmg {m:List (MFunc n)}(h:(modFault m).1=0):∀ x∈m,x.fine m.length:=by
 unfold modFault at h;split at h
 ·cases h
 intro x b;obtain⟨i,a⟩:=List.getElem?_of_mem b
 exact Qlt (Zy h i x a)
theorem QiB {a:Nat}{x:Qv}(h:x.form a=0):(Zo x.op).isNone=false/\x.formless=false/\(x.op=2->1<=x.k/\x.k<=9)/\(x.args.length<=8\/x.op≠5/\x.op≠14)/\(x.op=14->x.regs.length<=6):=by
 unfold Qv.form at h;split at h
 ·cases h
 split at h
 ·cases h
 split at h
 ·cases h
 split at h
 ·cases h
 split at h
 ·cases h
 split at h
 ·cases h
 split at h
 ·cases h
 rename_i c b g e f i d
 refine⟨Bool.eq_false_iff.2 c,Bool.eq_false_iff.2 b,by omega,by omega,by omega⟩
theorem QkJ {b:Nat}{e:Z0}(hb:b<=12) (h:e.form b=0):(e.op=1\/e.op=2\/e.op=3)/\(e.op≠2->e.a=0)/\(e.op≠3->e.args=[])/\e.args.length<=8/\e.yes.form b (decide (e.op≠3))=0/\e.no.form b (decide (e.op=2))=0:=by
 unfold Z0.form at h;split at h
 ·cases h
 split at h
 ·cases h
 split at h
 ·cases h
 split at h
 ·rename_i c;exact absurd h c
 rename_i c g i d
 refine⟨by omega,by omega,fun f=>Xf.1 (by omega),by omega,Xq.1 d,h⟩
theorem QcH {t:TT n}{regs:Int}(h:t.check regs=0):t.height<=4/\t.fault regs=0:=by
 unfold TT.check at h;split at h
 ·cases h
 ·exact⟨by omega,h⟩
theorem QkI {op:Int}(h:(Zo op).isNone=false):op=1\/op=2\/op=3\/op=4\/op=5\/op=6\/op=7\/op=8\/op=9\/op=10\/op=11\/op=12\/op=13\/op=14:=by
 unfold Zo at h;repeat' split at h
 all_goals first | omega | cases h
theorem Xo:type_of% @Nat.le_of_not_lt:=@Nat.le_of_not_lt
def MTo.small (x:MTo):Prop:=x.regs.length<=100000/\x.args.length<=100000
def Qv.small (x:Qv):Prop:=x.regs.length<=100000/\x.args.length<=100000
def Z0.small (x:Z0):Prop:=x.yes.small/\x.no.small/\x.args.length<=100000
def QdC {n:Nat}(l:List (TT n)):Prop:=l.length<=100000/\∀ t∈l,t.count<=100000
def MBlock.small {n:Nat}(x:MBlock n):Prop:=x.code.length<=100000/\QdC x.params/\x.fin.small/\∀ y∈x.code,y.small
def MFunc.small {n:Nat}(x:MFunc n):Prop:=x.blocks.length<=100000/\QdC x.params/\QdC x.results/\∀ y∈x.blocks,y.small
def QcD {n:Nat}(m:List (MFunc n)):Prop:=m.length<=100000/\∀ x∈m,x.small
theorem QcT {l:List (TT n)}(h:¬ ZG l):QdC l:=⟨Zt (Xo fun x=>h (.inl x)) (by decide),fun t a=>Zt (Xo fun x=>h (.inr ⟨t,a,x⟩)) (by decide)⟩
theorem MBlock.small_of {x:MBlock n}(h:¬ x.great):x.small:=by
 unfold MBlock.great at h;simp only[not_or,not_exists,not_and,Nat.not_lt] at h
 obtain⟨g,d,i,e,f,j,c,a⟩:=h
 exact⟨Zt g (by decide),QcT d,⟨⟨Zt e (by decide),Zt f (by decide)⟩,⟨Zt j (by decide),Zt c (by decide)⟩,Zt i (by decide)⟩,fun y b=>⟨Zt (a y b).1 (by decide),Zt (a y b).2 (by decide)⟩⟩
theorem MFunc.small_of {x:MFunc n}(h:¬ x.great):x.small:=by
 unfold MFunc.great at h;simp only[not_or,not_exists,not_and,Nat.not_lt] at h
 obtain⟨d,b,e,c⟩:=h
 exact⟨Zt d (by decide),QcT b,QcT e,fun y a=>MBlock.small_of (c y a)⟩
theorem QbD {m:List (MFunc n)}(h:¬ QO m):QcD m:=by
 unfold QO at h;simp only[not_or,not_exists,not_and,Nat.not_lt] at h
 exact⟨Zt h.1 (by decide),fun x a=>MFunc.small_of (h.2 x a)⟩
theorem XN:type_of% @List.length_map:=@List.length_map
def TT.at:{n:Nat}->(k:Nat)->TT n->TT (k+1)
 | 0,_,t=>Empty.elim t
 | n+1,0,t=>(t.1,t.2.1,[])
 | n+1,k+1,t=>(t.1,t.2.1,t.2.2.map (TT.at (n:=n) k))
theorem TT.at_kind:{n:Nat}->(k:Nat)->(t:TT n)->(t.at k).kind=t.kind
 | 0,_,t=>Empty.elim t
 | n+1,0,t=>rfl
 | n+1,k+1,t=>rfl
theorem TT.at_r:{n:Nat}->(k:Nat)->(t:TT n)->(t.at k).r=t.r
 | 0,_,t=>Empty.elim t
 | n+1,0,t=>rfl
 | n+1,k+1,t=>rfl
theorem TT.at_len:{n:Nat}->(k:Nat)->(t:TT n)->t.height<=k->(t.at k).len=t.len
 | 0,_,t,_=>Empty.elim t
 | n+1,0,t,h=>by
   have:=(ZB (t:=t)).1 h
   show 0=t.2.2.length
   cases hx:t.2.2 with
   | nil=>rfl
   | cons x l=>have:=this x (by rw[hx];simp);omega
 | n+1,k+1,t,h=>by
   show (t.2.2.map _).length=_;rw[XN];rfl
theorem TIn.at {w:World}{O:Nat->Prop}:{n:Nat}->(k:Nat)->{t:TT n}->{a:Option Addr}->t.height<=k->TIn w O t a->TIn w O (t.at k) a
 | 0,_,t,_,_,_=>Empty.elim t
 | n+1,0,t,a,h,hi=>fun i x c=>by simp[TT.at] at c
 | n+1,k+1,t,a,h,hi=>fun i x c=>by
   have b:(t.2.2.map (TT.at k))[i]?=some x:=c;rw[XS,Option.map_eq_some_iff] at b
   obtain⟨y,f,rfl⟩:=b
   have d:y.height<=k:=by have:=(ZB (t:=t)).1 h y (Zm f);omega
   obtain⟨g,o,j,s,e,l,q,m,r,p⟩:=hi i y f
   refine⟨g,o,j,s,e,l,?_,?_,?_,TIn.at k d p⟩
   ·rw[TT.at_kind];exact q
   ·rw[TT.at_r];exact m
   ·rw[TT.at_len k y d];exact r
theorem TT.at_ok:{n:Nat}->(k:Nat)->{t:TT n}->t.ok->(t.at k).ok
 | 0,_,t,_=>Empty.elim t
 | n+1,0,t,h=>⟨h.1,fun x a=>by cases a⟩
 | n+1,k+1,t,h=>⟨h.1,fun x a=>by
   obtain⟨y,b,rfl⟩:=List.mem_map.1 a
   exact TT.at_ok k (h.2 y b)⟩
def MBlock.at {n:Nat}(k:Nat) (x:MBlock n):MBlock (k+1):=⟨x.regs,x.params.map (TT.at k),x.code,x.fin⟩
def MFunc.at {n:Nat}(k:Nat) (x:MFunc n):MFunc (k+1):=⟨x.regs,x.params.map (TT.at k),x.results.map (TT.at k),x.blocks.map (MBlock.at k)⟩
def Qfr {n:Nat}(k:Nat) (l:List (TT n)):Prop:=∀ t∈l,t.height<=k
def MBlock.flat {n:Nat}(k:Nat) (x:MBlock n):Prop:=Qfr k x.params
def MFunc.flat {n:Nat}(k:Nat) (x:MFunc n):Prop:=Qfr k x.params/\Qfr k x.results/\∀ y∈x.blocks,y.flat k
theorem Lay.list_map {α β:Type}{A:Lay α}{B:Lay β}{f:α->β}{w:World}{O:Nat->Prop}{l:List α}{cs:List Value}(j:A.size=B.size) (p:∀ x∈l,∀ ds,A.In w O x ds->B.In w O (f x) ds) (h:A.list.In w O l cs):B.list.In w O (l.map f) cs:=by
 obtain⟨a,c,e,h⟩:=h
 refine⟨a,c,by rw[e,XN],fun i x d=>?_⟩
 rw[XS,Option.map_eq_some_iff] at d
 obtain⟨y,b,rfl⟩:=d
 obtain⟨g,o,ds,q,k,r,m,n⟩:=h i y b
 exact⟨g,o,ds,q,k,r,by rw[<-j];exact m,p y (Zm b) ds n⟩
section
variable {w:World}{O:Nat->Prop}{n:Nat}{cs:List Value}
theorem Qec {l:List (TT n)}(d:Qfr k l) (h:(Qx n).In w O l cs):(Qx (k+1)).In w O (l.map (TT.at k)) cs :=
 Lay.list_map (A:=Lay.tt n) (B:=Lay.tt (k+1)) Z (fun x b i ⟨a,c,e,g,f⟩=>⟨a,c,by rw[e,TT.at_kind,TT.at_r,TT.at_len k x (d x b)],g.at k (d x b),TT.at_ok k f⟩) h
theorem Qh0 {x:MBlock n}(f:x.flat k) (h:(Zq n).In w O x cs):(Zq (k+1)).In w O (x.at k) cs:=by
 obtain⟨a,_,rfl,d,⟨b,_,rfl,e,c⟩⟩:=h
 exact⟨a,_,Z,d,⟨b,_,Z,Qec f e,c⟩⟩
theorem QjO {x:MFunc n}(a:x.flat k) (h:(ZW n).In w O x cs):(ZW (k+1)).In w O (x.at k) cs:=by
 obtain⟨b,_,rfl,f,⟨c,_,rfl,g,⟨i,_,rfl,e,j⟩⟩⟩:=h
 exact⟨b,_,Z,f,⟨c,_,Z,Qec a.1 g,⟨i,_,Z,Qec a.2.1 e,Lay.list_map (A:=Zq n) (B:=Zq (k+1)) Z (fun y d l=>Qh0 (a.2.2 y d)) j⟩⟩⟩
theorem QmT {m:List (MFunc n)}(a:∀ x∈m,x.flat k) (h:(ZZ n).In w O m cs):(ZZ (k+1)).In w O (m.map (MFunc.at k)) cs :=
 Lay.list_map (A:=ZW n) (B:=ZW (k+1)) Z (fun y b c=>QjO (a y b)) h
theorem Qla {m:List (MFunc n)}(h:(modFault m).1=0):∀ x∈m,x.flat 5:=by
 have a:∀ {l:List (TT n)},Ql7 l->Qfr 5 l:=fun h t f=>by
  obtain⟨r,_,e⟩:=h.2 t f
  have:=(QcH e).1
  omega
 intro x d;have b:=Qmg h x d;exact⟨a b.params,a b.results,fun y c=>a (b.blocks y c).params⟩
end
theorem Xc:type_of% @Int.eq_ofNat_of_zero_le:=@Int.eq_ofNat_of_zero_le
def hHas (L:List Bool) (r:Int):Bool:=decide (0<=r)&&L.getD r.toNat false
def hTo (L:List Bool):Nat->List Int
 | 0=>[]
 | k+1=>hTo L k++(if L.getD k false then [(k:Int)] else [])
def Qas (L:List Bool):List Int:=hTo L L.length
def inB (l:List Int) (x:Int):Bool:=l.contains x
def hPass (L:List Bool):List Int->List Int->Int
 | ahead,[]=>if (Qas L).all (fun r=>inB ahead r) then 0 else 12
 | ahead,r::rest=>if hHas L r then (if inB ahead r then 13 else hPass L (ahead++[r]) rest) else 10
theorem Qcc (L:List Bool)(h:L.length<=k):L.getD k false=false:=by
 simp[List.getD,List.getElem?_eq_none h]
theorem Ql9 (L:List Bool):∀ k,L.length<=k->hTo L k=Qas L:=by
 intro k
 induction k with
 | zero=>intro h;rw[Qas,Nat.le_zero.1 h]
 | succ k ih =>
   intro h;rcases Nat.lt_or_ge k L.length with a | a
   ·rw[Qas,show L.length=k+1 by omega]
   ·rw[hTo,Qcc L a,ih a];simp
theorem QiJ (L:List Bool):∀ k,(hTo L k).length<=k:=by
 intro k
 induction k with
 | zero=>simp[hTo]
 | succ k ih =>
   rw[hTo]
   split<;>simp<;>omega
theorem Qjf (L:List Bool):(Qas L).length<=L.length:=QiJ L _
theorem Qlc (L:List Bool) (r:Int):∀ k,r∈hTo L k↔0<=r/\r<k/\L.getD r.toNat false=true:=by
 intro k
 induction k with
 | zero=>simp[hTo];omega
 | succ k ih =>
   rw[hTo,List.mem_append,ih]
   constructor
   ·rintro (⟨b,c,a⟩ | h)
    ·exact⟨b,by omega,a⟩
    ·split at h
     ·rename_i f
      simp at h
      subst h;exact⟨by omega,by omega,by simpa using f⟩
     ·simp at h
   ·rintro ⟨b,c,a⟩;rcases Nat.lt_or_ge r.toNat k with d | d
    ·exact .inl ⟨b,by omega,a⟩
    ·have e:r=(k:Int):=by omega
     subst e;right
     simp only[Int.toNat_natCast] at a
     rw[a];simp
theorem QeV (L:List Bool) (r:Int):r∈Qas L↔hHas L r=true:=by
 rw[Qas,Qlc,hHas]
 constructor
 ·rintro ⟨b,_,c⟩;rw[c];simp[b]
 ·intro h;simp only[Bool.and_eq_true,decide_eq_true_eq] at h
  refine⟨h.1,?_,h.2⟩
  rcases Nat.lt_or_ge r.toNat L.length with a | a
  ·omega
  ·rw[Qcc L a] at h;simp at h
theorem Qc2 (L:List Bool) (k:Nat):hHas L (k:Int)=L.getD k false:=by simp[hHas]
theorem QbN {r:Int}(h:hHas L r=true):∃ k:Nat,r=(k:Int)/\k<L.length/\L.getD k false=true:=by
 simp only[hHas,Bool.and_eq_true,decide_eq_true_eq] at h
 obtain⟨k,rfl⟩:=Xc h.1
 have a:L.getD k false=true:=by simpa using h.2
 refine⟨k,Z,?_,a⟩
 rcases Nat.lt_or_ge k L.length with b | b
 ·exact b
 ·rw[Qcc L b] at a;cases a
theorem QfK {x:Int}:inB l x=true↔x∈l:=by simp[inB]
theorem Qkb (l:List Int) (x y:Int):inB (l++[x]) y=(inB l y||decide (x=y)):=by
 rw[Bool.eq_iff_iff,QfK,Bool.or_eq_true,QfK,decide_eq_true_eq,List.mem_append,List.mem_singleton]
 exact⟨fun h=>h.imp id Eq.symm,fun h=>h.imp id Eq.symm⟩
theorem QhK (L:List Bool) (l:List Int){x:Int}(a:l[k]?=some x) :
 hPass L (l.take k) (l.drop k)=if hHas L x then (if inB (l.take k) x then 13 else hPass L (l.take (k+1)) (l.drop (k+1))) else 10:=by
 obtain⟨b,e⟩:=Zi a
 rw[List.drop_eq_getElem_cons b,e,hPass,XV,a]
 rfl
theorem QhU (L:List Bool) (l:List Int)(a:l.length<=k):hPass L (l.take k) (l.drop k)=if (Qas L).all (fun r=>inB l r) then 0 else 12:=by
 rw[List.drop_of_length_le a,XO a,hPass]
def ZL (L:List Bool) (l:List Int) (i:Nat):Bool:=L.getD i false&&!inB l (i:Int)
theorem QjC (L:List Bool) (i:Nat):ZL L [] i=L.getD i false:=by simp[ZL,inB]
theorem Qht (L:List Bool) (l:List Int) (k i:Nat):ZL L (l++[(k:Int)]) i=if i=k then false else ZL L l i:=by
 unfold ZL;rw[Qkb]
 by_cases h:i=k
 ·subst h;simp
 ·rw[Xr h]
  have:decide ((k:Int)=(i:Int))=false:=by simp;omega
  rw[this];simp
theorem Qhc (h:L.length<=16):((List.range 16).map (ZL L l)=List.replicate 16 false)↔(Qas L).all (fun r=>inB l r)=true:=by
 rw[Xe]
 constructor
 ·intro e r f;obtain⟨k,rfl,d,c⟩:=QbN ((QeV L r).1 f)
  have a:k<16:=by omega
  have:((List.range 16).map (ZL L l))[k]?=some false:=by rw[e,List.getElem?_replicate,Xs a]
  rw[XS,List.getElem?_range a] at this
  simp only[Option.map_some,Option.some.injEq] at this
  unfold ZL at this;rw[c] at this
  simpa using this
 ·intro e;rw[List.eq_replicate_iff]
  refine⟨by simp,fun b g=>?_⟩
  obtain⟨k,d,rfl⟩:=List.mem_map.1 g
  unfold ZL
  cases c:L.getD k false with
  | false=>rfl
  | true =>
    have:=e (k:Int) ((QeV L _).2 (by rw[Qc2];exact c))
    rw[this];rfl
def QbG (L:List Bool):Int:=if L.length<16 then (L.length:Int) else -1
def Qek (L:List Bool):List Bool:=if L.length<16 then L++[true] else L
def QfT (L:List Bool) (r:Int):List Bool:=if hHas L r then L.set r.toNat false else L
def QjK (n:Int):List Bool:=List.replicate (min n 16).toNat true
theorem QbK (A:P.underlying t=some (.array n e)) (x:P.underlying e=some .bool) (r:(P.info? e).map (·.size)=some 1) (w:World)
 (y:∀ a b,(Op.equalIn d e (.bool a) (.bool b)).run P w=.ok (a==b) w) (xs c:List Bool) (E:xs.length=n) (D:c.length=n) :
 (Op.equalIn (d+1) t (.agg (xs.map Value.bool).toArray) (.agg (c.map Value.bool).toArray)).run P w=.ok (xs==c) w:=by
 have u:(sizeOf e).run P w=.ok 1 w:=by
  cases hq:P.info? e with
  | none=>simp[hq] at r
  | some i=>simp[hq] at r;simp[sizeOf,typeInfo,hq,r]
 have f:∀ (o:List Bool) (i:Nat) (h:i<o.length),(part e (o.map Value.bool).toArray (i*1)).run P w=.ok (.bool o[i]) w:=by
  intro o i h;simp[part,isAgg,run_underlying x,h]
 simp only[Op.equalIn,Sem.run_bind,run_underlying A,Result.andThen_ok,u]
 rw[Std.Legacy.Range.forIn_eq_forIn_range',show Std.Legacy.Range.size [0:n]=n by simp[Std.Legacy.Range.size]]
 have v:∀ (m k:Nat),k+m=n->(xs.take k==c.take k)=true ->
  ((forIn (List.range' k m) ((none,()):Option Bool × Unit) fun i B=>do
    let __do_lift <-part e (xs.map Value.bool).toArray (i*1)
    let __do_lift_1 <-part e (c.map Value.bool).toArray (i*1)
    let __do_lift_2 <-Op.equalIn d e __do_lift __do_lift_1
    if (!__do_lift_2)=true then pure (ForInStep.done (some false,()))
    else pure (ForInStep.yield (none,())):Sem (Option Bool × Unit)).run P w)=.ok (if xs==c then none else some false,()) w:=by
  intro m
  induction m with
  | zero =>
    intro k C q
    have:(xs==c)=true:=by
     rw[XO (by omega),XO (by omega)] at q
     exact q
    simp[this]
  | succ m ih =>
    intro k C q;have j:k<xs.length:=by omega
    have l:k<c.length:=by omega
    simp only[List.range'_succ,List.forIn_cons,Sem.run_bind,f xs k j,f c k l,Result.andThen_ok,y]
    by_cases p:xs[k]=c[k]
    ·have z:(xs.take (k+1)==c.take (k+1))=true:=by
      rw[XV,XV,Zg j,Zg l,p,beq_iff_eq.1 q]
      simp
     have g:(xs[k]==c[k])=true:=by simpa using p
     simp only[g,Bool.not_true,Bool.false_eq_true,if_false,Sem.run_pure,Result.andThen_ok]
     exact ih (k+1) (by omega) z
    ·have g:(xs[k]==c[k])=false:=by simpa using p
     have s:(xs==c)=false:=by
      rw[beq_eq_false_iff_ne]
      intro e;subst e;exact p Z
     simp[g,s]
 have:=v n 0 (by omega) (by simp)
 rw[this]
 cases h:xs==c<;>simp
theorem QbY (j:P.underlying t=some (.array n e)) (f:P.underlying e=some .bool) (i:(P.info? e).map (·.size)=some 1) (w:World)
 (xs c:List Bool) (h:xs.length=n) (g:c.length=n) :
 (Op.equalIn (d+2) t (.agg (xs.map Value.bool).toArray) (.agg (c.map Value.bool).toArray)).run P w=.ok (xs==c) w :=
 QbK j f i w (fun a b=>by simp[Op.equalIn,run_underlying f]) xs c h g
structure JSt where
 m:List (MFunc 6)
 f:MFunc 6
 H:List Bool
 L:List (TT 6)
def JSt.at (s:JSt) (k:Int):Option (TT 6):=if k<0 then none else s.L[k.toNat]?
def JSt.want (s:JSt) (k kind:Int) (held:Bool):Int:=match s.at k with
 | none=>1
 | some t=>if t.kind=kind then (if held&&!hHas s.H t.r then 10 else 0) else 9
def Qt (a b:Int):Int:=if a=0 then b else a
noncomputable def JSt.arg (s:JSt) (regs:List Int) (k:Int) (t:TT 6):Int:=match s.at k with
 | none=>1
 | some u=>if Qam (t.ren regs.length (fun i=>regs.getD i 0)=some u) then 0 else 9
noncomputable def JSt.args (s:JSt) (l:List Int) (ts:List (TT 6)) (regs:List Int):Int :=
 if l.length=ts.length then QM (fun p:Int × TT 6=>s.arg regs p.1 p.2) (l.zip ts) else 2
def zeroTT:TT 6:=mkT 0 0 []
def tInt:TT 6:=mkT 1 0 []
def Qao (regs:List Int) (t:TT 6):TT 6:=(t.ren regs.length (fun i=>regs.getD i 0)).getD zeroTT
def QX (H:List Bool):List Int->List Int->Int
 | _,[]=>0
 | ahead,r::rest=>if hHas H r then (if inB ahead r then 13 else QX H (ahead++[r]) rest) else 10
def JSt.fields (s:JSt):List Int->Option (List (TT 6))
 | []=>some []
 | k::r=>match s.at k with
   | none=>none
   | some t=>match s.fields r with
     | none=>none
     | some l=>some (t::l)
noncomputable def JSt.makes (s:JSt) (x:Qv):Int × List (TT 6) :=
 if x.op=1\/x.op=12 then (0,[tInt])
 else if x.op=2 then (Qt (s.want x.a 1 false) (s.want x.b 1 false),[tInt])
 else if x.op=3 then (if s.H.length=16 then (2,[]) else (0,[mkT 2 s.H.length []]))
 else if x.op=4 then (match s.at x.a with
  | none=>(1,[])
  | some t=>(Qt (s.want x.a 2 true) (if t.r<s.f.regs then 11 else 0),[]))
 else if x.op=5 then (match s.at x.a with
  | none=>(1,[])
  | some t=>if s.want x.a 2 true=0 then (match s.fields x.args with
   | none=>(1,[])
   | some l=>if 4<TT.height (n:=7) (mkT 3 t.r l) then (19,[]) else (0,[TT.at (n:=7) 5 (mkT 3 t.r l)]))
   else (s.want x.a 2 true,[]))
 else if x.op=6 then (match s.at x.a with
  | none=>(1,[])
  | some t=>if s.want x.a 3 true=0 then (match t.2.2[x.k.toNat]? with
   | none=>(9,[])
   | some u=>(0,[u.at 5]))
   else (s.want x.a 3 true,[]))
 else if x.op=7 then (match s.at x.a with
  | none=>(1,[])
  | some t=>if s.want x.a 3 true=0 then (match t.2.2[x.k.toNat]? with
   | none=>(9,[])
   | some u=>(match s.at x.b with
     | none=>(1,[])
     | some v=>if Qam (u.at 5=v) then (0,[]) else (9,[])))
   else (s.want x.a 3 true,[]))
 else if x.op=8 then (match s.at x.a with
  | none=>(1,[])
  | some t=>(Qt (s.want x.a 2 true) (s.want x.b 1 false),[mkT 4 t.r []]))
 else if x.op=9 then (Qt (s.want x.a 4 true) (s.want x.b 1 false),[tInt])
 else if x.op=10 then (Qt (s.want x.a 4 true) (Qt (s.want x.b 1 false) (s.want x.c 1 false)),[])
 else if x.op=11 then (s.want x.a 4 true,[tInt])
 else if x.op=13 then (s.want x.a 1 false,[])
 else (match s.m[x.k.toNat]? with
  | none=>(0,[])
  | some g=>if (x.regs.length:Int)=g.regs then
   (Qt (QX s.H [] x.regs) (s.args x.args g.params x.regs),g.results.map (Qao x.regs))
   else (2,[]))
noncomputable def JSt.code (s:JSt) (x:Qv):Int :=
 if x.form s.m.length≠0 then x.form s.m.length
 else if (s.makes x).1≠0 then (s.makes x).1
 else if 80<s.L.length+(s.makes x).2.length then 2 else 0
noncomputable def JSt.next (s:JSt) (x:Qv):JSt :=
 { s with
  H:=if x.op=3 then s.H++[true] else if x.op=4 then s.H.set (match s.at x.a with | none=>0 | some t=>t.r.toNat) false else s.H
  L:=s.L++(s.makes x).2 }
noncomputable def JSt.ins (s:JSt) (x:Qv):JSt:=if s.code x=0 then s.next x else s
def Qft (n:Nat) (regs:List Int):Int:=if (List.range n).all (fun (i:Nat)=>decide (regs.getD i 0=(i:Int))) then 0 else 11
noncomputable def JSt.to (s:JSt) (t:MTo):Int:=match s.f.blocks[t.block.toNat]? with
 | none=>0
 | some b=>if (t.regs.length:Int)=b.regs then
  Qt (Qft s.f.regs.toNat t.regs) (Qt (hPass s.H [] t.regs) (s.args t.args b.params t.regs))
  else 2
def Qmz (n:Nat):List Int:=(List.range n).map (fun (i:Nat)=>(i:Int))
noncomputable def JSt.fin (s:JSt) (e:Z0):Int :=
 if e.form s.f.blocks.length≠0 then e.form s.f.blocks.length
 else if e.op=1 then s.to e.yes
 else if e.op=2 then Qt (s.want e.a 1 false) (Qt (s.to e.yes) (s.to e.no))
 else Qt (s.args e.args s.f.results (Qmz s.f.regs.toNat)) (if (Qas s.H).all (fun r=>decide (r<s.f.regs)) then 0 else 12)
theorem QbP {s:JSt}{x:Qv}(h:x.op=1\/x.op=12):s.makes x=(0,[tInt]):=by
 unfold JSt.makes;rw[Xs h]
theorem QeK {s:JSt}{x:Qv}(h:x.op=2):s.makes x=(Qt (s.want x.a 1 false) (s.want x.b 1 false),[tInt]):=by
 unfold JSt.makes;rw[Xr (by omega),Xs h]
theorem Qdf {s:JSt}{x:Qv}(h:x.op=3):s.makes x=(if s.H.length=16 then (2,[]) else (0,[mkT 2 s.H.length []])):=by
 unfold JSt.makes;rw[Xr (by omega),Xr (by omega),Xs h]
theorem QdZ {s:JSt}{x:Qv}(h:x.op=4):s.makes x=(match s.at x.a with
 | none=>(1,[])
 | some t=>(Qt (s.want x.a 2 true) (if t.r<s.f.regs then 11 else 0),[])):=by
 unfold JSt.makes;rw[Xr (by omega),Xr (by omega),Xr (by omega),Xs h]
theorem Qc7 {s:JSt}{x:Qv}(h:x.op=5):s.makes x=(match s.at x.a with
 | none=>(1,[])
 | some t=>if s.want x.a 2 true=0 then (match s.fields x.args with
  | none=>(1,[])
  | some l=>if 4<TT.height (n:=7) (mkT 3 t.r l) then (19,[]) else (0,[TT.at (n:=7) 5 (mkT 3 t.r l)]))
  else (s.want x.a 2 true,[])):=by
 unfold JSt.makes;rw[Xr (by omega),Xr (by omega),Xr (by omega),Xr (by omega),Xs h]
theorem QeY {s:JSt}{x:Qv}(h:x.op=6):s.makes x=(match s.at x.a with
 | none=>(1,[])
 | some t=>if s.want x.a 3 true=0 then (match t.2.2[x.k.toNat]? with
  | none=>(9,[])
  | some u=>(0,[u.at 5]))
  else (s.want x.a 3 true,[])):=by
 unfold JSt.makes;rw[Xr (by omega),Xr (by omega),Xr (by omega),Xr (by omega),Xr (by omega),Xs h]
theorem Qfq {s:JSt}{x:Qv}(h:x.op=7):s.makes x=(match s.at x.a with
 | none=>(1,[])
 | some t=>if s.want x.a 3 true=0 then (match t.2.2[x.k.toNat]? with
  | none=>(9,[])
  | some u=>(match s.at x.b with
    | none=>(1,[])
    | some v=>if Qam (u.at 5=v) then (0,[]) else (9,[])))
  else (s.want x.a 3 true,[])):=by
 unfold JSt.makes;rw[Xr (by omega),Xr (by omega),Xr (by omega),Xr (by omega),Xr (by omega),Xr (by omega),Xs h]
theorem QcC {s:JSt}{x:Qv}(h:x.op=8):s.makes x=(match s.at x.a with
 | none=>(1,[])
 | some t=>(Qt (s.want x.a 2 true) (s.want x.b 1 false),[mkT 4 t.r []])):=by
 unfold JSt.makes;rw[Xr (by omega),Xr (by omega),Xr (by omega),Xr (by omega),Xr (by omega),Xr (by omega),Xr (by omega),Xs h]
theorem QdO {s:JSt}{x:Qv}(h:x.op=9):s.makes x=(Qt (s.want x.a 4 true) (s.want x.b 1 false),[tInt]):=by
 unfold JSt.makes;rw[Xr (by omega),Xr (by omega),Xr (by omega),Xr (by omega),Xr (by omega),Xr (by omega),Xr (by omega),Xr (by omega),Xs h]
theorem QcQ {s:JSt}{x:Qv}(h:x.op=10):s.makes x=(Qt (s.want x.a 4 true) (Qt (s.want x.b 1 false) (s.want x.c 1 false)),[]):=by
 unfold JSt.makes;rw[Xr (by omega),Xr (by omega),Xr (by omega),Xr (by omega),Xr (by omega),Xr (by omega),Xr (by omega),Xr (by omega),Xr (by omega),Xs h]
theorem Qfc {s:JSt}{x:Qv}(h:x.op=11):s.makes x=(s.want x.a 4 true,[tInt]):=by
 unfold JSt.makes;rw[Xr (by omega),Xr (by omega),Xr (by omega),Xr (by omega),Xr (by omega),Xr (by omega),Xr (by omega),Xr (by omega),Xr (by omega),Xr (by omega),Xs h]
theorem QeI {s:JSt}{x:Qv}(h:x.op=13):s.makes x=(s.want x.a 1 false,[]):=by
 unfold JSt.makes;rw[Xr (by omega),Xr (by omega),Xr (by omega),Xr (by omega),Xr (by omega),Xr (by omega),Xr (by omega),Xr (by omega),Xr (by omega),Xr (by omega),Xr (by omega),Xs h]
theorem Qd6 {s:JSt}{x:Qv}(h:x.op=14):s.makes x=(match s.m[x.k.toNat]? with
 | none=>(0,[])
 | some g=>if (x.regs.length:Int)=g.regs then
  (Qt (QX s.H [] x.regs) (s.args x.args g.params x.regs),g.results.map (Qao x.regs))
  else (2,[])):=by
 unfold JSt.makes;rw[Xr (by omega),Xr (by omega),Xr (by omega),Xr (by omega),Xr (by omega),Xr (by omega),Xr (by omega),Xr (by omega),Xr (by omega),Xr (by omega),Xr (by omega),Xr (by omega)]
def JSt.start (m:List (MFunc 6)) (f:MFunc 6) (b:MBlock 6):JSt:=⟨m,f,QjK b.regs,b.params⟩
theorem QjT {k r:Int}{len:Nat}{a b:Int}(c:a<=b) (h:ownC k r len a=0):ownC k r len b=0:=by
 unfold ownC at h |-;split at h
 ·cases h
 split at h
 ·cases h
 split at h
 ·cases h
 split at h
 ·cases h
 split at h
 ·cases h
 rename_i f d g e i
 rw[Xr f,Xr d,Xr g,Xr e,Xr (by omega)]
theorem Qd1 {a b:Int}(c:a<=b):{n:Nat}->{t:TT n}->t.fault a=0->t.fault b=0
 | 0,t,_=>Empty.elim t
 | n+1,t,h=>by
   obtain⟨e,d⟩:=TT.fault_zero h
   simp only[TT.fault,QjT c e,ne_eq,not_true_eq_false,if_false]
   exact QP.2 fun x f=>Qd1 c (d x f)
theorem Q0 {t:TT n}{r:Int}:t.check r=0↔t.height<=4/\t.fault r=0:=by
 constructor
 ·exact QcH
 ·intro h;unfold TT.check;rw[Xr (by omega)];exact h.2
theorem Qbe {t:TT n}{a b:Int}(c:a<=b) (h:t.check a=0):t.check b=0:=by
 rw[Q0] at h |-
 exact⟨h.1,Qd1 c h.2⟩
def capT:Nat->Nat
 | 0=>1
 | h+1=>1+8*capT h
theorem sum_le_mul:∀ (l:List Nat) (c:Nat),(∀ x∈l,x<=c)->l.sum<=l.length*c
 | [],_,_=>by simp
 | x::xs,c,h=>by
   have d:=h x (by simp);have b:=sum_le_mul xs c (fun y a=>h y (by simp[a]));simp only[List.sum_cons,List.length_cons,Nat.add_mul]
   omega
theorem QjA {t:TT (n+1)}{r:Int}(h:t.fault r=0):t.2.2.length<=8:=by
 have:=(TT.fault_zero h).1
 unfold ownC at this;split at this
 ·cases this
 split at this
 ·cases this
 split at this
 ·cases this
 split at this
 ·cases this
 omega
theorem QeO {r:Int}:{n:Nat}->{t:TT n}->(h:Nat)->t.height<=h->t.fault r=0->t.count<=capT h
 | 0,t,_,_,_=>Empty.elim t
 | n+1,t,0,hh,hf=>by
   have:=ZB.1 hh
   have e:t.2.2=[]:=by
    cases a:t.2.2 with
    | nil=>rfl
    | cons x l=>have:=this x (by rw[a];simp);omega
   simp only[TT.count,e,capT]
   simp
 | n+1,t,h+1,hh,hf=>by
   have g:=ZB.1 hh;have d:=(TT.fault_zero hf).2
   have i:=sum_le_mul (t.2.2.map TT.count) (capT h) (fun c b=>by
    obtain⟨x,a,rfl⟩:=List.mem_map.1 b
    exact QeO h (by have:=g x a;omega) (d x a))
   have f:=QjA hf;rw[XN] at i
   have j:t.2.2.length*capT h<=8*capT h:=Xp _ f;simp only[TT.count,capT]
   omega
theorem Z7 {t:TT n}{r:Int}(h:t.check r=0):t.count<=4681:=by
 have:=QeO 4 (Q0.1 h).1 (Q0.1 h).2
 have e:capT 4=4681:=rfl;omega
theorem TT.height_lt:{n:Nat}->(t:TT n)->t.height<n
 | 0,t=>Empty.elim t
 | n+1,t=>by
   have:t.height<=n:=ZB.2 fun x a=>by have:=TT.height_lt x;omega
   omega
theorem TT.at_height:{n:Nat}->(k:Nat)->(t:TT n)->t.height<=k->(t.at k).height=t.height
 | 0,_,t,_=>Empty.elim t
 | n+1,0,t,h=>by
   have c:t.height=0:=by omega
   rw[c]
   rfl
 | n+1,k+1,t,h=>by
   have b:=ZB.1 h;show ((t.2.2.map (TT.at k)).map (fun x=>1+TT.height x)).foldl max 0=(t.2.2.map (fun x=>1+TT.height x)).foldl max 0;rw[List.map_map]
   congr 1
   refine List.map_congr_left fun x a=>?_;show 1+(x.at k).height=1+x.height;rw[TT.at_height k x (by have:=b x a;omega)]
theorem TT.at_fault {r:Int}:{n:Nat}->(k:Nat)->(t:TT n)->t.height<=k->(t.at k).fault r=t.fault r
 | 0,_,t,_=>Empty.elim t
 | n+1,0,t,h=>by
   have b:=ZB.1 h
   have e:t.2.2=[]:=by
    cases a:t.2.2 with
    | nil=>rfl
    | cons x l=>have:=b x (by rw[a];simp);omega
   show (if ownC t.1 t.2.1 0 r≠0 then ownC t.1 t.2.1 0 r else QM _ [])=_;simp only[TT.fault,e,List.length_nil,QM]
 | n+1,k+1,t,h=>by
   have b:=ZB.1 h;show (if ownC t.1 t.2.1 (t.2.2.map (TT.at k)).length r≠0 then ownC t.1 t.2.1 (t.2.2.map (TT.at k)).length r else QM (TT.fault r) (t.2.2.map (TT.at k)))=_;rw[XN]
   have:QM (TT.fault r) (t.2.2.map (TT.at k))=QM (TT.fault r) t.2.2:=by
    refine QaZ (by simp) fun i x y a c=>?_;rw[XS,c] at a
    simp only[Option.map_some,Option.some.injEq] at a
    rw[<-a]
    exact TT.at_fault k y (by have:=b y (Zm c);omega)
   rw[this]
   rfl
theorem TT.at_check (k:Nat) (t:TT n) (h:t.height<=k) (r:Int):(t.at k).check r=t.check r:=by
 unfold TT.check;rw[TT.at_height k t h,TT.at_fault k t h]
theorem Qiy {m:Nat}{too:Nat->Int}{a b:Int}(p:a<=m) (d:∀ i,i<m->0<=too i/\too i<b):{n:Nat}->{t:TT n}->t.fault a=0->∃ u,t.ren m too=some u/\u.fault b=0
 | 0,t,_=>Empty.elim t
 | n+1,t,h=>by
   obtain⟨c,v⟩:=TT.fault_zero h
   have k:∃ f,Qay m too t.1 t.2.1=some f/\ownC t.1 f t.2.2.length b=0:=by
    unfold ownC at c;split at c
    ·cases c
    split at c
    ·cases c
    split at c
    ·cases c
    split at c
    ·cases c
    split at c
    ·cases c
    rename_i B F A z L
    by_cases C:t.1=1
    ·refine⟨t.2.1,by rw[Qay,Xs C],?_⟩
     unfold ownC;rw[Xr B,Xr F,Xr A,Xr z,Xr (by omega)]
    ·obtain⟨N,M⟩:=d t.2.1.toNat (by omega)
     refine⟨too t.2.1.toNat,by rw[Qay,Xr C,Xr (by omega),Xr (by omega)],?_⟩
     unfold ownC;rw[Xr B,Xr (by omega),Xr A,Xr z,Xr (by omega)]
   obtain⟨f,G,J⟩:=k
   have D:∃ e,QbW (TT.ren m too) t.2.2=some e/\e.length=t.2.2.length/\∀ x∈e,x.fault b=0:=by
    generalize t.2.2=l at v
    induction l with
    | nil=>exact⟨[],Z,Z,fun x I=>by cases I⟩
    | cons x xs ih =>
      obtain⟨u,H,K⟩:=Qiy p d (v x (by simp))
      obtain⟨E,q,j,r⟩:=ih (fun y g=>v y (by simp[g]))
      refine⟨u::E,by simp[QbW,H,q],by simp[j],fun y g=>?_⟩
      rcases List.mem_cons.1 g with rfl | g
      ·exact K
      ·exact r y g
   obtain⟨e,o,s,w⟩:=D
   refine⟨((t.1,f,e):Int × Int × List (TT n)),by simp only[TT.ren,G,o],?_⟩
   show (if ownC t.1 f e.length b≠0 then ownC t.1 f e.length b else QM (TT.fault b) e)=0;rw[s,J]
   simp only[ne_eq,not_true_eq_false,if_false]
   exact QP.2 w
theorem Qi1 {too:Nat->Int}{a b:Int}(d:a<=m) (c:∀ i,i<m->0<=too i/\too i<b){t:TT n}(h:t.check a=0):∃ u,t.ren m too=some u/\u.check b=0:=by
 obtain⟨u,e,f⟩:=Qiy d c (Q0.1 h).2
 exact⟨u,e,Q0.2 ⟨by rw[TT.ren_height e];exact(Q0.1 h).1,f⟩⟩
structure MBlock.right {n:Nat}(x:MBlock n) (f:MFunc n) (funcs:Nat):Prop where
 regs:f.regs<=x.regs/\x.regs<=16
 params:x.params.length<=8/\∀ t∈x.params,t.check x.regs=0
 code:∀ y∈x.code,y.form funcs=0
 codes:x.code.length<=40
 fin:x.fin.form f.blocks.length=0
structure MFunc.right {n:Nat}(x:MFunc n) (funcs:Nat):Prop where
 regs:0<=x.regs/\x.regs<=6
 params:x.params.length<=8/\∀ t∈x.params,t.check x.regs=0
 results:x.results.length<=8/\∀ t∈x.results,t.check x.regs=0
 many:0<x.blocks.length/\x.blocks.length<=12
 blocks:∀ y∈x.blocks,y.right x funcs
theorem Qcd {regs:Int}{l:List (TT n)}(h:listC regs l=0):l.length<=8/\∀ t∈l,t.check regs=0:=by
 unfold listC at h;split at h
 ·cases h
 ·exact⟨by omega,fun t a=>QP.1 h t a⟩
theorem Qgh {a:Nat}{fn:MFunc n}{x:MBlock n}(h:(MBlock.fault a f fn b x).1=0):x.right fn a:=by
 unfold MBlock.fault at h;split at h
 ·cases h
 rename_i l
 split at h
 ·rename_i c;exact absurd h c
 rename_i c
 split at h
 ·cases h
 split at h
 ·cases h
 rename_i k
 split at h
 ·rename_i d;exact absurd h d
 rename_i d
 split at h
 ·rename_i e;exact absurd h e
 rename_i e
 refine⟨by omega,Qcd (Xq.1 c),fun y g=>?_,by omega,Xq.1 e⟩
 obtain⟨i,j⟩:=List.getElem?_of_mem g
 exact Zy (Xq.1 d) i y j
theorem Qg9 {a:Nat}{x:MFunc n}(h:(MFunc.fault a f x).1=0):x.right a:=by
 unfold MFunc.fault at h;split at h
 ·cases h
 rename_i j
 split at h
 ·rename_i b;exact absurd h b
 rename_i b
 split at h
 ·rename_i c;exact absurd h c
 rename_i c
 split at h
 ·cases h
 rename_i g
 split at h
 ·cases h
 refine⟨by omega,Qcd (Xq.1 b),Qcd (Xq.1 c),by omega,fun y d=>?_⟩
 obtain⟨i,e⟩:=List.getElem?_of_mem d
 exact Qgh (Zy h i y e)
theorem ZC {m:List (MFunc n)}(h:(modFault m).1=0):(0<m.length/\m.length<=8)/\∀ x∈m,x.right m.length:=by
 unfold modFault at h;split at h
 ·cases h
 rename_i c
 refine⟨by omega,fun x a=>?_⟩
 obtain⟨i,b⟩:=List.getElem?_of_mem a
 exact Qg9 (Zy h i x b)
structure JOk (s:JSt):Prop where
 mod:(0<s.m.length/\s.m.length<=8)/\∀ x∈s.m,x.right s.m.length
 tiny:¬ QO s.m
 fn:s.f∈s.m
 regs:s.H.length<=16
 kept:s.f.regs<=s.H.length
 vals:s.L.length<=80
 types:∀ t∈s.L,t.check s.H.length=0
theorem QdE {s:JSt}{k:Int}{t:TT 6}(h:s.at k=some t):t∈s.L/\0<=k/\k<s.L.length/\s.L[k.toNat]?=some t:=by
 unfold JSt.at at h;split at h
 ·cases h
 ·have:=(Zi h).1
  exact⟨Zm h,by omega,by omega,h⟩
theorem Qau {s:JSt}{k a:Int}{b:Bool}(h:s.want k a b=0):∃ t,s.at k=some t/\t.kind=a/\(b=true->hHas s.H t.r=true):=by
 unfold JSt.want at h;split at h
 ·cases h
 ·rename_i t d
  split at h
  ·rename_i f
   split at h
   ·cases h
   ·rename_i c
    refine⟨t,d,f,fun e=>?_⟩
    subst e;simpa using c
  ·cases h
theorem Qba {a b:Int}(h:Qt a b=0):a=0/\b=0:=by
 unfold Qt at h;split at h
 ·exact⟨by assumption,h⟩
 ·contradiction
theorem QaF {s:JSt}:∀ {l:List Int}{ts:List (TT 6)},s.fields l=some ts->ts.length=l.length/\∀ t∈ts,t∈s.L
 | [],ts,h=>by simp[JSt.fields] at h;subst h;simp
 | k::r,ts,h=>by
   simp only[JSt.fields] at h
   cases hk:s.at k with
   | none=>simp[hk] at h
   | some t =>
     simp only[hk] at h
     cases hr:s.fields r with
     | none=>simp[hr] at h
     | some l =>
       simp only[hr,Option.some.injEq] at h
       subst h;obtain⟨b,c⟩:=QaF hr
       refine⟨by simp[b],fun u a=>?_⟩
       rcases List.mem_cons.1 a with rfl | a
       ·exact(QdE hk).1
       ·exact c u a
theorem QaB {H:List Bool}:∀ {l ahead:List Int},QX H ahead l=0->∀ r∈l,hHas H r=true
 | [],_,_,r,a=>by cases a
 | x::l,ahead,h,r,a=>by
   simp only[QX] at h
   split at h
   ·rename_i b
    split at h
    ·cases h
    ·rcases List.mem_cons.1 a with rfl | a
     ·exact b
     ·exact QaB h r a
   ·cases h
theorem Z3 {H:List Bool}{r:Int}(h:hHas H r=true):0<=r/\r<H.length:=by
 obtain⟨k,rfl,a,_⟩:=QbN h
 omega
theorem Q5 {x:Qv}{a:Nat}(h:x.form a=0):((x.op=6\/x.op=7)->0<=x.k/\x.k<=7)/\(x.op=14->0<=x.k/\x.k<a/\x.regs.length<=6/\x.args.length<=8)/\(x.op=5->x.args.length<=8)/\(x.op=1\/x.op=2\/x.op=3\/x.op=4\/x.op=5\/x.op=6\/x.op=7\/x.op=8\/x.op=9\/x.op=10\/x.op=11\/x.op=12\/x.op=13\/x.op=14):=by
 have b:=QkI (QiB h).1;unfold Qv.form at h;split at h
 ·cases h
 split at h
 ·cases h
 split at h
 ·cases h
 split at h
 ·cases h
 split at h
 ·cases h
 split at h
 ·cases h
 split at h
 ·cases h
 refine⟨by omega,by omega,by omega,b⟩
theorem QdB {k r R:Int}(a:k=2\/k=4) (b:0<=r/\r<R):TT.check (n:=6) R (mkT k r [])=0:=by
 refine Q0.2 ⟨by show 0<=4;omega,?_⟩;show (if ownC k r 0 R≠0 then ownC k r 0 R else QM _ [])=0
 have:ownC k r 0 R=0:=by
  unfold ownC;rw[Xr (by omega),Xr (by omega),Xr (by omega),Xr (by omega),Xr (by omega)]
 rw[this];rfl
theorem Qjb (R:Int):tInt.check R=0:=by
 refine Q0.2 ⟨by decide,?_⟩;show (if ownC 1 0 0 R≠0 then ownC 1 0 0 R else QM _ [])=0
 have:ownC 1 0 0 R=0:=by unfold ownC;rw[Xr (by omega),Xr (by omega),Xr (by omega),Xr (by omega),Xr (by omega)]
 rw[this];rfl
theorem Qgl {s:JSt}{x:Qv}(h:JOk s) (U:x.form s.m.length=0) (A:(s.makes x).1=0):∀ t∈(s.makes x).2,t.check (s.next x).H.length=0:=by
 obtain⟨W,X,V,S⟩:=Q5 U
 have I:(s.H.length:Int)<=(s.next x).H.length:=by
  simp only[JSt.next]
  split
  ·simp;omega
  split
  ·simp
  ·exact Int.le_refl _
 intro t f
 have j:∀ {c:Int},s.makes x=(c,[tInt])->t.check (s.next x).H.length=0:=fun {c} e=>by
  rw[e] at f
  have f:=List.mem_singleton.1 f;rw[f];exact Qjb _
 have d:∀ {c:Int},s.makes x=(c,[])->t.check (s.next x).H.length=0:=fun {c} e=>by
  rw[e] at f;cases f
 rcases S with c | c | c | c | c | c | c | c | c | c | c | c | c | c
 ·exact j (QbP (.inl c))
 ·exact j (QeK c)
 ·have e:=Qdf (s:=s) c;by_cases C:s.H.length=16
  ·rw[Xs C] at e;exact d e
  ·rw[Xr C] at e
   rw[e] at f
   have f:=List.mem_singleton.1 f;rw[f]
   refine QdB (.inl Z) ?_;simp only[JSt.next,c,if_true,List.length_append,List.length_singleton]
   omega
 ·have e:=QdZ (s:=s) c
  cases ha:s.at x.a with
  | none=>rw[ha] at e;exact d e
  | some u=>rw[ha] at e;exact d e
 ·have e:=Qc7 (s:=s) c
  cases ha:s.at x.a with
  | none=>rw[ha] at e;exact d e
  | some u =>
    rw[ha] at e
    simp only at e
    by_cases p:s.want x.a 2 true=0
    ·rw[Xs p] at e
     cases hl:s.fields x.args with
     | none=>rw[hl] at e;exact d e
     | some l =>
       rw[hl] at e
       simp only at e
       by_cases C:4<TT.height (n:=7) (mkT 3 u.r l)
       ·rw[Xs C] at e;exact d e
       ·rw[Xr C] at e
        rw[e] at f
        have f:=List.mem_singleton.1 f;rw[f]
        obtain⟨P,q,_,o⟩:=Qau p
        rw[ha] at q
        cases q
        have D:=Z3 (o Z);obtain⟨q1,M⟩:=QaF hl
        rw[TT.at_check 5 _ (by omega)]
        refine Qbe I (Q0.2 ⟨by omega,?_⟩);show (if ownC 3 u.r l.length s.H.length≠0 then ownC 3 u.r l.length s.H.length else QM (TT.fault (s.H.length:Int)) l)=0
        have:ownC 3 u.r l.length s.H.length=0:=by
         have:=V c
         unfold ownC;rw[Xr (by omega),Xr (by omega),Xr (by omega),Xr (by omega),Xr (by omega)]
        rw[this]
        simp only[ne_eq,not_true_eq_false,if_false]
        exact QP.2 fun y L=>(Q0.1 (h.types y (M y L))).2
    ·rw[Xr p] at e;exact d e
 ·have e:=QeY (s:=s) c
  cases ha:s.at x.a with
  | none=>rw[ha] at e;exact d e
  | some u =>
    rw[ha] at e
    simp only at e
    by_cases p:s.want x.a 3 true=0
    ·rw[Xs p] at e
     cases z:u.2.2[x.k.toNat]? with
     | none=>rw[z] at e;exact d e
     | some v =>
       rw[z] at e
       rw[e] at f
       have f:=List.mem_singleton.1 f;rw[f]
       have K:=Q0.1 (h.types u (QdE ha).1);have B:=Zm z;have T:=ZB.1 K.1 v B;have R:=TT.height_lt v;rw[TT.at_check 5 _ (by omega)]
       exact Qbe I (Q0.2 ⟨by omega,(TT.fault_zero K.2).2 v B⟩)
    ·rw[Xr p] at e;exact d e
 ·have e:=Qfq (s:=s) c
  cases ha:s.at x.a with
  | none=>rw[ha] at e;exact d e
  | some u =>
    rw[ha] at e
    simp only at e
    by_cases p:s.want x.a 3 true=0
    ·rw[Xs p] at e
     cases z:u.2.2[x.k.toNat]? with
     | none=>rw[z] at e;exact d e
     | some v =>
       rw[z] at e
       cases hb:s.at x.b with
       | none=>rw[hb] at e;exact d e
       | some w =>
         rw[hb] at e
         simp only at e
         cases hq:Qam (v.at 5=w) with
         | true=>rw[hq] at e;exact d e
         | false=>rw[hq] at e;exact d e
    ·rw[Xr p] at e;exact d e
 ·have e:=QcC (s:=s) c
  cases ha:s.at x.a with
  | none=>rw[ha] at e;exact d e
  | some u =>
    rw[ha] at e
    rw[e] at f A
    have f:=List.mem_singleton.1 f;rw[f]
    obtain⟨p,_⟩:=Qba A
    obtain⟨P,q,_,o⟩:=Qau p
    rw[ha] at q
    cases q
    have D:=Z3 (o Z);exact QdB (.inr Z) (by omega)
 ·exact j (QdO c)
 ·exact d (QcQ c)
 ·exact j (Qfc c)
 ·exact j (QbP (.inr c))
 ·exact d (QeI c)
 ·have e:=Qd6 (s:=s) c
  cases hg:s.m[x.k.toNat]? with
  | none=>rw[hg] at e;exact d e
  | some g =>
    rw[hg] at e
    simp only at e
    by_cases D:(x.regs.length:Int)=g.regs
    ·rw[Xs D] at e
     rw[e] at f A
     obtain⟨E,N⟩:=Qba A
     obtain⟨u,O,rfl⟩:=List.mem_map.1 f
     have J:=h.mod.2 g (Zm hg);have F:=J.results.2 u O
     obtain⟨v,z,G⟩:=Qi1 (m:=x.regs.length) (too:=fun i=>x.regs.getD i 0) (a:=g.regs) (b:=s.H.length) (by omega) (fun i Q=>by
      have A:=QaB E (x.regs.getD i 0) (by simp[List.getD,Q]);exact Z3 A) F
     unfold Qao;rw[z]
     exact Qbe I G
    ·rw[Xr D] at e;exact d e
theorem JOk.next {s:JSt}{x:Qv}(h:JOk s) (a:s.code x=0):JOk (s.next x):=by
 unfold JSt.code at a;split at a
 ·rename_i f;exact absurd a f
 rename_i f
 split at a
 ·rename_i d;exact absurd a d
 rename_i d
 split at a
 ·cases a
 rename_i k
 have i:x.form s.m.length=0:=Xq.1 f;have c:(s.makes x).1=0:=Xq.1 d
 have g:(s.H.length:Int)<=(s.next x).H.length:=by
  simp only[JSt.next]
  split
  ·simp;omega
  split
  ·simp
  ·exact Int.le_refl _
 refine⟨h.mod,h.tiny,h.fn,?_,?_,?_,?_⟩
 ·simp only[JSt.next]
  split
  ·rename_i j
   have:s.H.length≠16:=by
    intro e;rw[Qdf j,Xs e] at c
    cases c
   have:=h.regs
   simp
   omega
  split
  ·simpa using h.regs
  ·exact h.regs
 ·exact Int.le_trans h.kept g
 ·show (s.L++(s.makes x).2).length<=80;rw[List.length_append]
  omega
 ·intro t b;rcases List.mem_append.1 b with b | b
  ·exact Qbe g (h.types t b)
  ·exact Qgl h i c t b
theorem JOk.ins {s:JSt}(h:JOk s) (x:Qv):JOk (s.ins x):=by
 unfold JSt.ins;split
 ·exact h.next (by assumption)
 ·exact h
theorem Qgx {n:Int}(h:0<=n/\n<=16):((QjK n).length:Int)=n:=by
 unfold QjK;rw[List.length_replicate]
 omega
theorem JOk.start {m:List (MFunc 6)}{f:MFunc 6}{b:MBlock 6}(g:(modFault m).1=0) (h:¬ QO m) (d:f∈m) (hb:b∈f.blocks):JOk (JSt.start m f b):=by
 have e:=ZC g;have a:=e.2 f d;have c:=a.blocks b hb;have i:=Qgx (n:=b.regs) (by have:=a.regs;have:=c.regs;omega);have o:=c.regs;have l:=a.regs;have k:=c.params;refine⟨e,h,d,?_,?_,?_,?_⟩
 ·show (QjK b.regs).length<=16;omega
 ·show f.regs<=((QjK b.regs).length:Int);omega
 ·show b.params.length<=80;omega
 ·intro t j;show t.check ((QjK b.regs).length:Int)=0;rw[i]
  exact k.2 t j
theorem QdI {s:JSt}{x:Qv}(a:x.op≠3) (b:x.op≠4):(s.next x).H=s.H:=by
 unfold JSt.next
 simp only[if_neg a,if_neg b]
noncomputable def JSt.upto (s:JSt) (l:List Qv):JSt:=l.foldl (fun s x=>s.next x) s
theorem JSt.upto_snoc (s:JSt) (l:List Qv) (x:Qv):s.upto (l++[x])=(s.upto l).next x:=by unfold JSt.upto;rw[List.foldl_append];rfl
theorem JOk.upto {s:JSt}(b:JOk s){l:List Qv}:∀ {k:Nat},(∀ j y,j<k->l[j]?=some y->(s.upto (l.take j)).code y=0)->k<=l.length->JOk (s.upto (l.take k))
 | 0,_,_=>by simpa[JSt.upto] using b
 | k+1,h,hk=>by
   have a:l[k]?=some (l[k]'(by omega)):=Zg _;have c:=b.upto (k:=k) (fun j y d=>h j y (by omega)) (by omega);rw[XV,a]
   show JOk (s.upto (l.take k++[_]));rw[JSt.upto_snoc]
   exact c.next (h k _ (by omega) a)
structure IFr where
 f:Nat
 b:Nat
 i:Nat
 v:List Qj
 r:List Int
structure IM where
 h:Qd
 top:IFr
 rest:List IFr
 inp:List Int
 out:List Int
 back:List Int
 fuel:Nat
 fin:Int
 done:Bool
def Qz (v:List Qj) (k:Int):Option Qj:=if k<0 then none else v[k.toNat]?
def Qp (v:List Qj):List Int->Option (List Qj)
 | []=>some []
 | k::l=>match Qz v k with
   | none=>none
   | some x=>match Qp v l with
     | none=>none
     | some xs=>some (x::xs)
def QiX (r:List Int) (k:Int):Option Int:=if k<0 then none else r[k.toNat]?
def Zh (r:List Int):List Int->Option (List Int)
 | []=>some []
 | k::l=>match QiX r k with
   | none=>none
   | some x=>match Zh r l with
     | none=>none
     | some xs=>some (x::xs)
def Qu (v:List Qj) (k:Int):Option Int:=match Qz v k with
 | none=>none
 | some x=>if x.kind=1 then some x.n else none
def Qat (v:List Qj):List Int->Option (List Int)
 | []=>some []
 | k::l=>match Qu v k with
   | none=>none
   | some x=>match Qat v l with
     | none=>none
     | some xs=>some (x::xs)
def IM.push (M:IM) (l:List Qj):IM:={ M with top:={ M.top with v:=M.top.v++l } }
def IM.over (M:IM) (e:Int):IM:={ M with done:=true,fin:=e }
def IM.got (M:IM) (g:Qj × Int × Qd):Option IM:=if g.2.1=14 then some (M.over 6) else if g.2.1=0 then some (IM.push ({ M with h:=g.2.2 }) [g.1]) else none
def IM.mem (M:IM) (x:Qv):Option IM:=match Qz M.top.v x.a with
 | none=>none
 | some a =>
   if x.op=4 then (if (M.h.shut a).1 then some { M with h:=(M.h.shut a).2 } else none)
   else if x.op=5 then (match Qp M.top.v x.args with
    | none=>none
    | some l=>M.got (M.h.tuple a l))
   else if x.op=8 then (match Qu M.top.v x.b with
    | none=>none
    | some n=>if n<0\/15<n then some (M.over 3) else M.got (M.h.array a n))
   else if x.op=6 then (if a.kind=3/\(M.h.get a x.k).2=0 then some (M.push [(M.h.get a x.k).1]) else none)
   else if x.op=7 then (match Qz M.top.v x.b with
    | none=>none
    | some y=>if a.kind=3/\(M.h.set a x.k y).1=0 then some { M with h:=(M.h.set a x.k y).2 } else none)
   else if x.op=9 then (match Qu M.top.v x.b with
    | none=>none
    | some n=>if a.kind=4 then (if (M.h.get a n).2=1 then some (M.over 2) else if (M.h.get a n).2=0 then some (M.push [(M.h.get a n).1]) else none) else none)
   else if x.op=10 then (match Qu M.top.v x.b with
    | none=>none
    | some n=>match Qu M.top.v x.c with
      | none=>none
      | some z=>if a.kind=4 then (if (M.h.set a n (Qa9 z)).1=1 then some (M.over 2) else if (M.h.set a n (Qa9 z)).1=0 then some { M with h:=(M.h.set a n (Qa9 z)).2 } else none) else none)
   else (if a.kind=4/\(M.h.len a).2=0 then some (M.push [Qa9 (M.h.len a).1]) else none)
def IM.call (m:List (MFunc 6)) (M:IM) (x:Qv):Option IM:=match Zh M.top.r x.regs with
 | none=>none
 | some r=>match Qp M.top.v x.args with
   | none=>none
   | some v=>match m[x.k.toNat]? with
     | none=>none
     | some g=>if (r.length:Int)=g.regs/\v.length=g.params.length then
      (if M.rest.length+1=40 then some (M.over 5) else some { M with top:=⟨x.k.toNat,0,0,v,r⟩,rest:=M.top::M.rest })
      else none
def IM.ins (m:List (MFunc 6)) (op:Int->Int->Int->Option Int) (M:IM) (x:Qv):Option IM :=
 if x.op=1 then some (M.push [Qa9 x.n])
 else if x.op=2 then (match Qu M.top.v x.a with
  | none=>none
  | some a=>match Qu M.top.v x.b with
    | none=>none
    | some b=>match op x.k a b with
      | none=>some (M.over 1)
      | some n=>some (M.push [Qa9 n]))
 else if x.op=3 then (if M.h.open_.2.1 then some (IM.push { M with h:=M.h.open_.2.2,top:={ M.top with r:=M.top.r++[M.h.open_.1.region] } } [M.h.open_.1]) else some (M.over 6))
 else if x.op=12 then (match M.inp with
  | []=>some (M.over 4)
  | n::l=>some (IM.push { M with inp:=l } [Qa9 n]))
 else if x.op=13 then (match Qu M.top.v x.a with
  | none=>none
  | some n=>if M.out.length=2000 then some (M.over 8) else some { M with out:=M.out++[n] })
 else if x.op=14 then M.call m x
 else M.mem x
def IM.to (fn:MFunc 6) (M:IM) (t:MTo):Option IM:=match fn.blocks[t.block.toNat]? with
 | none=>none
 | some b=>match Zh M.top.r t.regs with
   | none=>none
   | some r=>match Qp M.top.v t.args with
     | none=>none
     | some v=>if (r.length:Int)=b.regs/\v.length=b.params.length then some { M with top:=⟨M.top.f,t.block.toNat,0,v,r⟩ } else none
def IM.endd (fn:MFunc 6) (M:IM) (e:Z0):Option IM :=
 if e.op=1 then M.to fn e.yes
 else if e.op=2 then (match Qu M.top.v e.a with
  | none=>none
  | some n=>if n=0 then M.to fn e.no else M.to fn e.yes)
 else (match Qp M.top.v e.args with
  | none=>none
  | some v=>if v.length=fn.results.length then (match M.rest with
   | d::rest=>some (IM.push { M with top:=d,rest:=rest } v)
   | []=>match Qat M.top.v e.args with
     | none=>none
     | some n=>some (IM.over { M with back:=n } 0))
   else none)
def IM.step (m:List (MFunc 6)) (op:Int->Int->Int->Option Int) (most:Nat) (M:IM):Option IM :=
 if M.fuel=most then some (M.over 7)
 else match m[M.top.f]? with
  | none=>none
  | some fn=>match fn.blocks[M.top.b]? with
    | none=>none
    | some bl=>match bl.code[M.top.i]? with
      | some x=>IM.ins m op { M with fuel:=M.fuel+1,top:={ M.top with i:=M.top.i+1 } } x
      | none=>IM.endd fn { M with fuel:=M.fuel+1 } bl.fin
def IM.start (inp:List Int) (pages:Nat):IM:=⟨Qd.new pages,⟨0,0,0,[],[]⟩,[],inp,[],[],0,0,false⟩
theorem Qd.at_some {h:Qd}{v:Qj}{p:Qi}(e:h.at v=some p):v.kind=2/\h.place v.region=some p/\∃ k:Nat,v.region=k/\h.L[k]?=some p/\p.there=true:=by
 unfold Qd.at at e;split at e
 ·rename_i f
  obtain⟨c,d,b⟩:=Qd.place_some e
  obtain⟨k,a⟩:=Xc c
  exact⟨f,e,k,a,by rwa [a,XT] at d,b⟩
 ·cases e
def Qi.roomed (p:Qi) (words:Int):Qi:=if p.tight words then { p with pages:=p.pages+1,used:=words } else { p with used:=p.used+words }
def Qd.roomLeft (h:Qd) (p:Qi) (words:Int):Nat:=if p.tight words then h.left - 1 else h.left
theorem Qi.roomed_l (p:Qi) (words:Int):(p.roomed words).l=p.l:=by unfold Qi.roomed;split<;>rfl
theorem Qi.roomed_there (p:Qi) (words:Int):(p.roomed words).there=p.there:=by unfold Qi.roomed;split<;>rfl
theorem Qi.more_eq (p:Qi) (t:Qq) (words:Int):p.more t words={ p.roomed words with l:=(p.roomed words).l++[t] }:=by unfold Qi.more Qi.roomed;split<;>rfl
theorem HOk.of {T:Nat}{h:Qd}(K:HOk N T h){v:Qj}{p:Qi}(b:h.at v=some p):p.l.length<=N/\0<=p.used/\p.used<=N/\h.left+p.pages<=T:=by
 obtain⟨_,_,k,_,a,_⟩:=Qd.at_some b
 have:=Qi5 a
 have:=K.pages
 have:=K.used k p a
 exact⟨K.things k p a,this.1,this.2,by omega⟩
theorem Qd.tuple_none {h:Qd}{v:Qj}(l:List Qj) (a:h.at v=none):h.tuple v l=(noV,20,h):=by unfold Qd.tuple Qd.put;rw[a]
theorem Qd.put_full {h:Qd}{v:Qj}{p:Qi}(t:Qq) (words:Int) (b:h.at v=some p) (c:p.tight words=true) (a:h.left=0):h.put v t words=(noV,14,h):=by unfold Qd.put;rw[b];simp[c,a]
theorem Qd.put_ok {h:Qd}{v:Qj}{p:Qi}(t:Qq) (words:Int) (c:h.at v=some p) (a:v.region=k) (b:¬ (p.tight words=true/\h.left=0)) :
 h.put v t words=(⟨t.knd,k,p.l.length,0⟩,0,⟨h.L.set k { p.roomed words with l:=p.l++[t] },h.roomLeft p words⟩):=by
 unfold Qd.put;rw[c]
 simp only
 rw[Xr b,a,XT,Qi.more_eq,Qi.roomed_l]
 rfl
theorem Qd.thing_iff {h:Qd}{v:Qj}{t:Qq}:h.thing v=some t↔(v.kind=3\/v.kind=4)/\∃ p,h.place v.region=some p/\0<=v.thing/\p.l[v.thing.toNat]?=some t/\t.arr=decide (v.kind=4):=by
 unfold Qd.thing;constructor
 ·intro e;split at e
  ·rename_i c
   split at e
   ·cases e
   ·rename_i p d
    split at e
    ·cases e
    ·rename_i f
     split at e
     ·cases e
     ·rename_i u a
      split at e
      ·rename_i b;cases e;exact⟨c,p,d,by omega,a,b⟩
      ·cases e
  ·cases e
 ·rintro ⟨c,p,d,f,a,b⟩;rw[Xs c]
  simp only[d,a]
  rw[Xr (by omega),Xs b]
def Qar (h h':Qd):Prop:=∀ (k:Int) (p:Qi),h.place k=some p->∃ p':Qi,h'.place k=some p'/\∀ (i:Nat) (t:Qq),p.l[i]?=some t->p'.l[i]?=some t
theorem Qar.thing {h h':Qd}(g:Qar h h'){v:Qj}{t:Qq}(e:h.thing v=some t):h'.thing v=some t:=by
 obtain⟨i,p,j,d,b,f⟩:=Qd.thing_iff.1 e
 obtain⟨k,a,c⟩:=g _ p j
 exact Qd.thing_iff.2 ⟨i,k,a,d,c _ t b,f⟩
theorem Qar.at {h h':Qd}(g:Qar h h'){v:Qj}{p:Qi}(e:h.at v=some p):∃ p',h'.at v=some p':=by
 obtain⟨b,c,-⟩:=Qd.at_some e
 obtain⟨p',a,-⟩:=g _ p c
 exact⟨p',by unfold Qd.at;rw[Xs b];exact a⟩
theorem Qar.refl (h:Qd):Qar h h:=fun k p a=>⟨p,a,fun _ _ h=>h⟩
theorem Qar.open (h:Qd):Qar h h.open_.2.2:=by
 intro k p a;unfold Qd.open_;split
 ·exact⟨p,a,fun _ _ h=>h⟩
 ·refine⟨p,?_,fun _ _ h=>h⟩
  rw[Qd.place_push]
  obtain⟨d,b,c⟩:=Qd.place_some a
  have:=(Zi b).1
  rw[Xr (by omega)]
  exact a
theorem Qar.put (h:Qd) (v:Qj) (t:Qq) (words:Int):Qar h (h.put v t words).2.2:=by
 intro k p a;unfold Qd.put
 cases ha:h.at v with
 | none=>exact⟨p,a,fun _ _ h=>h⟩
 | some q =>
   simp only
   split
   ·exact⟨p,a,fun _ _ h=>h⟩
   ·obtain⟨s,o,j,n,c,g⟩:=Qd.at_some ha
    have f:=(Zi c).1;rw[n,XT,Qd.place_set f]
    by_cases e:k=j
    ·rw[Xs e]
     have b:p=q:=by rw[e,<-n,o] at a;exact(Xn a).symm
     subst b;have d:(p.more t words).there=true:=by unfold Qi.more;split<;>exact g
     rw[Xs d]
     refine⟨_,Z,fun i u m=>?_⟩
     have r:(p.more t words).l=p.l++[t]:=by unfold Qi.more;split<;>rfl
     rw[r,XP (Zi m).1]
     exact m
    ·rw[Xr e];exact⟨p,a,fun _ _ h=>h⟩
theorem Qar.tuple (h:Qd) (v:Qj) (l:List Qj):Qar h (h.tuple v l).2.2:=Qar.put h v _ _
theorem Qd.put_code {h:Qd}{v:Qj}{t:Qq}{p:Qi}(a:h.at v=some p):(h.put v t words).2.1=0\/((h.put v t words).2.1=14/\(h.put v t words).2.2=h/\(h.put v t words).1=noV):=by
 by_cases e:p.tight words=true/\h.left=0
 ·rw[Qd.put_full t words a e.1 e.2];exact .inr ⟨Z,Z,Z⟩
 ·obtain⟨g,f,j,c,b,d⟩:=Qd.at_some a
  rw[Qd.put_ok t words a c e];exact .inl Z
def QdA (N:Nat) (h:Qd):Prop:=∀ (k:Nat) (p:Qi) (i:Nat) (t:Qq),h.L[k]?=some p->p.l[i]?=some t->t.l.length<=N
theorem HOk.mono {c T:Nat}{h:Qd}(K:HOk N T h) (b:N<=c):HOk c T h:=⟨Zt K.len b,fun k p a=>Zt (K.things k p a) b,fun k p a=>⟨(K.used k p a).1,by have:=(K.used k p a).2;omega⟩,K.pages⟩
theorem HOk.new (n:Nat):HOk 0 n (Qd.new n):=⟨by simp[Qd.new],fun k p h=>by simp[Qd.new] at h,fun k p h=>by simp[Qd.new] at h,by simp[Qd.new]⟩
theorem Qf1 {l:List Qi}{q p:Qi}(e:(l++[q])[j]?=some p):p=q\/l[j]?=some p:=by
 rcases Nat.lt_or_ge j l.length with h | h
 ·rw[XP h] at e;exact .inr e
 ·rw[XQ h] at e
  have:=(Zi e).1
  have:j - l.length=0:=by simp at this;omega
  rw[this] at e;simp at e;exact .inl e.symm
theorem HOk.open {T:Nat}{h:Qd}(K:HOk N T h):HOk (N+1) T h.open_.2.2:=by
 unfold Qd.open_;split
 ·exact K.mono (Nat.le_succ _)
 ·refine⟨by simp;exact K.len,fun k p a=>?_,fun k p a=>?_,?_⟩
  ·rcases Qf1 a with e | e
   ·subst e;simp[newP]
   ·exact Nat.le_succ_of_le (K.things k p e)
  ·rcases Qf1 a with e | e
   ·subst e;simp[newP];omega
   ·have:=K.used k p e;omega
  ·have:=K.pages;simp[newP];exact this
theorem HOk.shut {T:Nat}{h:Qd}(K:HOk N T h) (v:Qj):HOk N T (h.shut v).2:=by
 unfold Qd.shut
 cases ha:h.at v with
 | none=>exact K
 | some p =>
   obtain⟨l,a,j,c,b,d⟩:=Qd.at_some ha
   simp only[c,Int.toNat_natCast]
   refine⟨by simpa using K.len,fun k q a=>?_,fun k q a=>?_,?_⟩
   ·rcases Qbf a with e | e
    ·subst e;simp[noP]
    ·exact K.things k q e
   ·rcases Qbf a with e | e
    ·subst e;simp[noP]
    ·exact K.used k q e
   ·have g:=sum_set h.L j p noP b;have f:=K.pages;have i:noP.pages=0:=rfl;show h.left+p.pages+((h.L.set j noP).map (·.pages)).sum<=T;omega
theorem HOk.put {T:Nat}{h:Qd}(K:HOk N T h) (v:Qj) (t:Qq){M:Nat}(n:0<=words/\words<=M):HOk (N+M+1) T (h.put v t words).2.2:=by
 cases ha:h.at v with
 | none=>rw[show h.put v t words=(noV,20,h) by unfold Qd.put;rw[ha]];exact K.mono (by omega)
 | some p =>
   obtain⟨s,d,j,f,a,g⟩:=Qd.at_some ha
   by_cases e:p.tight words=true/\h.left=0
   ·rw[Qd.put_full t words ha e.1 e.2];exact K.mono (by omega)
   ·rw[Qd.put_ok t words ha f e]
    have m:=K.used j p a;refine⟨by simp;have:=K.len;omega,fun k q d=>?_,fun k q d=>?_,?_⟩
    ·rcases Qbf d with b | b
     ·subst b;simp;have:=K.things j p a;omega
     ·have:=K.things k q b;omega
    ·rcases Qbf d with b | b
     ·subst b;show 0<=(p.roomed words).used/\(p.roomed words).used<=_;unfold Qi.roomed;split
      ·simp only;omega
      ·simp only;omega
     ·have:=K.used k q b;omega
    ·have c:=sum_set h.L j p { p.roomed words with l:=p.l++[t] } a;have o:=K.pages;have r:=Qi5 a;show h.roomLeft p words+((h.L.set j { p.roomed words with l:=p.l++[t] }).map (·.pages)).sum<=T;have i:({ p.roomed words with l:=p.l++[t] }:Qi).pages=(p.roomed words).pages:=rfl;rw[i] at c
     unfold Qd.roomLeft Qi.roomed at *
     cases htt:p.tight words with
     | true =>
       rw[htt] at c
       simp only[if_true] at c |-
       have:h.left≠0:=fun b=>e ⟨htt,b⟩
       omega
     | false =>
       rw[htt] at c
       simp only[Bool.false_eq_true,if_false] at c |-
       omega
theorem QdA.mono {a:Nat}{h:Qd}(K:QdA N h) (d:N<=a):QdA a h:=fun k p i t c b=>Zt (K k p i t c b) d
theorem QdA.new (N n:Nat):QdA N (Qd.new n):=fun k p i t h=>by simp[Qd.new] at h
theorem QdA.open {h:Qd}(K:QdA N h):QdA N h.open_.2.2:=by
 unfold Qd.open_;split
 ·exact K
 ·intro k p i t b a;rcases Qf1 b with e | e
  ·subst e;simp[newP] at a
  ·exact K k p i t e a
theorem QdA.shut {h:Qd}(K:QdA N h) (v:Qj):QdA N (h.shut v).2:=by
 unfold Qd.shut
 cases ha:h.at v with
 | none=>exact K
 | some q =>
   intro k p i t b a;rcases Qbf b with e | e
   ·subst e;simp[noP] at a
   ·exact K k p i t e a
theorem QdA.put {h:Qd}(K:QdA N h) (v:Qj) (t:Qq) (words:Int) (n:t.l.length<=N):QdA N (h.put v t words).2.2:=by
 cases ha:h.at v with
 | none=>rw[show h.put v t words=(noV,20,h) by unfold Qd.put;rw[ha]];exact K
 | some p =>
   obtain⟨o,f,j,g,b,m⟩:=Qd.at_some ha
   by_cases e:p.tight words=true/\h.left=0
   ·rw[Qd.put_full t words ha e.1 e.2];exact K
   ·rw[Qd.put_ok t words ha g e]
    intro k q i u f a;rcases Qbf f with d | d
    ·subst d;simp only at a
     rcases Nat.lt_or_ge i p.l.length with c | c
     ·rw[XP c] at a;exact K j p i u b a
     ·rw[XQ c] at a
      have:=(Zi a).1
      have:i - p.l.length=0:=by simp at this;omega
      rw[this] at a;simp at a;subst a;exact n
    ·exact K k q i u d a
theorem QdA.thing {h:Qd}(K:QdA N h){v:Qj}{t:Qq}(e:h.thing v=some t):t.l.length<=N:=by
 obtain⟨-,p,a,-,b,-⟩:=Qd.thing_iff.1 e
 exact K _ p _ t (Qd.place_some a).2.1 b
theorem Qk1 {h:Qd}(a:h.live<=16):h.open_.2.2.live<=16:=by
 unfold Qd.open_;split
 ·exact a
 ·rw[Qd.live_push];omega
theorem QgG {h:Qd}(v:Qj) (t:Qq) (words:Int):(h.put v t words).2.2.live=h.live:=by
 cases ha:h.at v with
 | none=>rw[show h.put v t words=(noV,20,h) by unfold Qd.put;rw[ha]]
 | some p =>
   obtain⟨i,g,j,d,b,a⟩:=Qd.at_some ha
   by_cases e:p.tight words=true/\h.left=0
   ·rw[Qd.put_full t words ha e.1 e.2]
   ·rw[Qd.put_ok t words ha d e]
    have c:=Qd.live_set (h:=h) (q:={ p.roomed words with l:=p.l++[t] }) b (h.roomLeft p words);have f:({ p.roomed words with l:=p.l++[t] }:Qi).there=true:=by show (p.roomed words).there=true;rw[Qi.roomed_there];exact a
    rw[a,f] at c
    simpa using c
def Qd.up (k:Nat) (h:Qd):Qd:=⟨h.L,h.left+k⟩
def IM.up (k:Nat) (M:IM):IM:={ M with h:=M.h.up k }
def UpO (k:Nat) (o o':Option IM):Prop:=match o with
 | none=>o'=none
 | some N=>(N.done=true/\N.fin=6)\/o'=some (N.up k)
section
variable {k:Nat}{h:Qd}{v y:Qj}{M N:IM}{o o':Option IM}{m:List (MFunc 6)}{op:Int->Int->Int->Option Int}{x:Qv}{fn:MFunc 6}
theorem UpO.eq:UpO k (some N) (some (N.up k)):=.inr Z
theorem UpO.full:UpO k (some (M.over 6)) o':=.inl ⟨Z,Z⟩
theorem UpO.ite {c:Prop}[Decidable c] {a a' b e:Option IM}(g:c->UpO k a a') (f:¬ c->UpO k b e):UpO k (if c then a else b) (if c then a' else e):=by
 by_cases d:c
 ·rw[Xs d,Xs d];exact g d
 ·rw[Xr d,Xr d];exact f d
theorem Qmm {i:Int}:(h.up k).set v i y=((h.set v i y).1,(h.set v i y).2.up k):=by
 unfold Qd.set;have a:(h.up k).thing v=h.thing v:=rfl;have b:(h.up k).place v.region=h.place v.region:=rfl;rw[a,b]
 cases h.thing v with
 | none=>rfl
 | some t=>cases h.place v.region with
   | none=>rfl
   | some p =>
     simp only
     split
     ·rfl
     ·split
      ·rfl
      ·rfl
theorem open_up:(h.up k).open_=(h.open_.1,h.open_.2.1,h.open_.2.2.up k):=by
 unfold Qd.open_;have e:(h.up k).live=h.live:=rfl;rw[e]
 split<;>rfl
theorem shut_up:(h.up k).shut v=((h.shut v).1,(h.shut v).2.up k):=by
 unfold Qd.shut;have e:(h.up k).at v=h.at v:=rfl;rw[e]
 cases h.at v with
 | none=>rfl
 | some p =>
   show (true,(⟨h.L.set v.region.toNat noP,h.left+k+p.pages⟩:Qd))=(true,⟨h.L.set v.region.toNat noP,h.left+p.pages+k⟩);rw[Nat.add_right_comm]
theorem Qmp {t:Qq}(hn:(h.put v t words).2.1≠14):(h.up k).put v t words=((h.put v t words).1,(h.put v t words).2.1,(h.put v t words).2.2.up k):=by
 unfold Qd.put at hn |-;have e:(h.up k).at v=h.at v:=rfl;rw[e]
 cases ha:h.at v with
 | none=>rfl
 | some p =>
   rw[ha] at hn
   simp only at hn |-
   by_cases b:p.tight words=true/\h.left=0
   ·rw[Xs b] at hn;exact absurd Z hn
   ·have c:¬ (p.tight words=true/\(h.up k).left=0):=fun e=>b ⟨e.1,by have:h.left+k=0:=e.2;omega⟩;rw[Xr b,Xr c]
    have:(if p.tight words=true then (h.up k).left - 1 else (h.up k).left)=(if p.tight words=true then h.left - 1 else h.left)+k:=by
     show (if p.tight words=true then h.left+k - 1 else h.left+k)=_;by_cases a:p.tight words=true
     ·rw[Xs a,Xs a];have:h.left≠0:=fun e=>b ⟨a,e⟩;omega
     ·rw[Xr a,Xr a]
    rw[this]
    rfl
theorem QkU {t:Qq}:UpO k (M.got (M.h.put v t words)) ((M.up k).got ((M.h.up k).put v t words)):=by
 by_cases a:(M.h.put v t words).2.1=14
 ·unfold IM.got;rw[Xs a]
  exact UpO.full
 ·rw[Qmp a]
  unfold IM.got;simp only
  rw[Xr a,Xr a]
  exact UpO.ite (fun _=>UpO.eq) (fun _=>rfl)
theorem Qkh {l:List Qj}:UpO k (M.got (M.h.tuple v l)) ((M.up k).got ((M.h.up k).tuple v l)):=QkU
theorem QkG {n:Int}:UpO k (M.got (M.h.array v n)) ((M.up k).got ((M.h.up k).array v n)):=by
 unfold Qd.array;by_cases a:n<0\/15<n
 ·rw[Xs a,Xs a]
  rfl
 ·rw[Xr a,Xr a];exact QkU
theorem mem_up:UpO k (M.mem x) ((M.up k).mem x):=by
 unfold IM.mem;have f:(M.up k).top=M.top:=rfl;have g:(M.up k).h=M.h.up k:=rfl;have d:∀ a i,(M.h.up k).get a i=M.h.get a i:=fun _ _=>rfl;have e:∀ a,(M.h.up k).len a=M.h.len a:=fun _=>rfl;rw[f,g]
 cases Qz M.top.v x.a with
 | none=>rfl
 | some a =>
   simp only[d,e,shut_up,Qmm]
   refine UpO.ite (fun _=>UpO.ite (fun _=>UpO.eq) (fun _=>rfl)) fun _=>UpO.ite (fun _=>?_) fun _=>UpO.ite (fun _=>?_) fun _=>UpO.ite (fun _=>UpO.ite (fun _=>UpO.eq) (fun _=>rfl)) fun _=>UpO.ite (fun _=>?_) fun _=>UpO.ite (fun _=>?_) fun _=>UpO.ite (fun _=>?_) fun _=>UpO.ite (fun _=>UpO.eq) (fun _=>rfl)
   ·cases Qp M.top.v x.args with
    | none=>rfl
    | some l=>exact Qkh
   ·cases Qu M.top.v x.b with
    | none=>rfl
    | some n=>exact UpO.ite (fun _=>UpO.eq) (fun _=>QkG)
   ·cases Qz M.top.v x.b with
    | none=>rfl
    | some y=>exact UpO.ite (fun _=>UpO.eq) (fun _=>rfl)
   ·cases Qu M.top.v x.b with
    | none=>rfl
    | some n=>exact UpO.ite (fun _=>UpO.ite (fun _=>UpO.eq) fun _=>UpO.ite (fun _=>UpO.eq) (fun _=>rfl)) (fun _=>rfl)
   ·cases Qu M.top.v x.b with
    | none=>rfl
    | some n=>cases Qu M.top.v x.c with
      | none=>rfl
      | some z=>exact UpO.ite (fun _=>UpO.ite (fun _=>UpO.eq) fun _=>UpO.ite (fun _=>UpO.eq) (fun _=>rfl)) (fun _=>rfl)
theorem call_up:UpO k (M.call m x) ((M.up k).call m x):=by
 unfold IM.call;have a:(M.up k).top=M.top:=rfl;rw[a]
 cases Zh M.top.r x.regs with
 | none=>rfl
 | some r=>cases Qp M.top.v x.args with
   | none=>rfl
   | some v=>cases m[x.k.toNat]? with
     | none=>rfl
     | some g=>exact UpO.ite (fun _=>UpO.ite (fun _=>UpO.eq) (fun _=>UpO.eq)) (fun _=>rfl)
theorem ins_up:UpO k (IM.ins m op M x) (IM.ins m op (M.up k) x):=by
 unfold IM.ins;have e:(M.up k).top=M.top:=rfl;have d:(M.up k).h=M.h.up k:=rfl;have c:(M.up k).inp=M.inp:=rfl;simp only[e,d,c,open_up]
 refine UpO.ite (fun _=>UpO.eq) fun _=>UpO.ite (fun _=>?_) fun _=>UpO.ite (fun _=>UpO.ite (fun _=>UpO.eq) (fun _=>UpO.full)) fun _=>UpO.ite (fun _=>?_) fun _=>UpO.ite (fun _=>?_) fun _=>UpO.ite (fun _=>call_up) (fun _=>mem_up)
 ·cases Qu M.top.v x.a with
  | none=>rfl
  | some a=>cases Qu M.top.v x.b with
    | none=>rfl
    | some b =>
      simp only
      cases op x.k a b with
      | none=>exact UpO.eq
      | some n=>exact UpO.eq
 ·cases M.inp with
  | nil=>exact UpO.eq
  | cons n l=>exact UpO.eq
 ·cases Qu M.top.v x.a with
  | none=>rfl
  | some n=>exact UpO.ite (fun _=>UpO.eq) (fun _=>UpO.eq)
theorem QlU {t:MTo}:UpO k (IM.to fn M t) (IM.to fn (M.up k) t):=by
 unfold IM.to;have a:(M.up k).top=M.top:=rfl;rw[a]
 cases fn.blocks[t.block.toNat]? with
 | none=>rfl
 | some b=>cases Zh M.top.r t.regs with
   | none=>rfl
   | some r=>cases Qp M.top.v t.args with
     | none=>rfl
     | some v=>exact UpO.ite (fun _=>UpO.eq) (fun _=>rfl)
theorem QlR {e:Z0}:UpO k (IM.endd fn M e) (IM.endd fn (M.up k) e):=by
 unfold IM.endd;have c:(M.up k).top=M.top:=rfl;have b:(M.up k).rest=M.rest:=rfl;simp only[c,b]
 refine UpO.ite (fun _=>QlU) fun _=>UpO.ite (fun _=>?_) fun _=>?_
 ·cases Qu M.top.v e.a with
  | none=>rfl
  | some n=>exact UpO.ite (fun _=>QlU) (fun _=>QlU)
 ·cases Qp M.top.v e.args with
  | none=>rfl
  | some v =>
    refine UpO.ite (fun _=>?_) (fun _=>rfl)
    cases M.rest with
    | cons d rest=>exact UpO.eq
    | nil=>cases Qat M.top.v e.args with
      | none=>rfl
      | some n=>exact UpO.eq
theorem Qle {a:Nat}(g:M.fuel<most) (e:most<=a):UpO k (IM.step m op most M) (IM.step m op a (M.up k)):=by
 unfold IM.step;have c:(M.up k).fuel=M.fuel:=rfl;have d:(M.up k).top=M.top:=rfl;rw[c,d,Xr (by omega),Xr (by omega)]
 cases m[M.top.f]? with
 | none=>rfl
 | some fn =>
   simp only
   cases fn.blocks[M.top.b]? with
   | none=>rfl
   | some bl =>
     simp only
     cases bl.code[M.top.i]? with
     | none=>exact QlR
     | some x=>exact ins_up
end
theorem QeN {a:Nat->Int}{t u:TT (n+1)}(h:t.ren m a=some u):u.1=t.1/\Qay m a t.1 t.2.1=some u.2.1/\QbW (TT.ren m a) t.2.2=some u.2.2:=by
 simp only[TT.ren] at h
 cases e1:Qay m a t.1 t.2.1 with
 | none=>simp[e1] at h
 | some r1 =>
   simp only[e1] at h
   cases e2:QbW (TT.ren m a) t.2.2 with
   | none=>simp[e2] at h
   | some l1 =>
     simp only[e2] at h
     have h:=Xn h;subst h;exact⟨Z,Z,Z⟩
structure Qhh (k m:Nat) (th bk on both:Nat->Int):Prop where
 hk:k<16
 hth:∀ j,j<16->th j=((j+k)%16:Nat)
 hbk:∀ j,j<16->bk ((j+k)%16)=(j:Int)
 hon:∀ j,j<16->on j=((j*3+m)%16:Nat)
 hboth:∀ j,j<16->both j=on ((j+k)%16)
section
theorem Qcy {d:Nat->Int}(f:∀ j,j<16->0<=d j){x r c:Int}:Qay 16 d x r=some c↔(x=1/\c=r)\/(x≠1/\∃ j:Nat,j<16/\r=j/\c=d j):=by
 unfold Qay;by_cases a:x=1
 ·simp[a,eq_comm]
 ·rw[Xr a]
  by_cases e:r<0\/((16:Nat):Int)<=r
  ·rw[Xs e]
   constructor
   ·intro h;cases h
   ·rintro (⟨h,_⟩|⟨_,j,b,rfl,_⟩)
    ·exact absurd h a
    ·omega
  ·rw[Xr e]
   obtain⟨j,rfl⟩:=Xc (show 0<=r by omega)
   have b:j<16:=by omega
   have g:((j:Int)).toNat=j:=by simp
   rw[g,Xr (by have:=f j b;omega)]
   constructor
   ·intro h;cases h;exact Or.inr ⟨a,j,b,Z,Z⟩
   ·rintro (⟨h,_⟩|⟨_,i,l,k,rfl⟩)
    ·exact absurd h a
    ·have:i=j:=by omega
     rw[this]
theorem Qmi (k j:Nat):(j+k)%16<16:=Nat.mod_lt _ (by omega)
end
theorem Qhh.pos {e d on a:Nat->Int}(N:Qhh k m e d on a):(∀ j,j<16->0<=e j)/\(∀ j,j<16->0<=d j)/\(∀ j,j<16->0<=on j)/\(∀ j,j<16->0<=a j):=by
 have c:∀ j,j<16->0<=on j:=fun j b=>by rw[N.hon j b];omega
 refine⟨fun j b=>by rw[N.hth j b];omega,fun j b=>?_,c,fun j b=>by rw[N.hboth j b];exact c _ (Qmi k j)⟩
 have f:=N.hk
 have:((j+16 - k)%16+k)%16=j:=by omega
 rw[<-this,N.hbk ((j+16 - k)%16) (Nat.mod_lt _ (by omega))]
 omega
theorem Qhh.own {b f on a:Nat->Int}(N:Qhh k m b f on a) (x r c:Int) (len:Nat) (h:Qay 16 b x r=some c):ownC x c len 16=ownC x r len 16:=by
 rw[Qcy N.pos.1] at h
 rcases h with ⟨d,rfl⟩|⟨d,j,e,rfl,rfl⟩
 ·rfl
 ·have i:=N.hth j e;have l:=Qmi k j;unfold ownC
  have g:(x≠1/\(b j<0\/(16:Int)<=b j))↔(x≠1/\((j:Int)<0\/(16:Int)<=(j:Int))):=by
   constructor<;>rintro ⟨_,h⟩<;>omega
  simp only[g,d,false_and]
theorem Qhh.none {e l on b:Nat->Int}(N:Qhh k m e l on b){t:TT n}(h:t.ren 16 e=none):t.check 16≠0:=by
 intro d
 have o:t.fault 16=0:=by
  unfold TT.check at d;split at d
  ·cases d
  ·exact d
 obtain⟨u,f⟩:=TT.ren_some (m:=16) (too:=e) (fun x r=>x=1\/(0<=r/\r<16)) (fun x r q=>by
  rcases q with a | ⟨a,g⟩
  ·exact⟨r,(Qcy N.pos.1).2 (Or.inl ⟨a,Z⟩)⟩
  ·by_cases c:x=1
   ·exact⟨r,(Qcy N.pos.1).2 (Or.inl ⟨c,Z⟩)⟩
   ·obtain⟨j,rfl⟩:=Xc a
    exact⟨e j,(Qcy N.pos.1).2 (Or.inr ⟨c,j,by omega,Z,Z⟩)⟩) (fun t=>t.fault 16=0) (fun t p=>by
   obtain⟨a,g⟩:=TT.fault_zero p
   refine⟨?_,g⟩
   unfold ownC at a;by_cases c:t.1=1
   ·exact Or.inl c
   ·right
    repeat' split at a
    all_goals first | omega | skip
    all_goals rename_i i
    all_goals simp only[ne_eq,c,not_false_eq_true,true_and] at i
    all_goals omega) t o
 rw[h] at f
 cases f
abbrev Sig:=Int->Nat->Option (TT 6)
def Qe2 (s:Sig) (x:Qj) (t:TT 6):Prop :=
 (t.kind=1/\x.kind=1)\/(t.kind=2/\x.kind=2/\x.region=t.r)\/((t.kind=3\/t.kind=4)/\x.kind=t.kind/\x.region=t.r/\0<=x.thing/\s x.region x.thing.toNat=some t)
def Sig.le (s s':Sig):Prop:=∀ k i t,s k i=some t->s' k i=some t
theorem Qe2.mono {s b:Sig}(h:s.le b){x:Qj}{t:TT 6}(f:Qe2 s x t):Qe2 b x t:=by
 rcases f with a | a | ⟨a,c,g,d,e⟩
 ·exact .inl a
 ·exact .inr (.inl a)
 ·exact .inr (.inr ⟨a,c,g,d,h _ _ _ e⟩)
def QbS (s:Sig) (t:Qq) (u:TT 6):Prop :=
 (t.arr=true/\u.kind=4/\∀ (y:Qj),y∈t.l->y.kind=1) \/
 (t.arr=false/\u.kind=3/\t.l.length=u.2.2.length/\∀ (j:Nat) (y:Qj) (w:TT 5),t.l[j]?=some y->u.2.2[j]?=some w->Qe2 s y (w.at 5))
theorem QbS.mono {s b:Sig}(h:s.le b){t:Qq}{u:TT 6}(g:QbS s t u):QbS b t u:=by
 rcases g with a | ⟨a,e,i,f⟩
 ·exact .inl a
 ·exact .inr ⟨a,e,i,fun j y w c d=>(f j y w c d).mono h⟩
structure StT (s:Sig) (h:Qd):Prop where
 thing:∀ (k:Int) (p:Qi) (i:Nat) (t:Qq),h.place k=some p->p.l[i]?=some t->∃ u,s k i=some u/\u.r=k/\QbS s t u
 there:∀ (k:Int) (p:Qi) (i:Nat) (u:TT 6),h.place k=some p->s k i=some u->∃ t,p.l[i]?=some t
 range:∀ (k:Int) (i:Nat) (u:TT 6),s k i=some u->0<=k/\k<h.L.length
theorem StT.new (n:Nat):StT (fun _ _=>none) (Qd.new n):=⟨fun k p i t a=>by unfold Qd.place at a;simp[Qd.new] at a,fun k p i u a h=>(nomatch h),fun k i u h=>(nomatch h)⟩
theorem StT.open {s:Sig}{h:Qd}(S:StT s h):StT s h.open_.2.2:=by
 unfold Qd.open_;split
 ·exact S
 ·have f:=fun j=>Qd.place_push h newP j h.left;refine⟨fun k p i t a d=>?_,fun k p i u a b=>?_,fun k i u b=>?_⟩
  ·rw[f] at a
   by_cases e:k=h.L.length
   ·rw[Xs e] at a
    have c:some newP=some p:=a
    cases c;simp[newP] at d
   ·rw[Xr e] at a;exact S.thing k p i t a d
  ·rw[f] at a
   by_cases e:k=h.L.length
   ·have:=S.range k i u b;omega
   ·rw[Xr e] at a;exact S.there k p i u a b
  ·have:=S.range k i u b
   simp;omega
theorem StT.shut {s:Sig}{h:Qd}(S:StT s h) (v:Qj):StT s (h.shut v).2:=by
 unfold Qd.shut
 cases ha:h.at v with
 | none=>exact S
 | some p =>
   obtain⟨o,n,j,g,c,m⟩:=Qd.at_some ha
   have d:=(Zi c).1;simp only[g,Int.toNat_natCast]
   have f:=fun k=>Qd.place_set d noP (h.left+p.pages) k;refine⟨fun k q i t a l=>?_,fun k q i u a b=>?_,fun k i u b=>?_⟩
   ·rw[f] at a
    by_cases e:k=j
    ·rw[Xs e] at a;simp[noP] at a
    ·rw[Xr e] at a;exact S.thing k q i t a l
   ·rw[f] at a
    by_cases e:k=j
    ·rw[Xs e] at a;simp[noP] at a
    ·rw[Xr e] at a;exact S.there k q i u a b
   ·have:=S.range k i u b;simp;omega
def Sig.add (s:Sig) (k:Int) (i:Nat) (u:TT 6):Sig:=fun k' i'=>if k'=k/\i'=i then some u else s k' i'
theorem Sig.add_le {s:Sig}{k:Int}{u:TT 6}(h:s k i=none):s.le (s.add k i u):=fun c b t a=>by
 unfold Sig.add;rw[Xr (fun e=>by rw[e.1,e.2,h] at a;cases a)];exact a
theorem StT.put {s:Sig}{h:Qd}(S:StT s h){v:Qj}{t:Qq}{p:Qi}{u:TT 6}(I:h.at v=some p) (F:u.r=v.region) (L:QbS s t u) :
 (∃ s',s.le s'/\StT s' (h.put v t words).2.2/\((h.put v t words).2.1=0->Qe2 s' (h.put v t words).1 u)):=by
 obtain⟨O,z,j,b,D,B⟩:=Qd.at_some I
 have A:=(Zi D).1;by_cases e:p.tight words=true/\h.left=0
 ·rw[Qd.put_full t words I e.1 e.2]
  exact⟨s,fun _ _ _ h=>h,S,fun h=>by cases h⟩
 ·rw[Qd.put_ok t words I b e]
  have n:s v.region p.l.length=none:=by
   cases hs:s v.region p.l.length with
   | none=>rfl
   | some w =>
     obtain⟨y,g⟩:=S.there _ p _ w z hs
     have:=(Zi g).1
     omega
  have le:=Sig.add_le (u:=u) n;have M:=fun k=>Qd.place_set A { p.roomed words with l:=p.l++[t] } (h.roomLeft p words) k;have K:(p.roomed words).there=true:=by rw[Qi.roomed_there];exact B
  refine⟨s.add v.region p.l.length u,le,⟨fun k q i y a f=>?_,fun k q i w a d=>?_,fun k i w d=>?_⟩,fun _=>?_⟩
  ·rw[M] at a
   by_cases c:k=j
   ·rw[Xs c] at a
    simp only[K,if_true,Option.some.injEq] at a
    subst a;simp only at f
    rcases Nat.lt_or_ge i p.l.length with G | G
    ·rw[XP G] at f
     obtain⟨w,J,C,E⟩:=S.thing k p i y (by rw[c,<-b];exact z) f
     exact⟨w,le _ _ _ J,C,E.mono le⟩
    ·rw[XQ G] at f
     have:=(Zi f).1
     have N:i - p.l.length=0:=by simp at this;omega
     rw[N] at f;simp at f;subst f
     refine⟨u,?_,by rw[F,b,c],L.mono le⟩
     unfold Sig.add;rw[Xs ⟨by rw[b,c],by omega⟩]
   ·rw[Xr c] at a
    obtain⟨w,J,C,E⟩:=S.thing k q i y a f
    exact⟨w,le _ _ _ J,C,E.mono le⟩
  ·rw[M] at a
   unfold Sig.add at d;by_cases c:k=j
   ·rw[Xs c] at a
    simp only[K,if_true,Option.some.injEq] at a
    subst a;by_cases o:k=v.region/\i=p.l.length
    ·exact⟨t,by simp[o.2]⟩
    ·rw[Xr o] at d
     obtain⟨y,g⟩:=S.there k p i w (by rw[c,<-b];exact z) d
     exact⟨y,by rw[XP (Zi g).1];exact g⟩
   ·rw[Xr (fun e=>c (by rw[e.1,b]))] at d
    rw[Xr c] at a
    exact S.there k q i w a d
  ·unfold Sig.add at d;by_cases o:k=v.region/\i=p.l.length
   ·rw[o.1,b];simp;omega
   ·rw[Xr o] at d
    have:=S.range k i w d;simp;omega
  ·have m:s.add v.region p.l.length u (j:Int) p.l.length=some u:=by unfold Sig.add;rw[Xs ⟨b.symm,Z⟩]
   rcases L with ⟨H,x,-⟩|⟨H,x,-⟩
   ·exact .inr (.inr ⟨.inr x,by rw[x];unfold Qq.knd;rw[H];rfl,by rw[F,b],by simp,by simpa using m⟩)
   ·exact .inr (.inr ⟨.inl x,by rw[x];unfold Qq.knd;rw[H];rfl,by rw[F,b],by simp,by simpa using m⟩)
theorem Qe2.thing {s:Sig}{h:Qd}(S:StT s h){x:Qj}{u:TT 6}(m:Qe2 s x u) (o:u.kind=3\/u.kind=4){p:Qi}(k:h.place u.r=some p):∃ t,h.thing x=some t/\QbS s t u/\x.kind=u.kind:=by
 rcases m with ⟨f,-⟩|⟨f,-⟩|⟨f,b,j,n,e⟩
 ·omega
 ·omega
 ·have a:h.place x.region=some p:=by rw[j];exact k
  obtain⟨t,g⟩:=S.there _ p _ u a e
  obtain⟨w,l,q,i⟩:=S.thing _ p _ t a g
  rw[e] at l;cases l
  refine⟨t,Qd.thing_iff.2 ⟨by rw[b];exact o,p,by rw[j];exact k,n,g,?_⟩,i,b⟩
  rcases i with ⟨c,d,-⟩|⟨c,d,-⟩
  ·rw[c,b,d];rfl
  ·rw[c,b,d];rfl
theorem StT.set {s:Sig}{h:Qd}(S:StT s h){v x:Qj}{t:Qq}{u:TT 6}(H:h.thing v=some t) (T:QbS s t u) (E:s v.region v.thing.toNat=some u) (J:t.arr=true->x.kind=1) (V:t.arr=false->∀ w,u.2.2[k]?=some w->Qe2 s x (w.at 5)) (W:k<t.l.length) :
 (h.set v (k:Int) x).1=0/\StT s (h.set v (k:Int) x).2:=by
 obtain⟨P,p,m,h0,G,R⟩:=Qd.thing_iff.1 H
 obtain⟨X,U,F⟩:=Qd.place_some m
 have o:=(Zi U).1
 have e:h.set v (k:Int) x=(0,{ h with L:=h.L.set v.region.toNat { p with l:=p.l.set v.thing.toNat { t with l:=t.l.set k x } } }):=by
  unfold Qd.set;rw[H,m]
  simp only
  rw[Xr (fun e=>e.2 (J e.1)),Xr (by omega),XT]
 rw[e]
 refine⟨Z,?_⟩
 have a:((v.region.toNat:Nat):Int)=v.region:=by omega
 have K:=fun j=>Qd.place_set o { p with l:=p.l.set v.thing.toNat { t with l:=t.l.set k x } } h.left j
 have r:QbS s { t with l:=t.l.set k x } u:=by
  rcases T with ⟨n,C,B⟩|⟨n,C,B,Q⟩
  ·refine .inl ⟨n,C,fun y f=>?_⟩;rcases List.mem_or_eq_of_mem_set f with z | z
   ·exact B y z
   ·rw[z];exact J n
  ·refine .inr ⟨n,C,by simpa using B,fun j y w f g=>?_⟩;simp only at f
   by_cases d:j=k
   ·subst d;simp[W] at f
    subst f;exact V n w g
   ·rw[List.getElem?_set_ne (Ne.symm d)] at f
    exact Q j y w f g
 refine⟨fun j q i D b c=>?_,fun j q i w b g=>?_,fun j i w g=>?_⟩
 ·rw[K] at b
  by_cases d:j=v.region.toNat
  ·rw[Xs d] at b
   simp only[F,if_true,Option.some.injEq] at b
   subst b;simp only at c
   by_cases I:i=v.thing.toNat
   ·subst I
    have:=(Zi G).1
    simp[this] at c
    subst c;obtain⟨w,M,O,-⟩:=S.thing v.region p _ t m G
    rw[E] at M;cases M
    exact⟨u,by rw[d,a];exact E,by rw[d,a];exact O,r⟩
   ·rw[List.getElem?_set_ne (Ne.symm I)] at c
    exact S.thing j p i D (by rw[d,a];exact m) c
  ·rw[Xr d] at b;exact S.thing j q i D b c
 ·rw[K] at b
  by_cases d:j=v.region.toNat
  ·rw[Xs d] at b
   simp only[F,if_true,Option.some.injEq] at b
   subst b;obtain⟨D,A⟩:=S.there j p i w (by rw[d,a];exact m) g
   have N:=(Zi A).1;exact⟨_,Zg (by simpa using N)⟩
  ·rw[Xr d] at b;exact S.there j q i w b g
 ·have:=S.range j i w g
  simpa using this
abbrev rtm (r:List Int) (t:TT 6):Option (TT 6):=t.ren r.length (fun i=>r.getD i 0)
structure FrT (g:Sig) (h:Qd) (s:JSt) (v:List Qj) (r:List Int):Prop where
 rl:r.length=s.H.length
 pos:∀ k∈r,0<=k
 held:∀ k,s.H.getD k false=true->∃ p,h.place (r.getD k 0)=some p
 dist:∀ j k,s.H.getD j false=true->s.H.getD k false=true->r.getD j 0=r.getD k 0->j=k
 vl:v.length=s.L.length
 val:∀ (j:Nat) (t:TT 6) (x:Qj),s.L[j]?=some t->v[j]?=some x->∃ u,rtm r t=some u/\Qe2 g x u
section
variable {g g':Sig}{h h':Qd}{s:JSt}{v:List Qj}{r:List Int}
theorem FrT.keep (F:FrT g h s v r) (b:g.le g') (d:∀ k,s.H.getD k false=true->∃ p,h'.place (r.getD k 0)=some p):FrT g' h' s v r :=
 ⟨F.rl,F.pos,d,F.dist,F.vl,fun j t x c a=>by obtain⟨u,e,f⟩:=F.val j t x c a;exact⟨u,e,f.mono b⟩⟩
theorem FrT.at (F:FrT g h s v r){k:Int}{t:TT 6}(c:s.at k=some t):∃ x u,Qz v k=some x/\rtm r t=some u/\Qe2 g x u:=by
 obtain⟨-,i,f,a⟩:=QdE c
 obtain⟨x,b⟩:∃ x,v[k.toNat]?=some x:=⟨_,Zg (by rw[F.vl];omega)⟩
 obtain⟨u,d,e⟩:=F.val _ t x a b
 exact⟨x,u,by unfold Qz;rw[Xr (by omega)];exact b,d,e⟩
theorem Qkz {t u:TT 6}(h:rtm r t=some u):u.kind=t.kind:=(QeN h).1
theorem Qnp {t u:TT 6}(h:rtm r t=some u) (b:t.kind≠1):0<=t.r/\t.r<r.length/\u.r=r.getD t.r.toNat 0:=by
 have:=(QeN h).2.1
 unfold Qay at this;have a:¬ t.1=1:=b;rw[Xr a] at this
 split at this
 ·cases this
 ·rename_i c
  split at this
  ·cases this
  ·have e:u.2.1=r.getD t.2.1.toNat 0:=(Xn this).symm;show 0<=t.2.1/\t.2.1<r.length/\u.2.1=r.getD t.2.1.toNat 0;exact⟨by omega,by omega,e⟩
theorem Qe2.kind {x:Qj}{u:TT 6}(h:Qe2 g x u):x.kind=u.kind:=by
 rcases h with ⟨b,a⟩|⟨b,a,-⟩|⟨-,a,-⟩
 ·rw[b,a]
 ·rw[b,a]
 ·exact a
theorem FrT.want (F:FrT g h s v r){k d:Int}{e:Bool}(q:s.want k d e=0):∃ x t u,s.at k=some t/\Qz v k=some x/\rtm r t=some u/\Qe2 g x u/\x.kind=d/\t.kind=d/\u.kind=d/\(e=true->d≠1->∃ p,h.place u.r=some p):=by
 obtain⟨t,l,f,w⟩:=Qau q
 obtain⟨x,u,y,i,m⟩:=F.at l
 have n:=Qkz i;refine⟨x,t,u,l,y,i,m,by rw[m.kind,n,f],f,by rw[n,f],fun o z=>?_⟩
 obtain⟨a,b,c⟩:=Qnp i (by rw[f];exact z)
 have j:=w o;unfold hHas at j;simp only[Bool.and_eq_true,decide_eq_true_eq] at j
 rw[c]
 exact F.held _ j.2
theorem FrT.num (F:FrT g h s v r){k:Int}{a:Bool}(c:s.want k 1 a=0):∃ n,Qu v k=some n:=by
 obtain⟨x,t,u,-,b,-,-,d,-⟩:=F.want c
 exact⟨x.n,by unfold Qu;rw[b];simp[d]⟩
theorem FrT.fields (F:FrT g h s v r):∀ {l:List Int}{ts:List (TT 6)},s.fields l=some ts->∃ xs,Qp v l=some xs/\xs.length=ts.length/\∀ (j:Nat) (x:Qj) (t:TT 6),xs[j]?=some x->ts[j]?=some t->∃ u,rtm r t=some u/\Qe2 g x u
 | [],ts,e=>by simp[JSt.fields] at e;subst e;exact⟨[],Z,Z,fun j x t c=>by simp at c⟩
 | k::l,ts,e=>by
   simp only[JSt.fields] at e
   cases h1:s.at k with
   | none=>simp[h1] at e
   | some t =>
     simp only[h1] at e
     cases h2:s.fields l with
     | none=>simp[h2] at e
     | some tl =>
       simp only[h2] at e
       cases e
       obtain⟨x,u,d,m,f⟩:=F.at h1
       obtain⟨xs,n,i,o⟩:=F.fields h2
       refine⟨x::xs,by simp only[Qp,d,n],by simp[i],fun j y w a b=>?_⟩
       cases j with
       | zero=>simp at a b;subst a b;exact⟨u,m,f⟩
       | succ j=>exact o j y w (by simpa using a) (by simpa using b)
theorem FrT.push (F:FrT g h s v r){xs:List Qj}{f:List (TT 6)}(l:xs.length=f.length) (k:∀ (j:Nat) (x:Qj) (t:TT 6),xs[j]?=some x->f[j]?=some t->∃ u,rtm r t=some u/\Qe2 g x u){d:JSt}(e:d.H=s.H) (i:d.L=s.L++f):FrT g h d (v++xs) r:=by
 refine⟨by rw[e];exact F.rl,F.pos,by rw[e];exact F.held,by rw[e];exact F.dist,by rw[i];simp[F.vl,l],fun j t x c a=>?_⟩
 rw[i] at c
 rcases Nat.lt_or_ge j s.L.length with b | b
 ·rw[XP b] at c
  rw[XP (by rw[F.vl];exact b)] at a
  exact F.val j t x c a
 ·rw[XQ b] at c
  rw[XQ (by rw[F.vl];exact b),F.vl] at a
  exact k _ x t a c
end
def Own (s:JSt) (r:List Int) (k:Int):Prop:=∃ j:Nat,s.H.getD j false=true/\s.f.regs<=j/\r.getD j 0=k
def Stk (m:List (MFunc 6)) (g:Sig) (h:Qd):(Int->Prop)->MFunc 6->Nat->List Int->List IFr->Prop
 | _,_,gi,_,[]=>gi=0
 | A,fn,gi,cr,d::rest=>∃ fd bl x s,m[d.f]?=some fd/\fd.blocks[d.b]?=some bl/\0<d.i/\bl.code[d.i - 1]?=some x/\x.op=14/\x.k=gi/\s=(JSt.start m fd bl).upto (bl.code.take (d.i - 1))/\FrT g h s d.v d.r /\
  (∀ k:Nat,(k:Int)<fn.regs->cr.getD k 0=d.r.getD (x.regs.getD k 0).toNat 0)/\(∀ k,s.H.getD k false=true->¬ A (d.r.getD k 0))/\Stk m g h (fun k=>A k\/Own s d.r k) fd d.f d.r rest
theorem Stk.keep {m:List (MFunc 6)}{g j:Sig}{h h':Qd}(i:g.le j):∀ {rest:List IFr}{A A':Int->Prop}{fn:MFunc 6}{gi:Nat}{cr cr':List Int},(∀ k,¬ A k->(∃ p,h.place k=some p)->∃ p,h'.place k=some p)->(∀ k,A' k->A k\/h.place k=none)->(∀ k:Nat,(k:Int)<fn.regs->cr'.getD k 0=cr.getD k 0)->Stk m g h A fn gi cr rest->Stk m j h' A' fn gi cr' rest
 | [],_,_,_,_,_,_,_,_,_,S=>S
 | d::rest,A,A',fn,gi,cr,cr',hp,hA,hc,S=>by
   obtain⟨o,u,x,s,w,y,t,q,n,r,z,F,v,l,e⟩:=S
   refine⟨o,u,x,s,w,y,t,q,n,r,z,F.keep i (fun k a=>hp _ (l k a) (F.held k a)),fun k a=>(hc k a).trans (v k a),fun k a f=>?_,?_⟩
   ·rcases hA _ f with b | b
    ·exact l k a b
    ·obtain⟨p,c⟩:=F.held k a;rw[b] at c;cases c
   ·exact Stk.keep i (fun k a=>hp k (fun f=>a (.inl f))) (fun k a=>by
     rcases a with b | b
     ·exact(hA k b).imp .inl id
     ·exact .inl (.inr b)) (fun k a=>rfl) e
structure Inv (m:List (MFunc 6)) (g:Sig) (M:IM) (fn:MFunc 6) (bl:MBlock 6) (s:JSt):Prop where
 hf:m[M.top.f]?=some fn
 hb:fn.blocks[M.top.b]?=some bl
 hi:M.top.i<=bl.code.length
 hs:s=(JSt.start m fn bl).upto (bl.code.take M.top.i)
 fr:FrT g M.h s M.top.v M.top.r
 st:StT g M.h
 stk:Stk m g M.h (Own s M.top.r) fn M.top.f M.top.r M.rest
def Ql4 (m:List (MFunc 6)) (M:IM):Prop:=M.done=true\/∃ g fn bl s,Inv m g M fn bl s
theorem JSt.upto_mf:∀ (l:List Qv) (s:JSt),(s.upto l).m=s.m/\(s.upto l).f=s.f
 | [],s=>⟨Z,Z⟩
 | x::l,s=>by
   have:=JSt.upto_mf l (s.next x)
   exact this
section
variable {m:List (MFunc 6)}{g g':Sig}{M M':IM}{fn:MFunc 6}{bl:MBlock 6}{s:JSt}{x:Qv}{op:Int->Int->Int->Option Int}
theorem Inv.mf (I:Inv m g M fn bl s):s.m=m/\s.f=fn:=by
 have:=JSt.upto_mf (bl.code.take M.top.i) (JSt.start m fn bl)
 rw[I.hs];exact this
theorem Inv.on (I:Inv m g M fn bl s) (a:bl.code[M.top.i]?=some x) (c:M'.top.f=M.top.f) (hb:M'.top.b=M.top.b) (hi:M'.top.i=M.top.i+1) (d:M'.rest=M.rest) (F:FrT g' M'.h (s.next x) M'.top.v M'.top.r) (S:StT g' M'.h) (K:Stk m g' M'.h (Own (s.next x) M'.top.r) fn M.top.f M'.top.r M.rest):Inv m g' M' fn bl (s.next x):=by
 have e:=(Zi a).1;refine⟨by rw[c];exact I.hf,by rw[hb];exact I.hb,by rw[hi];omega,?_,F,S,by rw[c,d];exact K⟩
 rw[hi,XV,a]
 show s.next x=(JSt.start m fn bl).upto (bl.code.take M.top.i++[x])
 rw[JSt.upto_snoc,<-I.hs]
theorem Inv.val (I:Inv m g M fn bl s) (w:bl.code[M.top.i]?=some x) (q:x.op≠3) (o:x.op≠4) (A:M'.top.f=M.top.f) (hb:M'.top.b=M.top.b) (hi:M'.top.i=M.top.i+1) (C:M'.rest=M.rest) (a:M'.top.r=M.top.r) (l:g.le g') (n:∀ k p,M.h.place k=some p->∃ p,M'.h.place k=some p) (S:StT g' M'.h){xs:List Qj}(G:M'.top.v=M.top.v++xs) (z:xs.length=(s.makes x).2.length)
 (c:∀ (j:Nat) (y:Qj) (t:TT 6),xs[j]?=some y->(s.makes x).2[j]?=some t->∃ u,rtm M.top.r t=some u/\Qe2 g' y u):Ql4 m M':=by
 refine .inr ⟨g',fn,bl,_,I.on w A hb hi C ?_ S ?_⟩
 ·rw[a,G]
  have F:FrT g' M'.h s M.top.v M.top.r:=I.fr.keep l (fun k d=>by obtain⟨p,e⟩:=I.fr.held k d;exact n _ p e);exact F.push z c (QdI q o) Z
 ·rw[a]
  refine I.stk.keep l (fun k _ ⟨p,e⟩=>n k p e) (fun k d=>?_) (fun k _=>rfl);obtain⟨j,D,E,B⟩:=d
  exact .inl ⟨j,by rw[<-QdI q o (s:=s)];exact D,E,B⟩
theorem Inv.one (I:Inv m g M fn bl s) (o:bl.code[M.top.i]?=some x) (A:x.op≠3) (w:x.op≠4) (q:M'.top.f=M.top.f) (hb:M'.top.b=M.top.b) (hi:M'.top.i=M.top.i+1) (B:M'.rest=M.rest) (d:M'.top.r=M.top.r) (n:M'.h=M.h){y:Qj}{t:TT 6}(C:M'.top.v=M.top.v++[y]) (l:(s.makes x).2=[t]) (z:∃ u,rtm M.top.r t=some u/\Qe2 g y u):Ql4 m M' :=
 I.val o A w q hb hi B d (fun _ _ _ h=>h) (fun k p e=>⟨p,by rw[n];exact e⟩) (by rw[n];exact I.st) (xs:=[y]) C (by rw[l];rfl) (fun j E D a c=>by
  rw[l] at c
  have:j=0:=by have:=(Zi a).1;simp at this;omega
  subst this;simp at a c;subst a c;exact z)
theorem IM.over_good (m:List (MFunc 6)) (M:IM) (e:Int):Ql4 m (M.over e):=.inl Z
abbrev IM.one (M:IM):IM:={ M with fuel:=M.fuel+1,top:={ M.top with i:=M.top.i+1 } }
theorem Qd.set_place {h:Qd}{v y:Qj}{k:Int}{j:Int}{p:Qi}(e:h.place j=some p):∃ p',(h.set v k y).2.place j=some p':=by
 unfold Qd.set;split
 ·rename_i t q f b
  obtain⟨d,c,a⟩:=Qd.place_some b
  split
  ·exact⟨p,e⟩
  ·split
   ·exact⟨p,e⟩
   ·simp only
    rw[Qd.place_set (Zi c).1]
    split
    ·exact⟨_,by first | rw[Xs a] | rfl⟩
    ·exact⟨p,e⟩
 ·exact⟨p,e⟩
theorem Qd.put_place {h:Qd}{v:Qj}{t:Qq}{j:Int}{p:Qi}(e:h.place j=some p):∃ p',(h.put v t words).2.2.place j=some p':=by
 unfold Qd.put;split
 ·exact⟨p,e⟩
 ·rename_i q b
  obtain⟨f,g,i,d,c,a⟩:=Qd.at_some b
  split
  ·exact⟨p,e⟩
  ·simp only
   rw[Qd.place_set (by rw[d];exact(Zi c).1)]
   split
   ·have:(q.more t words).there=true:=by unfold Qi.more;split<;>exact a
    exact⟨_,by rw[Xs this]⟩
   ·exact⟨p,e⟩
theorem Inv.stored (I:Inv m g M fn bl s) (d:bl.code[M.top.i]?=some x) (l:x.op≠3) (f:x.op≠4) (b:(s.makes x).2=[]){a y:Qj}{k:Int}(S:StT g (M.h.set a k y).2):Ql4 m { M.one with h:=(M.h.set a k y).2 } :=
 I.val (M':={ M.one with h:=(M.h.set a k y).2 }) d l f Z Z Z Z Z (fun _ _ _ h=>h) (fun j p e=>Qd.set_place e) S (xs:=[]) (by simp) (by rw[b];rfl) (fun j y t c=>by simp at c)
theorem Inv.made (I:Inv m g M fn bl s) (n:bl.code[M.top.i]?=some x) (C:x.op≠3) (z:x.op≠4){T u:TT 6}(f:(s.makes x).2=[T]){a:Qj}{p:Qi}{t:Qq}(k:M.h.at a=some p) (v:rtm M.top.r T=some u) (l:u.r=a.region) (B:QbS g t u):∃ M',M.one.got (M.h.put a t words)=some M'/\Ql4 m M':=by
 obtain⟨E,o,S,D⟩:=I.st.put (words:=words) k l B
 rcases Qd.put_code (t:=t) (words:=words) k with d | ⟨A,-⟩
 ·unfold IM.got;rw[Xr (by rw[d];decide),Xs d]
  refine⟨_,Z,?_⟩
  exact I.val n C z Z Z Z Z Z o (fun j q e=>Qd.put_place e) S (xs:=[(M.h.put a t words).1]) Z (by rw[f];rfl) (fun j y w b c=>by
   rw[f] at c
   have:j=0:=by have:=(Zi b).1;simp at this;omega
   subst this;simp at b c;subst b c;exact⟨u,v,D d⟩)
 ·unfold IM.got;rw[Xs A]
  exact⟨_,Z,IM.over_good _ _ _⟩
end
section
variable {m:List (MFunc 6)}{g g':Sig}{M M':IM}{fn:MFunc 6}{bl:MBlock 6}{s:JSt}{x:Qv}{op:Int->Int->Int->Option Int}{h:Qd}{v:List Qj}{r:List Int}
theorem Qbr (d:(modFault m).1=0){f:MFunc 6}(j:m[k]?=some f):∃ b,f.blocks[0]?=some b/\b.regs=f.regs/\b.params=f.params/\f.right m.length/\(k=0->f.regs=0/\f.params.length=0/\∀ t∈f.results,t.kind=1):=by
 have l:=(ZC d).2 f (Zm j);obtain⟨b,n⟩:∃ b,f.blocks[0]?=some b:=⟨_,Zg l.many.1⟩
 unfold modFault at d;split at d
 ·cases d
 have a:=Zy d k f j;rw[XK] at a
 unfold MFunc.fault at a;split at a
 ·cases a
 split at a
 ·rename_i c;exact absurd a c
 split at a
 ·rename_i c;exact absurd a c
 split at a
 ·cases a
 split at a
 ·cases a
 rename_i h
 have c:=Zy a 0 b n;simp only[Nat.zero_add] at c
 unfold MBlock.fault at c;split at c
 ·cases c
 split at c
 ·rename_i p;exact absurd c p
 split at c
 ·cases c
 rename_i i
 have g:b.regs=f.regs/\Qdy b.params f.params=true:=by
  constructor
  ·exact Xq.1 fun e=>i ⟨Z,.inl e⟩
  ·cases e:Qdy b.params f.params with
   | true=>rfl
   | false=>exact absurd ⟨Z,.inr e⟩ i
 refine⟨b,n,g.1,QcZ.1 g.2,l,fun q=>?_⟩
 have:f.regs=0/\f.params.length=0/\f.results.all (fun t=>t.kind==1)=true:=Xq.1 fun e=>h ⟨q,e⟩
 refine⟨this.1,this.2.1,fun t o=>?_⟩
 have:=Xe.1 this.2.2 t o
 simpa using this
end
theorem JSt.next_len (s:JSt) (x:Qv):s.H.length<=(s.next x).H.length:=by
 unfold JSt.next
 simp only
 split
 ·simp
 ·split
  ·simp
  ·exact Ze
theorem JSt.upto_len:∀ (l:List Qv) (s:JSt),s.H.length<=(s.upto l).H.length
 | [],s=>Ze
 | x::l,s=>Zt (s.next_len x) (JSt.upto_len l (s.next x))
section
variable {m:List (MFunc 6)}{g g':Sig}{M M':IM}{fn:MFunc 6}{bl:MBlock 6}{s:JSt}{x:Qv}{op:Int->Int->Int->Option Int}{h:Qd}{v:List Qj}{r:List Int}
theorem QlQ (d:(modFault m).1=0)(c:m[k]?=some fn) (hb:fn.blocks[q]?=some bl) (l:List Qv):fn.regs<=((JSt.start m fn bl).upto l).H.length:=by
 have b:=(ZC d).2 fn (Zm c);have a:=b.blocks bl (Zm hb);have f:=JSt.upto_len l (JSt.start m fn bl);have e:=Qgx (n:=bl.regs) ⟨by have:=b.regs;have:=a.regs;omega,a.regs.2⟩;have g:(JSt.start m fn bl).H.length=(QjK bl.regs).length:=rfl
 have:=a.regs
 omega
theorem Inv.kept (a:(modFault m).1=0) (I:Inv m g M fn bl s):s.f.regs<=s.H.length:=by
 rw[I.mf.2,I.hs];exact QlQ a I.hf I.hb _
def IM.steps (m:List (MFunc 6)) (op:Int->Int->Int->Option Int) (most:Nat):Nat->IM->Option IM
 | 0,M=>some M
 | n+1,M=>if M.done then some M else match M.step m op most with
   | none=>none
   | some M'=>M'.steps m op most n
end
def QS (M:IM) (o:Option IM):Prop:=∀ N,o=some N->N.fuel=M.fuel/\(∃ l,N.out=M.out++l)/\(N.done=true->M.done=true\/N.out=M.out)
section
variable {k:Nat}{M N:IM}{o o':Option IM}{m:List (MFunc 6)}{op:Int->Int->Int->Option Int}{x:Qv}{fn:MFunc 6}
theorem QS.no:QS M none:=fun N h=>by cases h
theorem QS.same (b:N.fuel=M.fuel) (a:N.out=M.out):QS M (some N):=fun c h=>by
 cases h
 exact⟨b,⟨[],by simp[a]⟩,fun _=>.inr a⟩
theorem QS.ite {c:Prop}[Decidable c] {a b:Option IM}(f:c->QS M a) (e:¬ c->QS M b):QS M (if c then a else b):=by
 by_cases d:c
 ·rw[Xs d];exact f d
 ·rw[Xr d];exact e d
theorem QhZ {g:Qj × Int × Qd}:QS M (M.got g):=QS.ite (fun _=>QS.same Z Z) fun _=>QS.ite (fun _=>QS.same Z Z) (fun _=>QS.no)
theorem mem_out:QS M (M.mem x):=by
 unfold IM.mem
 cases Qz M.top.v x.a with
 | none=>exact QS.no
 | some a =>
   refine QS.ite (fun _=>QS.ite (fun _=>QS.same Z Z) (fun _=>QS.no)) fun _=>QS.ite (fun _=>?_) fun _=>QS.ite (fun _=>?_) fun _=>QS.ite (fun _=>QS.ite (fun _=>QS.same Z Z) (fun _=>QS.no)) fun _=>QS.ite (fun _=>?_) fun _=>QS.ite (fun _=>?_) fun _=>QS.ite (fun _=>?_) fun _=>QS.ite (fun _=>QS.same Z Z) (fun _=>QS.no)
   ·cases Qp M.top.v x.args with
    | none=>exact QS.no
    | some l=>exact QhZ
   ·cases Qu M.top.v x.b with
    | none=>exact QS.no
    | some n=>exact QS.ite (fun _=>QS.same Z Z) (fun _=>QhZ)
   ·cases Qz M.top.v x.b with
    | none=>exact QS.no
    | some y=>exact QS.ite (fun _=>QS.same Z Z) (fun _=>QS.no)
   ·cases Qu M.top.v x.b with
    | none=>exact QS.no
    | some n=>exact QS.ite (fun _=>QS.ite (fun _=>QS.same Z Z) fun _=>QS.ite (fun _=>QS.same Z Z) (fun _=>QS.no)) (fun _=>QS.no)
   ·cases Qu M.top.v x.b with
    | none=>exact QS.no
    | some n=>cases Qu M.top.v x.c with
      | none=>exact QS.no
      | some z=>exact QS.ite (fun _=>QS.ite (fun _=>QS.same Z Z) fun _=>QS.ite (fun _=>QS.same Z Z) (fun _=>QS.no)) (fun _=>QS.no)
theorem call_out:QS M (M.call m x):=by
 unfold IM.call
 cases Zh M.top.r x.regs with
 | none=>exact QS.no
 | some r=>cases Qp M.top.v x.args with
   | none=>exact QS.no
   | some v=>cases m[x.k.toNat]? with
     | none=>exact QS.no
     | some g=>exact QS.ite (fun _=>QS.ite (fun _=>QS.same Z Z) (fun _=>QS.same Z Z)) (fun _=>QS.no)
theorem ins_out:QS M (IM.ins m op M x):=by
 unfold IM.ins;refine QS.ite (fun _=>QS.same Z Z) fun _=>QS.ite (fun _=>?_) fun _=>QS.ite (fun _=>QS.ite (fun _=>QS.same Z Z) (fun _=>QS.same Z Z)) fun _=>QS.ite (fun _=>?_) fun _=>QS.ite (fun _=>?_) fun _=>QS.ite (fun _=>call_out) (fun _=>mem_out)
 ·cases Qu M.top.v x.a with
  | none=>exact QS.no
  | some a=>cases Qu M.top.v x.b with
    | none=>exact QS.no
    | some b =>
      simp only
      cases op x.k a b with
      | none=>exact QS.same Z Z
      | some n=>exact QS.same Z Z
 ·cases M.inp with
  | nil=>exact QS.same Z Z
  | cons n l=>exact QS.same Z Z
 ·cases Qu M.top.v x.a with
  | none=>exact QS.no
  | some n=>exact QS.ite (fun _=>QS.same Z Z) (fun _ N h=>by cases h;exact⟨Z,⟨[n],Z⟩,fun c=>.inl c⟩)
theorem QiF {t:MTo}:QS M (IM.to fn M t):=by
 unfold IM.to
 cases fn.blocks[t.block.toNat]? with
 | none=>exact QS.no
 | some b=>cases Zh M.top.r t.regs with
   | none=>exact QS.no
   | some r=>cases Qp M.top.v t.args with
     | none=>exact QS.no
     | some v=>exact QS.ite (fun _=>QS.same Z Z) (fun _=>QS.no)
theorem Qj3 {e:Z0}:QS M (IM.endd fn M e):=by
 unfold IM.endd;refine QS.ite (fun _=>QiF) fun _=>QS.ite (fun _=>?_) fun _=>?_
 ·cases Qu M.top.v e.a with
  | none=>exact QS.no
  | some n=>exact QS.ite (fun _=>QiF) (fun _=>QiF)
 ·cases Qp M.top.v e.args with
  | none=>exact QS.no
  | some v =>
    refine QS.ite (fun _=>?_) (fun _=>QS.no)
    cases M.rest with
    | cons d rest=>exact QS.same Z Z
    | nil=>cases Qat M.top.v e.args with
      | none=>exact QS.no
      | some n=>exact QS.same Z Z
theorem Qct (g:M.fuel<=most) (d:IM.step m op most M=some N):(M.fuel=most->N=M.over 7)/\(M.fuel<most->N.fuel=M.fuel+1)/\(∃ l,N.out=M.out++l)/\(N.done=true->M.done=true\/N.out=M.out):=by
 unfold IM.step at d;by_cases e:M.fuel=most
 ·rw[Xs e] at d
  cases d
  exact⟨fun _=>rfl,fun h=>by omega,⟨[],by simp[IM.over]⟩,fun _=>.inr Z⟩
 ·rw[Xr e] at d
  cases e1:m[M.top.f]? with
  | none=>rw[e1] at d;cases d
  | some fn =>
    rw[e1] at d
    simp only at d
    cases e2:fn.blocks[M.top.b]? with
    | none=>rw[e2] at d;cases d
    | some bl =>
      rw[e2] at d
      simp only at d
      cases e3:bl.code[M.top.i]? with
      | none =>
        rw[e3] at d
        obtain⟨a,b,c⟩:=Qj3 N d
        exact⟨fun h=>absurd h e,fun _=>a,b,c⟩
      | some x =>
        rw[e3] at d
        obtain⟨a,b,c⟩:=ins_out N d
        exact⟨fun h=>absurd h e,fun _=>a,b,c⟩
theorem Qa7 {most:Nat}:∀ (n:Nat){M N:IM},M.fuel<=most->IM.steps m op most n M=some N->M.fuel<=N.fuel/\N.fuel<=most/\∃ l,N.out=M.out++l
 | 0,M,N,hf,h=>by cases h;exact⟨Ze,hf,[],by simp⟩
 | n+1,M,N,hf,h=>by
   unfold IM.steps at h;by_cases j:M.done=true
   ·rw[Xs j] at h;cases h;exact⟨Ze,hf,[],by simp⟩
   ·rw[Xr j] at h
    cases e:IM.step m op most M with
    | none=>rw[e] at h;cases h
    | some M' =>
      rw[e] at h
      simp only at h
      obtain⟨a,b,⟨l,c⟩,-⟩:=Qct hf e
      rcases Nat.lt_or_ge M.fuel most with q | q
      ·have:=b q
       obtain⟨k,i,g,d⟩:=Qa7 n (by omega) h
       exact⟨by omega,i,l++g,by rw[d,c,List.append_assoc]⟩
      ·have f:=a (by omega);have o:M'.fuel=M.fuel:=by rw[f];rfl
       obtain⟨k,i,g,d⟩:=Qa7 n (by omega) h
       exact⟨by omega,i,l++g,by rw[d,c,List.append_assoc]⟩
theorem Qb2 (a:M.done=true):∀ n,IM.steps m op most n M=some M
 | 0=>rfl
 | n+1=>by unfold IM.steps;rw[Xs a]
theorem Qc1 {most most':Nat}(hm:most≤most'):∀ (n:Nat){M A:IM},M.fuel≤most→IM.steps m op most n M=some A→A.done=true→M.done=false →
 ((A.fin≠6→A.fin≠7→∀ n',n≤n'→IM.steps m op most' n' (M.up k)=some (A.up k)) ∧
 ((A.fin=6∨A.fin=7)→∀ n' B,IM.steps m op most' n' (M.up k)=some B→B.done=true→A.fuel≤B.fuel∧∃ l,B.out=A.out++l))
 | 0,M,A,hf,h,hd,hn=>by cases h;rw[hn] at hd;cases hd
 | n+1,M,A,hf,h,hd,hn=>by
   unfold IM.steps at h;rw[if_neg (by rw[hn];decide)] at h
   cases e:IM.step m op most M with
   | none=>rw[e] at h;cases h
   | some N =>
     rw[e] at h
     simp only at h
     obtain⟨a,b,c,d⟩:=Qct hf e
     have upf:(M.up k).fuel=M.fuel:=rfl;have upo:(M.up k).out=M.out:=rfl;have updn:(M.up k).done=M.done:=rfl;rcases Nat.lt_or_ge M.fuel most with q | q
     ·have hu:=Qle (k:=k) (m:=m) (op:=op) q hm;rw[e] at hu
      have hNf:=b q;by_cases hNd:N.done=true
      ·rw[Qb2 hNd] at h;cases h
       have hout : A.out = M.out := by rcases d hd with h1 | h1;· rw[hn] at h1;cases h1
                                       ·exact h1
       constructor
       ·intro h6 h7 n' hn';rcases hu with ⟨-,h1⟩ | h1
        ·exact absurd h1 h6
        ·obtain⟨j,rfl⟩:∃ j,n'=j+1:=⟨n' - 1,by omega⟩
         unfold IM.steps;rw[updn,if_neg (by rw[hn];decide),h1]
         exact Qb2 (M:=A.up k) hd _
       ·intro h67 n' B hB hBd
        cases n' with
        | zero=>cases hB;rw[updn,hn] at hBd;cases hBd
        | succ j =>
          unfold IM.steps at hB;rw[updn,if_neg (by rw[hn];decide)] at hB
          cases e':IM.step m op most' (M.up k) with
          | none=>rw[e'] at hB;cases hB
          | some N' =>
            rw[e'] at hB
            simp only at hB
            obtain⟨a',b',⟨l,c'⟩,-⟩:=Qct (by rw[upf];omega) e'
            have:=b' (by rw[upf];omega)
            obtain⟨f1,f2,l',f3⟩:=Qa7 j (by omega) hB
            exact⟨by omega,l++l',by rw[f3,c',upo,hout,List.append_assoc]⟩
      ·have hNd':N.done=false:=by simpa using hNd
       have hu':IM.step m op most' (M.up k)=some (N.up k):=by
        rcases hu with ⟨h1,-⟩ | h1
        ·exact absurd h1 hNd
        ·exact h1
       obtain⟨i1,i2⟩:=Qc1 hm n (by omega) h hd hNd'
       constructor
       ·intro h6 h7 n' hn';obtain⟨j,rfl⟩:∃ j,n'=j+1:=⟨n' - 1,by omega⟩
        unfold IM.steps;rw[updn,if_neg (by rw[hn];decide),hu']
        exact i1 h6 h7 j (by omega)
       ·intro h67 n' B hB hBd
        cases n' with
        | zero=>cases hB;rw[updn,hn] at hBd;cases hBd
        | succ j =>
          unfold IM.steps at hB;rw[updn,if_neg (by rw[hn];decide),hu'] at hB
          exact i2 h67 j B hB hBd
     ·have hN:=a (by omega);have hNd:N.done=true:=by rw[hN];rfl
      rw[Qb2 hNd] at h;cases h
      have hfin:A.fin=7:=by rw[hN];rfl
      have hfu:A.fuel=M.fuel:=by rw[hN];rfl
      have hou:A.out=M.out:=by rw[hN];rfl
      refine⟨fun _ h7=>absurd hfin h7,fun _ n' B hB hBd=>?_⟩
      obtain⟨f1,f2,l',f3⟩:=Qa7 n' (by rw[upf];omega) hB
      exact⟨by rw[hfu];exact f1,l',by rw[f3,upo,hou]⟩
end
end Go.Proofs.YtjhdpajpibdnaafGreat
