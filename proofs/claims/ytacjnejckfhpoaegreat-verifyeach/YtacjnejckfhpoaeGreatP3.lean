import Derived.Test.YtacjnejckfhpoaeGreatP2
import Derived.Defers
import Derived.Recover
set_option maxHeartbeats 16000000
set_option maxRecDepth 100000
namespace Go.Proofs.YtacjnejckfhpoaeGreat
open Go.RowKit
set_option linter.unusedVariables false
section
variable {P:Program}{Q:Exit→Act→World→Prop}
def Qdm (o:Oper) (j:Nat):Bool:=o.after.any fun e=>Region.binds .any e&&e.on==j
def Qj3 (l:List Oper) (k:Nat) (o:Oper):Bool:=(List.range k).all fun j=>Qdm o j||o.after.any fun e=>Region.binds .any e&&(match l[e.on]? with | some o'=>Qdm o' j | none=>false)
def Qca (all:List Oper) (k:Nat):List Oper→Bool
 | []=>true
 | o::l=>Qj3 all k o&&Qca all (k+1) l
theorem QcO {o:Oper}{j:Nat}(h:Qdm o j=true):∃ e∈o.after,Region.binds .any e=true∧e.on=j:=by
 obtain⟨q,hq,he⟩:=Array.any_eq_true.1 h
 simp only[Bool.and_eq_true,beq_iff_eq] at he
 exact⟨_,Array.getElem_mem hq,he.1,he.2⟩
theorem QdN (all:List Oper):∀ (l:List Oper) (k i:Nat) (o:Oper),Qca all k l=true→l[i]?=some o→∀ j,j<k+i→∀ S:Nat→Prop,
 (∀ (q:Nat) (o':Oper),all[q]?=some o'→S q→∀ e∈o'.after,Region.binds .any e=true→S e.on)→(∀ e∈o.after,Region.binds .any e=true→S e.on)→S j
 | [],_,_,_,_,h=>by simp at h
 | x::l,k,0,o,h,ho=>by
   simp at ho;subst ho
   simp only[Qca,Bool.and_eq_true] at h
   intro j hj S hcl hS
   have:=List.all_eq_true.1 h.1 j (by simpa using hj)
   rw[Bool.or_eq_true] at this
   rcases this with h1 | h1
   ·obtain⟨e,he,hbd,rfl⟩:=QcO h1
    exact hS e he hbd
   ·obtain⟨q,hq,he⟩:=Array.any_eq_true.1 h1
    rw[Bool.and_eq_true] at he
    have hm:=Array.getElem_mem hq;generalize x.after[q]=e0 at he hm
    cases ho':all[e0.on]? with
    | none=>rw[ho'] at he;simp at he
    | some o' =>
      rw[ho'] at he
      obtain⟨e,he1,hbd,rfl⟩:=QcO he.2
      exact hcl _ o' ho' (hS e0 hm he.1) e he1 hbd
 | x::l,k,i+1,o,h,ho=>by
   simp only[Qca,Bool.and_eq_true] at h
   simp at ho
   intro j hj;exact QdN all l (k+1) i o h.2 ho j (by omega)
theorem QgV {l:List Oper}(hb:Qak 0 l=true){k0:Nat}(ht:Qca l k0 (l.drop k0)=true):∀ (m k fuel:Nat) (listed:Array Bool) (a:Act) (w:World),k+m=l.length→k0≤k→m≤fuel→listed.size=l.length →
 (∀ j,j<l.length→listed.getD j false=decide (j<k))→wpList P l.toArray Q (l.drop k) a w→wpAny P .any l.toArray Q fuel listed a w:=by
 intro m
 induction m with
 | zero =>
   intro k fuel listed a w hk _ _ hs hl h
   have hr:Region.ready .any l.toArray listed=[]:=by
    rw[List.eq_nil_iff_forall_not_mem]
    intro i hi;obtain⟨h1,h2,_⟩:=Qr.1 hi
    have h1':i<l.length:=by simpa using h1
    have:=hl i h1'
    have hd:decide (i<k)=true:=by simp;omega
    rw[hd] at this
    have hi':i<listed.size:=by omega
    simp[Array.getD,hi'] at this h2
    rw[this] at h2;cases h2
   have hq:Q .normal a w:=by
    rw[List.drop_of_length_le (by omega)] at h
    exact h
   cases fuel with
   | zero=>exact⟨hr,hq⟩
   | succ fuel=>exact⟨fun _=>hq,fun i hi=>by rw[hr] at hi;cases hi⟩
 | succ m ih =>
   intro k fuel listed a w hk hk0 hf hs hl h;have hlt:k<l.length:=by omega
   obtain⟨fuel,rfl⟩:∃ f,fuel=f+1:=⟨fuel - 1,by omega⟩
   have hks:k<listed.size:=by omega
   have hkr:k∈Region.ready .any l.toArray listed:=by
    refine Qr.2 ⟨by simpa using hlt,?_,l[k],by simp[hlt],fun e he hbd=>?_⟩
    ·have:=hl k hlt
     simp[Array.getD,hks] at this ⊢;exact this
    ·have:=back_at l 0 k l[k] hb (by simp[hlt]) e he hbd
     rw[hl _ (by omega)];simp;omega
   refine⟨fun hr=>absurd (hr ▸ hkr) (by simp),fun i hi=>?_⟩
   have hik:i=k:=by
    obtain⟨h1,h2,o,ho,h3⟩:=Qr.1 hi
    have h1':i<l.length:=by simpa using h1
    have hnl:listed.getD i false=false:=by
     have hi':i<listed.size:=by omega
     simp[Array.getD,hi'] at h2 ⊢;exact h2
    have hge:k≤i:=by
     have:=hl i h1'
     rw[hnl] at this
     have:¬ i<k:=by simpa using this.symm
     omega
    rcases Nat.eq_or_lt_of_le hge with e | hgt
    ·exact e.symm
    ·exfalso
     have:=QdN l (l.drop k0) k0 (i - k0) o ht (by rw[List.getElem?_drop,show k0+(i - k0)=i by omega];simpa using ho) k (by omega) (fun j=>listed.getD j false=true)
      (fun q o' hq hS e he hbd=>by
       have hql:q<l.length:=(List.getElem?_eq_some_iff.1 hq).1;have hqe:=back_at l 0 q o' hb hq e he hbd;have h5:listed.getD q false=true:=hS;rw[hl q hql] at h5
       have h6:q<k:=by simpa using h5
       show listed.getD e.on false=true;rw[hl e.on (by omega)];simp;omega) h3
     rw[hl k hlt] at this
     simp at this
   subst hik;rw[List.drop_eq_getElem_cons hlt] at h
   have ho:l.toArray[i]?=some l[i]:=by simp[hlt]
   have next:∀ a w,wpList P l.toArray Q (l.drop (i+1)) a w→wpAny P .any l.toArray Q fuel (listed.setIfInBounds i true) a w:=fun a w h' =>
    ih (i+1) fuel _ a w (by omega) (by omega) (by omega) (by simpa using hs) (fun j hj=>by
     by_cases e:j=i
     ·subst e;simp[Array.getD,hks]
     ·have hne:i≠j:=fun x=>e x.symm;rw[Array.getD_eq_getD_getElem?,Array.getElem?_setIfInBounds_ne hne,← Array.getD_eq_getD_getElem?,hl j hj]
      simp;omega) h'
   unfold wpOp;rw[ho]
   simp only
   unfold wpList at h;split
   ·rename_i hw
    rw[if_pos hw] at h
    exact h.imp (Oper.wp_mono next) id
   ·rename_i hw
    rw[if_neg hw] at h
    exact next _ _ h
theorem QfI {l l2:List Oper}(hb:Qak 0 (l++l2)=true) (hg:Qau l.length l=true) (ht:Qca (l++l2) l.length l2=true):∀ (fuel:Nat) (listed:Array Bool) (a:Act) (w:World),listed.size=l.length→(∀ (q:Nat) (o:Oper),l[q]?=some o→listed.getD q false=true→∀ e∈o.after,Region.binds .any e=true→listed.getD e.on false=true) →
 wpAny P .any l.toArray (Exit.then (fun a w=>wpList P (l++l2).toArray Q l2 a w) Q) fuel listed a w →
 wpAny P .any (l++l2).toArray Q (fuel+l2.length) (listed++Array.replicate l2.length false) a w:=by
 have hbl:∀ (i:Nat) (o:Oper),l[i]?=some o→∀ e∈o.after,Region.binds .any e=true→e.on<i:=fun i o ho e he hbd=>by
  have hi:i<l.length:=(List.getElem?_eq_some_iff.1 ho).1
  have:=back_at (l++l2) 0 i o hb (by rw[List.getElem?_append_left hi];exact ho) e he hbd
  omega
 have get1:∀ (listed:Array Bool) (j:Nat) (d:Bool),listed.size=l.length→j<l.length→(listed++Array.replicate l2.length false).getD j d=listed.getD j d:=fun listed j d hs hj=>by
  rw[Array.getD_eq_getD_getElem?,Array.getD_eq_getD_getElem?,Array.getElem?_append_left (by omega)]
 have get2:∀ (listed:Array Bool) (j:Nat),listed.size=l.length→l.length≤j→(listed++Array.replicate l2.length false).getD j false=false:=fun listed j hs hj=>by
  rw[Array.getD_eq_getD_getElem?,Array.getElem?_append_right (by omega)]
  cases h:(Array.replicate l2.length false)[j - listed.size]? with
  | none=>rfl
  | some b =>
    have:=Array.mem_of_getElem? h
    simp at this
    simp[this.2]
 -- all of the first part are listed
 have done:∀ (fuel:Nat) (listed:Array Bool) (a:Act) (w:World),listed.size=l.length→(∀ j,j<l.length→listed.getD j false=true)→wpList P (l++l2).toArray Q l2 a w →
  wpAny P .any (l++l2).toArray Q (fuel+l2.length) (listed++Array.replicate l2.length false) a w:=fun fuel listed a w hs hall h=>by
  refine QgV hb (k0:=l.length) (by simpa using ht) l2.length l.length _ _ a w (by simp) (Nat.le_refl _) (by omega) (by simp[hs]) (fun j hj=>?_) (by simpa using h);by_cases hj':j<l.length
  ·rw[get1 listed j false hs hj',hall j hj'];simp[hj']
  ·rw[get2 listed j hs (by omega)];simp;omega
 have allOf:∀ (listed:Array Bool),listed.size=l.length→Region.ready .any l.toArray listed=[]→∀ j,j<l.length→listed.getD j false=true:=fun listed hs hr j=>by
  induction j using Nat.strongRecOn with
  | _ j ih =>
    intro hj
    cases hc:listed.getD j false with
    | true=>rfl
    | false =>
      exfalso
      have hj':j<listed.size:=by omega
      have hnt:listed.getD j true=false:=by simp[Array.getD,hj'] at hc ⊢;exact hc
      have:j∈Region.ready .any l.toArray listed:=Qr.2 ⟨by simpa using hj,hnt,l[j],by simp[hj],fun e he hbd=>by
       have:=hbl j l[j] (by simp[hj]) e he hbd
       exact ih e.on this (by omega)⟩
      rw[hr] at this;cases this
 intro fuel
 induction fuel with
 | zero =>
   intro listed a w hs hcl h;exact done 0 listed a w hs (allOf listed hs h.1) h.2
 | succ fuel ih =>
   intro listed a w hs hcl h;by_cases hall:∀ j,j<l.length→listed.getD j false=true
   ·refine done (fuel+1) listed a w hs hall (h.1 ?_);rw[List.eq_nil_iff_forall_not_mem]
    intro i hi;obtain⟨h1,h2,_⟩:=Qr.1 hi
    have h1':i<l.length:=by simpa using h1
    have:=hall i h1'
    have hi':i<listed.size:=by omega
    simp[Array.getD,hi'] at this h2
    rw[this] at h2;cases h2
   ·have hnr:Region.ready .any l.toArray listed≠[]:=fun e=>hall (allOf listed hs e)
    have same:∀ i,i∈Region.ready .any (l++l2).toArray (listed++Array.replicate l2.length false)↔i∈Region.ready .any l.toArray listed:=fun i=>by
     rw[Qr,Qr]
     by_cases hi:i<l.length
     ·have e1:(l++l2).toArray[i]?=l.toArray[i]?:=by simp[List.getElem?_append_left hi]
      rw[get1 listed i true hs hi,e1]
      constructor
      ·rintro ⟨_,h2,o,ho,h3⟩;refine⟨by simpa using hi,h2,o,ho,fun e he hbd=>?_⟩
       have:=hbl i o (by simpa using ho) e he hbd
       have h4:=h3 e he hbd;rwa [get1 listed e.on false hs (by omega)] at h4
      ·rintro ⟨_,h2,o,ho,h3⟩;refine⟨by simp;omega,h2,o,ho,fun e he hbd=>?_⟩
       have:=hbl i o (by simpa using ho) e he hbd
       rw[get1 listed e.on false hs (by omega)]
       exact h3 e he hbd
     ·constructor
      ·rintro ⟨h1,h2,o,ho,h3⟩;exfalso
       refine hall fun j hj=>?_;have ho':(l++l2)[i]?=some o:=by simpa using ho
       rw[List.getElem?_append_right (by omega)] at ho'
       have:=QdN (l++l2) l2 l.length (i - l.length) o ht ho' j (by omega) (fun q=>(listed++Array.replicate l2.length false).getD q false=true)
        (fun q o' hq hS e he hbd=>by
         have h5:(listed++Array.replicate l2.length false).getD q false=true:=hS;by_cases hql:q<l.length
         ·rw[get1 listed q false hs hql] at h5
          rw[List.getElem?_append_left hql] at hq
          have h6:=hbl q o' hq e he hbd;show (listed++Array.replicate l2.length false).getD e.on false=true;rw[get1 listed e.on false hs (by omega)]
          exact hcl q o' hq h5 e he hbd
         ·rw[get2 listed q hs (by omega)] at h5
          cases h5) h3
       rwa [get1 listed j false hs hj] at this
      ·rintro ⟨h1,_⟩;exact absurd (by simpa using h1) hi
    rw[show fuel+1+l2.length=(fuel+l2.length)+1 by omega]
    refine⟨fun hr=>?_,fun i hi=>?_⟩
    ·exfalso
     apply hnr
     rw[List.eq_nil_iff_forall_not_mem]
     intro i hi
     have:=(same i).2 hi
     rw[hr] at this;cases this
    ·have hi':=(same i).1 hi;have h':=h.2 i hi';obtain⟨h1,_⟩:=Qr.1 hi'
     have hlt:i<l.length:=by simpa using h1
     have ho:l.toArray[i]?=some l[i]:=by simp[hlt]
     have ho2:(l++l2).toArray[i]?=some l[i]:=by simp[List.getElem?_append_left hlt,hlt]
     unfold wpOp at h' ⊢;rw[ho] at h'
     rw[ho2]
     simp only at h' ⊢
     have hy:Region.wanted l[i] (yielded (l++l2).toArray a.tmps)=Region.wanted l[i] (yielded l.toArray a.tmps):=by
      unfold Region.wanted
      cases hgd:(l[i]).guard with
      | none=>rfl
      | some gw =>
        obtain⟨g,want⟩:=gw
        have:=List.all_eq_true.1 hg l[i] (List.getElem_mem hlt)
        rw[hgd] at this
        have hgl:g<l.length:=by simpa using this
        simp only
        have:yielded (l++l2).toArray a.tmps g=yielded l.toArray a.tmps g:=by
         unfold yielded
         have:(l++l2).toArray[g]?=l.toArray[g]?:=by simp[List.getElem?_append_left hgl]
         rw[this]
        rw[this]
     rw[hy]
     have nx:∀ a w,wpAny P .any l.toArray (Exit.then (fun a w=>wpList P (l++l2).toArray Q l2 a w) Q) fuel (listed.setIfInBounds i true) a w→wpAny P .any (l++l2).toArray Q (fuel+l2.length) ((listed++Array.replicate l2.length false).setIfInBounds i true) a w:=fun a w hh=>by
      have hcl2:∀ (q:Nat) (o:Oper),l[q]?=some o→(listed.setIfInBounds i true).getD q false=true→∀ e∈o.after,Region.binds .any e=true→(listed.setIfInBounds i true).getD e.on false=true:=fun q o hq hS e he hbd=>by
       have up:∀ j,listed.getD j false=true→(listed.setIfInBounds i true).getD j false=true:=fun j hj=>by
        by_cases ej:i=j
        ·subst ej
         have:i<listed.size:=by omega
         simp[Array.getD,this]
        ·rw[Array.getD_eq_getD_getElem?,Array.getElem?_setIfInBounds_ne ej,← Array.getD_eq_getD_getElem?];exact hj
       by_cases ej:i=q
       ·subst ej;obtain⟨_,_,o2,ho2',h3⟩:=Qr.1 hi'
        have:o2=o:=by
         have h7:l[i]?=some o2:=by simpa using ho2'
         rw[hq] at h7;exact(Option.some.inj h7).symm
        subst this;exact up _ (h3 e he hbd)
       ·rw[Array.getD_eq_getD_getElem?,Array.getElem?_setIfInBounds_ne ej,← Array.getD_eq_getD_getElem?] at hS
        exact up _ (hcl q o hq hS e he hbd)
      have:=ih (listed.setIfInBounds i true) a w (by simpa using hs) hcl2 hh
      have e:(listed++Array.replicate l2.length false).setIfInBounds i true=listed.setIfInBounds i true++Array.replicate l2.length false:=by
       rw[Array.setIfInBounds_append_left (by omega)]
      rw[e];exact this
     split
     ·rename_i hw
      rw[if_pos hw] at h'
      rcases h' with h' | h'
      ·exact .inl (Oper.wp_mono nx (Qfn h'))
      ·exact .inr h'
     ·rename_i hw
      rw[if_neg hw] at h'
      exact nx _ _ h'
end
theorem QiP {P:Program}{n id:Nat}{l l2:List Oper}{outs:List Tmp}{gs:List (Nat × Option Bool)}{bs:List Bool}{a:Act}{w:World}{L:List (Tmp × Value)}{Q:Exit→Act→World→Prop}
 (M:QaH) (W:World→Prop) (R:World→World→Prop)
 (hm:P.follows .mixedOrders=true) (hF:Fr n a L) (hL:(L.all fun p=>!(Ql l).contains p.1)=true) (hB:Qbs l n outs gs bs=true)
 (hT:(Qak 0 (l++l2)&&(Qau l.length l&&Qca (l++l2) l.length l2))=true)
 (hR:QdG R M) (hG:Z8 (QaH.E M) W l.toArray gs) (hW:W w.drew) (hO:Qbz (QaH.E M) a w.drew outs)
 (hA:QcF (QaH.E M) W R P l bs)
 (hend:∀ a' w',W w'→(∀ t,(Ql l).contains t=true→QaH.E M t (a'.tmps.getD t undef) w')→Fr n a' L→wpList P (l++l2).toArray Q l2 a' w') :
 (Code.region id (l++l2).toArray true).wp P Q a w:=by
 simp only[Bool.and_eq_true] at hT
 obtain⟨hT1,hT2,hT3⟩:=hT
 refine wp_region_any hm ?_
 have key:wpAny P .any l.toArray (Exit.then (fun a w=>wpList P (l++l2).toArray Q l2 a w) Q) l.length (Array.replicate l.length false) a w.drew:=by
  refine QaY (E:=QaH.E M) (W:=W) (R:=R) (a0:=a) (outs:=outs) (gs:=gs) (bs:=bs) (by rw[hF.size];exact hB) (Qbh M hR) hG hA ?_ _ _ _ _ (by simp) ?_ ⟨hW,rfl,rfl,fun _ _=>rfl,fun t ht _=>QbB outs hO t ht,?_⟩
  ·intro vs w' hw' hE
   have hlt:∀ t,(Ql l).contains t=true→t<a.tmps.size:=fun t ht=>by
    simp only[Qbs,Bool.and_eq_true] at hB
    have:=List.all_eq_true.1 hB.1.1.1.2 t (by simpa using ht)
    rw[hF.size];simpa using this
   have hat:∀ t,(Ql l).contains t=true→(Z3 a vs (Ql l)).tmps.getD t undef=vs t:=fun t ht=>by
    have:=QbT vs (Ql l) a t (hlt t ht)
    rw[if_pos (by simpa using ht)] at this
    rw[Array.getD_eq_getD_getElem?,this];rfl
   refine hend _ w' hw' (fun t ht=>by rw[hat t ht];exact hE t ht) ⟨by rw[Qaj,hF.size],by rw[Qax,hF.defers],fun t v hl=>?_⟩
   have hm:∃ p∈L,p.1=t:=by
    clear hL hO hend
    have:∀ (L:List (Tmp × Value)),L.lookup t=some v→∃ p∈L,p.1=t:=by
     intro L
     induction L with
     | nil=>intro h;simp at h
     | cons x r ih =>
       intro h;by_cases e:t=x.1
       ·exact⟨x,by simp,e.symm⟩
       ·have e':(t==x.1)=false:=beq_false_of_ne e;rw[List.lookup_cons,e'] at h
        obtain⟨p,hp,he⟩:=ih h
        exact⟨p,by simp[hp],he⟩
    exact this L hl
   obtain⟨p,hp,rfl⟩:=hm
   have hn:¬ p.1∈Ql l:=by
    have:=List.all_eq_true.1 hL p hp
    simpa using this
   rw[← hF.sl p.1 v hl]
   by_cases hlt':p.1<a.tmps.size
   ·have:=QbT vs (Ql l) a p.1 hlt'
    rw[if_neg hn] at this
    rw[Array.getD_eq_getD_getElem?,Array.getD_eq_getD_getElem?,this]
   ·have h9:a.tmps.size≤p.1:=Nat.le_of_not_lt hlt';rw[Array.getD_eq_getD_getElem?,Array.getD_eq_getD_getElem?,Array.getElem?_eq_none (by rw[Qaj];exact h9),Array.getElem?_eq_none h9]
  ·simp only[Array.toList_replicate]
   exact Nat.le_trans (List.length_filter_le _ _) (by simp)
  ·intro j o t hj hd hl;simp[Array.getD] at hl
 have:=QfI (Q:=Q) hT1 hT2 hT3 l.length (Array.replicate l.length false) a w.drew (by simp) (fun q o hq hS=>by simp[Array.getD] at hS) key
 have e:(Array.replicate l.length false++Array.replicate l2.length false:Array Bool)=Array.replicate (l++l2).toArray.size false:=by
  simp
 have e2:l.length+l2.length=(l++l2).toArray.size:=by simp
 rw[e,e2] at this
 exact this
theorem QgN {P:Program}{n id:Nat}{lo:List Oper}{outs:List Tmp}{gs:List (Nat × Option Bool)}{bs:List Bool}{a:Act}{w:World}{L:List (Tmp × Value)}{Q:Exit→Act→World→Prop}
 (k:Nat) (M:QaH) (W:World→Prop) (R:World→World→Prop)
 (hm:P.follows .mixedOrders=true) (hF:Fr n a L) (hL:(L.all fun p=>!(Ql (lo.take k)).contains p.1)=true) (hB:Qbs (lo.take k) n outs gs bs=true)
 (hT:(Qak 0 lo&&(Qau (lo.take k).length (lo.take k)&&Qca lo (lo.take k).length (lo.drop k)))=true)
 (hR:QdG R M) (hG:Z8 (QaH.E M) W (lo.take k).toArray gs) (hW:W w.drew) (hO:Qbz (QaH.E M) a w.drew outs)
 (hA:QcF (QaH.E M) W R P (lo.take k) bs)
 (hend:∀ ops a' w',W w'→(∀ t,(Ql (lo.take k)).contains t=true→QaH.E M t (a'.tmps.getD t undef) w')→Fr n a' L→wpList P ops Q (lo.drop k) a' w') :
 (Code.region id lo.toArray true).wp P Q a w:=by
 have h:=QiP (id:=id) (l:=lo.take k) (l2:=lo.drop k) (Q:=Q) M W R hm hF hL hB (by rw[List.take_append_drop];exact hT) hR hG hW hO hA (hend _);rwa [List.take_append_drop] at h
end Go.Proofs.YtacjnejckfhpoaeGreat
namespace Go.Proofs.YtacjnejckfhpoaeGreat
open Go.ChangeShapes Go.WideShapes Go.ChangeAt Go.RowKit
set_option linter.unusedSimpArgs false
set_option linter.unusedVariables false
def Qi (L:List (Tmp × Value)):Operand→Option Value
 | .tmp t=>L.lookup t
 | .const v=>some v
 | .func f=>some (.func (.func f) #[] #[])
 | _=>none
abbrev St (n:Nat) (L:List (Tmp × Value)) (ops:Array Oper) (Q:Exit→Act→World→Prop) (l:List Oper) (w:World):Prop:=∀ a,Fr n a L→wpList Tryz.prog ops Q l a w
def Gok (ops:Array Oper) (n:Nat) (L:List (Tmp × Value)):Option (Nat × Bool)→Prop
 | none=>True
 | some (g,want)=>∃ tg,(ops[g]?).bind (fun o:Oper=>o.dst)=some tg∧Nat.blt tg n=true∧L.lookup tg=some (.bool want)
section
variable {n:Nat}{a:Act}{L:List (Tmp × Value)}{w0 w:World}{Bs:List (Nat × Array Value × TypeId)}{Q:Exit→Act→World→Prop}{ops:Array Oper}{rest:List Oper}{t:Tmp}{u v:Value}{ty ty2 ty3:TypeId}{pos:String}{aft:Array Edge}{gd:Option (Nat × Bool)}{x y z:Operand}{g tg:Nat}{want b:Bool}
theorem Fr.ev (h:Fr n a L) (e:Qi L x=some v):a.eval x=v:=by
 cases x<;>simp only[Qi,Option.some.injEq,reduceCtorEq] at e
 ·exact h.sl _ _ e
 ·exact e
 ·subst e;rfl
theorem Gok.on {o:Oper}(hF:Fr n a L) (h:Gok ops n L o.guard):Region.wanted o (yielded ops a.tmps)=true:=by
 cases hg:o.guard with
 | none=>simp[Region.wanted,hg]
 | some p =>
   obtain⟨g,want⟩:=p
   rw[hg] at h
   obtain⟨tg,h1,h2,h3⟩:=h
   rw[Qgi hF hg h1 h2 h3];simp
theorem St.go {l:List Oper}(hF:Fr n a L) (h:St n L ops Q l w):wpList Tryz.prog ops Q l a w:=h a hF
theorem rg {id:Nat}{l:List Oper}(hF:Fr n a L) (h:∀ ops,St n L ops Q l w):(Code.region id l.toArray false).wp Tryz.prog Q a w:=Zh fun ops _=>h ops a hF
theorem St.nil (h:∀ a,Fr n a L→Q .normal a w):St n L ops Q [] w:=h
theorem Qn {o:Oper}(hg:Gok ops n L o.guard) (hd:o.dst=some t) (ht:Nat.blt t n=true)
 (h:∀ ev:Operand→Value,(∀ x v,Qi L x=some v→ev x=v)→(execOp ev o).run Tryz.prog w=.ok (.value v) w)
 (k:St n ((t,v)::L) ops Q rest w):St n L ops Q (o::rest) w:=fun a hF =>
 wpList_step fun K hK=>by
  rw[if_pos (hg.on hF)]
  unfold Oper.wp;rw[h a.eval (fun x v e=>hF.ev e),Oper.upon_value,hd]
  exact hK _ _ (k _ (hF.put ht))
theorem so {op:Op}(hs:(ops[g]?).bind (fun o:Oper=>o.dst)=some tg) (htg:Nat.blt tg n=true) (hv:L.lookup tg=some u) (hu:(match u with | .bool b=>b==want | _=>false)=false) (ht:Nat.blt t n=true)
 (k:St n ((t,undef)::L) ops Q rest w):St n L ops Q (⟨some t,op,ty,pos,aft,some (g,want)⟩::rest) w:=fun a hF =>
 Qk8 hF rfl rfl hs htg hv hu ht k
theorem sm (hg:Gok ops n L gd) (hx:Qi L x=some (v)) (ht:Nat.blt t n=true)
 (k:St n ((t,v)::L) ops Q rest w):St n L ops Q (⟨some t,.move x,ty,pos,aft,gd⟩::rest) w :=
 Qn hg rfl ht (fun ev hev=>by have e:=hev _ _ hx;simp[go_sem,e]) k
theorem sa (hg:Gok ops n L gd) (hx:Qi L x=some (v)) (ht:Nat.blt t n=true)
 (k:St n ((t,v)::L) ops Q rest w):St n L ops Q (⟨some t,.assign x,ty,pos,aft,gd⟩::rest) w :=
 Qn hg rfl ht (fun ev hev=>by have e:=hev _ _ hx;simp[go_sem,e]) k
theorem sn (hg:Gok ops n L gd) (hx:Qi L x=some (.bool b)) (ht:Nat.blt t n=true)
 (k:St n ((t,.bool (!b))::L) ops Q rest w):St n L ops Q (⟨some t,.unOp .not ty2 x,ty,pos,aft,gd⟩::rest) w :=
 Qn hg rfl ht (fun ev hev=>by have e:=hev _ _ hx;simp[go_sem,e]) k
theorem sp (hg:Gok ops n L gd) (hx:Qi L x=some (.bool true)) (hy:Qi L y=some (v)) (ht:Nat.blt t n=true)
 (k:St n ((t,v)::L) ops Q rest w):St n L ops Q (⟨some t,.pick x y z,ty,pos,aft,gd⟩::rest) w :=
 Qn hg rfl ht (fun ev hev=>by have e:=hev _ _ hx;have e2:=hev _ _ hy;simp[go_sem,e,e2]) k
theorem spf (hg:Gok ops n L gd) (hx:Qi L x=some (.bool false)) (hz:Qi L z=some (v)) (ht:Nat.blt t n=true)
 (k:St n ((t,v)::L) ops Q rest w):St n L ops Q (⟨some t,.pick x y z,ty,pos,aft,gd⟩::rest) w :=
 Qn hg rfl ht (fun ev hev=>by have e:=hev _ _ hx;have e2:=hev _ _ hz;simp[go_sem,e,e2]) k
theorem seq {p q:Int}(hg:Gok ops n L gd) (hx:Qi L x=some (.int .i64 p)) (hy:Qi L y=some (.int .i64 q)) (ht:Nat.blt t n=true)
 (k:St n ((t,.bool (p==q))::L) ops Q rest w):St n L ops Q (⟨some t,.binOp .eql 3 x y 3,ty,pos,aft,gd⟩::rest) w :=
 Qn hg rfl ht (fun ev hev=>by have e:=hev _ _ hx;have e2:=hev _ _ hy;simp[go_sem,e,e2]) k
theorem sne {p q:Int}(hg:Gok ops n L gd) (hx:Qi L x=some (.int .i64 p)) (hy:Qi L y=some (.int .i64 q)) (ht:Nat.blt t n=true)
 (k:St n ((t,.bool (p != q))::L) ops Q rest w):St n L ops Q (⟨some t,.binOp .neq 3 x y 3,ty,pos,aft,gd⟩::rest) w :=
 Qn hg rfl ht (fun ev hev=>by have e:=hev _ _ hx;have e2:=hev _ _ hy;simp[go_sem,e,e2]) k
theorem slt {p q:Int}(hg:Gok ops n L gd) (hx:Qi L x=some (.int .i64 p)) (hy:Qi L y=some (.int .i64 q)) (ht:Nat.blt t n=true)
 (k:St n ((t,.bool (decide (p<q)))::L) ops Q rest w):St n L ops Q (⟨some t,.binOp .lss 3 x y 3,ty,pos,aft,gd⟩::rest) w :=
 Qn hg rfl ht (fun ev hev=>by have e:=hev _ _ hx;have e2:=hev _ _ hy;simp[go_sem,e,e2]) k
theorem sgt {p q:Int}(hg:Gok ops n L gd) (hx:Qi L x=some (.int .i64 p)) (hy:Qi L y=some (.int .i64 q)) (ht:Nat.blt t n=true)
 (k:St n ((t,.bool (decide (q<p)))::L) ops Q rest w):St n L ops Q (⟨some t,.binOp .gtr 3 x y 3,ty,pos,aft,gd⟩::rest) w :=
 Qn hg rfl ht (fun ev hev=>by have e:=hev _ _ hx;have e2:=hev _ _ hy;simp[go_sem,e,e2]) k
theorem sge {p q:Int}(hg:Gok ops n L gd) (hx:Qi L x=some (.int .i64 p)) (hy:Qi L y=some (.int .i64 q)) (ht:Nat.blt t n=true)
 (k:St n ((t,.bool (decide (q≤p)))::L) ops Q rest w):St n L ops Q (⟨some t,.binOp .geq 3 x y 3,ty,pos,aft,gd⟩::rest) w :=
 Qn hg rfl ht (fun ev hev=>by have e:=hev _ _ hx;have e2:=hev _ _ hy;simp[go_sem,e,e2]) k
theorem QlN {p q:Int}(hg:Gok ops n L gd) (hx:Qi L x=some (.int .i64 p)) (hy:Qi L y=some (.int .i64 q)) (ht:Nat.blt t n=true)
 (k:St n ((t,.bool (p != q))::L) ops Q rest w):St n L ops Q (⟨some t,.binOp .neq 2 x y 2,ty,pos,aft,gd⟩::rest) w :=
 Qn hg rfl ht (fun ev hev=>by have e:=hev _ _ hx;have e2:=hev _ _ hy;simp[go_sem,e,e2]) k
theorem sad {q:Nat}(hq:q<4611686018427387904) (hg:Gok ops n L gd) (hx:Qi L x=some (.int .i64 (q:Int))) (hy:Qi L y=some (.int .i64 1)) (ht:Nat.blt t n=true)
 (k:St n ((t,.int .i64 ((q:Int)+1))::L) ops Q rest w):St n L ops Q (⟨some t,.binOp .add 3 x y 3,ty,pos,aft,gd⟩::rest) w :=
 Qn hg rfl ht (fun ev hev=>by have e:=hev _ _ hx;have e2:=hev _ _ hy;have e3:=Qhv q hq;simp[go_sem,e,e2,e3]) k
theorem Qe2 {p:Option Addr}{m c:Nat}(hg:Gok ops n L gd) (hx:Qi L x=some (.slice p m c)) (ht:Nat.blt t n=true)
 (k:St n ((t,.int .i64 (m:Int))::L) ops Q rest w):St n L ops Q (⟨some t,.call { callee:=.builtin .len,args:=#[x],argTypes:=#[35] },3,pos,aft,gd⟩::rest) w :=
 Qn hg rfl ht (fun ev hev=>by have e:=hev _ _ hx;simp[go_sem,e]) k
theorem QaN {p:Option Addr}{m c:Nat}(hg:Gok ops n L gd) (hx:Qi L x=some (.slice p m c)) (ht:Nat.blt t n=true)
 (k:St n ((t,.int .i64 (m:Int))::L) ops Q rest w):St n L ops Q (⟨some t,.call { callee:=.builtin .len,args:=#[x],argTypes:=#[33] },3,pos,aft,gd⟩::rest) w :=
 Qn hg rfl ht (fun ev hev=>by have e:=hev _ _ hx;simp[go_sem,e]) k
theorem QcN {p:Option Addr}{m c q B j:Nat}(hp:p=some ⟨B,j,none⟩) (hq:q<m) (hg:Gok ops n L gd) (hx:Qi L x=some (.slice p m c)) (hy:Qi L y=some (.int .i64 (q:Int))) (ht:Nat.blt t n=true)
 (k:St n ((t,.pointer (some ⟨B,j+q*3,none⟩))::L) ops Q rest w):St n L ops Q (⟨some t,.indexAddr 33 x y,ty,pos,aft,gd⟩::rest) w :=
 Qn hg rfl ht (fun ev hev=>by have e:=hev _ _ hx;have e2:=hev _ _ hy;have h0:=Int.natCast_nonneg q;have h1:=Int.ofNat_lt.2 hq;subst hp;simp[go_sem,e,e2,h0,h1,hq]) k
theorem Qdk {p:Option Addr}{m c:Nat}(hg:Gok ops n L gd) (hx:Qi L x=some (.slice p m c)) (ht:Nat.blt t n=true)
 (k:St n ((t,.int .i64 (m:Int))::L) ops Q rest w):St n L ops Q (⟨some t,.call { callee:=.builtin .len,args:=#[x],argTypes:=#[25] },3,pos,aft,gd⟩::rest) w :=
 Qn hg rfl ht (fun ev hev=>by have e:=hev _ _ hx;simp[go_sem,e]) k
theorem Qgg {p:Option Addr}{m c q B j:Nat}(hp:p=some ⟨B,j,none⟩) (hq:q<m) (hg:Gok ops n L gd) (hx:Qi L x=some (.slice p m c)) (hy:Qi L y=some (.int .i64 (q:Int))) (ht:Nat.blt t n=true)
 (k:St n ((t,.pointer (some ⟨B,j+q*8,none⟩))::L) ops Q rest w):St n L ops Q (⟨some t,.indexAddr 25 x y,ty,pos,aft,gd⟩::rest) w :=
 Qn hg rfl ht (fun ev hev=>by have e:=hev _ _ hx;have e2:=hev _ _ hy;have h0:=Int.natCast_nonneg q;have h1:=Int.ofNat_lt.2 hq;subst hp;simp[go_sem,e,e2,h0,h1,hq]) k
theorem Qco {p:Option Addr}{m c:Nat}(hg:Gok ops n L gd) (hx:Qi L x=some (.slice p m c)) (ht:Nat.blt t n=true)
 (k:St n ((t,.int .i64 (m:Int))::L) ops Q rest w):St n L ops Q (⟨some t,.call { callee:=.builtin .len,args:=#[x],argTypes:=#[38] },3,pos,aft,gd⟩::rest) w :=
 Qn hg rfl ht (fun ev hev=>by have e:=hev _ _ hx;simp[go_sem,e]) k
theorem Qcq {p:Option Addr}{m c q B j:Nat}(hp:p=some ⟨B,j,none⟩) (hq:q<m) (hg:Gok ops n L gd) (hx:Qi L x=some (.slice p m c)) (hy:Qi L y=some (.int .i64 (q:Int))) (ht:Nat.blt t n=true)
 (k:St n ((t,.pointer (some ⟨B,j+q*12,none⟩))::L) ops Q rest w):St n L ops Q (⟨some t,.indexAddr 38 x y,ty,pos,aft,gd⟩::rest) w :=
 Qn hg rfl ht (fun ev hev=>by have e:=hev _ _ hx;have e2:=hev _ _ hy;have h0:=Int.natCast_nonneg q;have h1:=Int.ofNat_lt.2 hq;subst hp;simp[go_sem,e,e2,h0,h1,hq]) k
theorem Qbj {p:Option Addr}{m c:Nat}(hg:Gok ops n L gd) (hx:Qi L x=some (.slice p m c)) (ht:Nat.blt t n=true)
 (k:St n ((t,.int .i64 (m:Int))::L) ops Q rest w):St n L ops Q (⟨some t,.call { callee:=.builtin .len,args:=#[x],argTypes:=#[22] },3,pos,aft,gd⟩::rest) w :=
 Qn hg rfl ht (fun ev hev=>by have e:=hev _ _ hx;simp[go_sem,e]) k
theorem Qd8 {p:Option Addr}{m c q B j:Nat}(hp:p=some ⟨B,j,none⟩) (hq:q<m) (hg:Gok ops n L gd) (hx:Qi L x=some (.slice p m c)) (hy:Qi L y=some (.int .i64 (q:Int))) (ht:Nat.blt t n=true)
 (k:St n ((t,.pointer (some ⟨B,j+q*4,none⟩))::L) ops Q rest w):St n L ops Q (⟨some t,.indexAddr 22 x y,ty,pos,aft,gd⟩::rest) w :=
 Qn hg rfl ht (fun ev hev=>by have e:=hev _ _ hx;have e2:=hev _ _ hy;have h0:=Int.natCast_nonneg q;have h1:=Int.ofNat_lt.2 hq;subst hp;simp[go_sem,e,e2,h0,h1,hq]) k
theorem QkE {B j:Nat}(hg:Gok ops n L gd) (hx:Qi L x=some (.pointer (some ⟨B,j,none⟩))) (ht:Nat.blt t n=true)
 (k:St n ((t,.pointer (some ⟨B,j,none⟩))::L) ops Q rest w):St n L ops Q (⟨some t,.fieldAddr 70 x 0,ty,pos,aft,gd⟩::rest) w :=
 Qn hg rfl ht (fun ev hev=>by have e:=hev _ _ hx;simp[go_sem,e]) k
theorem QhZ {B j:Nat}(hg:Gok ops n L gd) (hx:Qi L x=some (.pointer (some ⟨B,j,none⟩))) (ht:Nat.blt t n=true)
 (k:St n ((t,.pointer (some ⟨B,j+2,none⟩))::L) ops Q rest w):St n L ops Q (⟨some t,.fieldAddr 70 x 2,ty,pos,aft,gd⟩::rest) w :=
 Qn hg rfl ht (fun ev hev=>by have e:=hev _ _ hx;simp[go_sem,e]) k
theorem Qig {B j:Nat}(hg:Gok ops n L gd) (hx:Qi L x=some (.pointer (some ⟨B,j,none⟩))) (ht:Nat.blt t n=true)
 (k:St n ((t,.pointer (some ⟨B,j,none⟩))::L) ops Q rest w):St n L ops Q (⟨some t,.fieldAddr 46 x 0,ty,pos,aft,gd⟩::rest) w :=
 Qn hg rfl ht (fun ev hev=>by have e:=hev _ _ hx;simp[go_sem,e]) k
theorem QkN {B j:Nat}(hg:Gok ops n L gd) (hx:Qi L x=some (.pointer (some ⟨B,j,none⟩))) (ht:Nat.blt t n=true)
 (k:St n ((t,.pointer (some ⟨B,j+1,none⟩))::L) ops Q rest w):St n L ops Q (⟨some t,.fieldAddr 46 x 1,ty,pos,aft,gd⟩::rest) w :=
 Qn hg rfl ht (fun ev hev=>by have e:=hev _ _ hx;simp[go_sem,e]) k
theorem QkJ {B j:Nat}(hg:Gok ops n L gd) (hx:Qi L x=some (.pointer (some ⟨B,j,none⟩))) (ht:Nat.blt t n=true)
 (k:St n ((t,.pointer (some ⟨B,j+2,none⟩))::L) ops Q rest w):St n L ops Q (⟨some t,.fieldAddr 46 x 2,ty,pos,aft,gd⟩::rest) w :=
 Qn hg rfl ht (fun ev hev=>by have e:=hev _ _ hx;simp[go_sem,e]) k
theorem QkI {B j:Nat}(hg:Gok ops n L gd) (hx:Qi L x=some (.pointer (some ⟨B,j,none⟩))) (ht:Nat.blt t n=true)
 (k:St n ((t,.pointer (some ⟨B,j+3,none⟩))::L) ops Q rest w):St n L ops Q (⟨some t,.fieldAddr 46 x 3,ty,pos,aft,gd⟩::rest) w :=
 Qn hg rfl ht (fun ev hev=>by have e:=hev _ _ hx;simp[go_sem,e]) k
theorem QbN {B j:Nat}(hg:Gok ops n L gd) (hx:Qi L x=some (.pointer (some ⟨B,j,none⟩))) (ht:Nat.blt t n=true)
 (k:St n ((t,.pointer (some ⟨B,j+4,none⟩))::L) ops Q rest w):St n L ops Q (⟨some t,.fieldAddr 46 x 4,ty,pos,aft,gd⟩::rest) w :=
 Qn hg rfl ht (fun ev hev=>by have e:=hev _ _ hx;simp[go_sem,e]) k
theorem QkR {B j:Nat}(hg:Gok ops n L gd) (hx:Qi L x=some (.pointer (some ⟨B,j,none⟩))) (ht:Nat.blt t n=true)
 (k:St n ((t,.pointer (some ⟨B,j+5,none⟩))::L) ops Q rest w):St n L ops Q (⟨some t,.fieldAddr 46 x 5,ty,pos,aft,gd⟩::rest) w :=
 Qn hg rfl ht (fun ev hev=>by have e:=hev _ _ hx;simp[go_sem,e]) k
theorem QjN {B j:Nat}(hg:Gok ops n L gd) (hx:Qi L x=some (.pointer (some ⟨B,j,none⟩))) (ht:Nat.blt t n=true)
 (k:St n ((t,.pointer (some ⟨B,j+6,none⟩))::L) ops Q rest w):St n L ops Q (⟨some t,.fieldAddr 46 x 6,ty,pos,aft,gd⟩::rest) w :=
 Qn hg rfl ht (fun ev hev=>by have e:=hev _ _ hx;simp[go_sem,e]) k
theorem QeK {B j:Nat}(hg:Gok ops n L gd) (hx:Qi L x=some (.pointer (some ⟨B,j,none⟩))) (ht:Nat.blt t n=true)
 (k:St n ((t,.pointer (some ⟨B,j+7,none⟩))::L) ops Q rest w):St n L ops Q (⟨some t,.fieldAddr 46 x 7,ty,pos,aft,gd⟩::rest) w :=
 Qn hg rfl ht (fun ev hev=>by have e:=hev _ _ hx;simp[go_sem,e]) k
theorem Qlh {B j:Nat}(hg:Gok ops n L gd) (hx:Qi L x=some (.pointer (some ⟨B,j,none⟩))) (ht:Nat.blt t n=true)
 (k:St n ((t,.pointer (some ⟨B,j+2,none⟩))::L) ops Q rest w):St n L ops Q (⟨some t,.fieldAddr 56 x 2,ty,pos,aft,gd⟩::rest) w :=
 Qn hg rfl ht (fun ev hev=>by have e:=hev _ _ hx;simp[go_sem,e]) k
theorem QkL {B j:Nat}(hg:Gok ops n L gd) (hx:Qi L x=some (.pointer (some ⟨B,j,none⟩))) (ht:Nat.blt t n=true)
 (k:St n ((t,.pointer (some ⟨B,j+5,none⟩))::L) ops Q rest w):St n L ops Q (⟨some t,.fieldAddr 58 x 3,ty,pos,aft,gd⟩::rest) w :=
 Qn hg rfl ht (fun ev hev=>by have e:=hev _ _ hx;simp[go_sem,e]) k
theorem Qk1 {B j:Nat}(hg:Gok ops n L gd) (hx:Qi L x=some (.pointer (some ⟨B,j,none⟩))) (ht:Nat.blt t n=true)
 (k:St n ((t,.pointer (some ⟨B,j+8,none⟩))::L) ops Q rest w):St n L ops Q (⟨some t,.fieldAddr 58 x 4,ty,pos,aft,gd⟩::rest) w :=
 Qn hg rfl ht (fun ev hev=>by have e:=hev _ _ hx;simp[go_sem,e]) k
theorem Qcw {B j:Nat}(hg:Gok ops n L gd) (hx:Qi L x=some (.pointer (some ⟨B,j,none⟩))) (ht:Nat.blt t n=true)
 (k:St n ((t,.pointer (some ⟨B,j,none⟩))::L) ops Q rest w):St n L ops Q (⟨some t,.fieldAddr 60 x 0,ty,pos,aft,gd⟩::rest) w :=
 Qn hg rfl ht (fun ev hev=>by have e:=hev _ _ hx;simp[go_sem,e]) k
theorem Qcr {B j:Nat}(hg:Gok ops n L gd) (hx:Qi L x=some (.pointer (some ⟨B,j,none⟩))) (ht:Nat.blt t n=true)
 (k:St n ((t,.pointer (some ⟨B,j+1,none⟩))::L) ops Q rest w):St n L ops Q (⟨some t,.fieldAddr 60 x 1,ty,pos,aft,gd⟩::rest) w :=
 Qn hg rfl ht (fun ev hev=>by have e:=hev _ _ hx;simp[go_sem,e]) k
theorem ZQ {B j:Nat}(hg:Gok ops n L gd) (hx:Qi L x=some (.pointer (some ⟨B,j,none⟩))) (ht:Nat.blt t n=true)
 (k:St n ((t,.pointer (some ⟨B,j+2,none⟩))::L) ops Q rest w):St n L ops Q (⟨some t,.fieldAddr 60 x 2,ty,pos,aft,gd⟩::rest) w :=
 Qn hg rfl ht (fun ev hev=>by have e:=hev _ _ hx;simp[go_sem,e]) k
theorem Qf6 {B j:Nat}(hg:Gok ops n L gd) (hx:Qi L x=some (.pointer (some ⟨B,j,none⟩))) (ht:Nat.blt t n=true)
 (k:St n ((t,.pointer (some ⟨B,j+3,none⟩))::L) ops Q rest w):St n L ops Q (⟨some t,.fieldAddr 60 x 3,ty,pos,aft,gd⟩::rest) w :=
 Qn hg rfl ht (fun ev hev=>by have e:=hev _ _ hx;simp[go_sem,e]) k
theorem QfJ {B j:Nat}(hg:Gok ops n L gd) (hx:Qi L x=some (.pointer (some ⟨B,j,none⟩))) (ht:Nat.blt t n=true)
 (k:St n ((t,.pointer (some ⟨B,j,none⟩))::L) ops Q rest w):St n L ops Q (⟨some t,.fieldAddr 40 x 0,ty,pos,aft,gd⟩::rest) w :=
 Qn hg rfl ht (fun ev hev=>by have e:=hev _ _ hx;simp[go_sem,e]) k
theorem Qd9 {B j:Nat}(hg:Gok ops n L gd) (hx:Qi L x=some (.pointer (some ⟨B,j,none⟩))) (ht:Nat.blt t n=true)
 (k:St n ((t,.pointer (some ⟨B,j+1,none⟩))::L) ops Q rest w):St n L ops Q (⟨some t,.fieldAddr 40 x 1,ty,pos,aft,gd⟩::rest) w :=
 Qn hg rfl ht (fun ev hev=>by have e:=hev _ _ hx;simp[go_sem,e]) k
theorem Qfm {B j:Nat}(hg:Gok ops n L gd) (hx:Qi L x=some (.pointer (some ⟨B,j,none⟩))) (ht:Nat.blt t n=true)
 (k:St n ((t,.pointer (some ⟨B,j+2,none⟩))::L) ops Q rest w):St n L ops Q (⟨some t,.fieldAddr 40 x 2,ty,pos,aft,gd⟩::rest) w :=
 Qn hg rfl ht (fun ev hev=>by have e:=hev _ _ hx;simp[go_sem,e]) k
theorem Qbd {B j:Nat}(hg:Gok ops n L gd) (hx:Qi L x=some (.pointer (some ⟨B,j,none⟩))) (ht:Nat.blt t n=true)
 (k:St n ((t,.pointer (some ⟨B,j+3,none⟩))::L) ops Q rest w):St n L ops Q (⟨some t,.fieldAddr 40 x 3,ty,pos,aft,gd⟩::rest) w :=
 Qn hg rfl ht (fun ev hev=>by have e:=hev _ _ hx;simp[go_sem,e]) k
theorem ZF {B j:Nat}(hg:Gok ops n L gd) (hx:Qi L x=some (.pointer (some ⟨B,j,none⟩))) (ht:Nat.blt t n=true)
 (k:St n ((t,.pointer (some ⟨B,j,none⟩))::L) ops Q rest w):St n L ops Q (⟨some t,.fieldAddr 24 x 0,ty,pos,aft,gd⟩::rest) w :=
 Qn hg rfl ht (fun ev hev=>by have e:=hev _ _ hx;simp[go_sem,e]) k
theorem Qcx {B j:Nat}(hg:Gok ops n L gd) (hx:Qi L x=some (.pointer (some ⟨B,j,none⟩))) (ht:Nat.blt t n=true)
 (k:St n ((t,.pointer (some ⟨B,j,none⟩))::L) ops Q rest w):St n L ops Q (⟨some t,.fieldAddr 30 x 0,ty,pos,aft,gd⟩::rest) w :=
 Qn hg rfl ht (fun ev hev=>by have e:=hev _ _ hx;simp[go_sem,e]) k
theorem Qhk {B j:Nat}(hg:Gok ops n L gd) (hx:Qi L x=some (.pointer (some ⟨B,j,none⟩))) (ht:Nat.blt t n=true)
 (k:St n ((t,.pointer (some ⟨B,j,none⟩))::L) ops Q rest w):St n L ops Q (⟨some t,.fieldAddr 144 x 0,ty,pos,aft,gd⟩::rest) w :=
 Qn hg rfl ht (fun ev hev=>by have e:=hev _ _ hx;simp[go_sem,e]) k
theorem Qhu {B j:Nat}(hg:Gok ops n L gd) (hx:Qi L x=some (.pointer (some ⟨B,j,none⟩))) (ht:Nat.blt t n=true)
 (k:St n ((t,.pointer (some ⟨B,j+1,none⟩))::L) ops Q rest w):St n L ops Q (⟨some t,.fieldAddr 144 x 1,ty,pos,aft,gd⟩::rest) w :=
 Qn hg rfl ht (fun ev hev=>by have e:=hev _ _ hx;simp[go_sem,e]) k
theorem Qiw {B j:Nat}(hg:Gok ops n L gd) (hx:Qi L x=some (.pointer (some ⟨B,j,none⟩))) (ht:Nat.blt t n=true)
 (k:St n ((t,.pointer (some ⟨B,j+2,none⟩))::L) ops Q rest w):St n L ops Q (⟨some t,.fieldAddr 144 x 2,ty,pos,aft,gd⟩::rest) w :=
 Qn hg rfl ht (fun ev hev=>by have e:=hev _ _ hx;simp[go_sem,e]) k
theorem Qh0 {B j:Nat}(hg:Gok ops n L gd) (hx:Qi L x=some (.pointer (some ⟨B,j,none⟩))) (ht:Nat.blt t n=true)
 (k:St n ((t,.pointer (some ⟨B,j+3,none⟩))::L) ops Q rest w):St n L ops Q (⟨some t,.fieldAddr 144 x 3,ty,pos,aft,gd⟩::rest) w :=
 Qn hg rfl ht (fun ev hev=>by have e:=hev _ _ hx;simp[go_sem,e]) k
theorem QhU {B j:Nat}(hg:Gok ops n L gd) (hx:Qi L x=some (.pointer (some ⟨B,j,none⟩))) (ht:Nat.blt t n=true)
 (k:St n ((t,.pointer (some ⟨B,j+4,none⟩))::L) ops Q rest w):St n L ops Q (⟨some t,.fieldAddr 144 x 4,ty,pos,aft,gd⟩::rest) w :=
 Qn hg rfl ht (fun ev hev=>by have e:=hev _ _ hx;simp[go_sem,e]) k
theorem Qhg {B j:Nat}(hg:Gok ops n L gd) (hx:Qi L x=some (.pointer (some ⟨B,j,none⟩))) (ht:Nat.blt t n=true)
 (k:St n ((t,.pointer (some ⟨B,j+5,none⟩))::L) ops Q rest w):St n L ops Q (⟨some t,.fieldAddr 144 x 5,ty,pos,aft,gd⟩::rest) w :=
 Qn hg rfl ht (fun ev hev=>by have e:=hev _ _ hx;simp[go_sem,e]) k
theorem Qhs {B j:Nat}(hg:Gok ops n L gd) (hx:Qi L x=some (.pointer (some ⟨B,j,none⟩))) (ht:Nat.blt t n=true)
 (k:St n ((t,.pointer (some ⟨B,j+6,none⟩))::L) ops Q rest w):St n L ops Q (⟨some t,.fieldAddr 144 x 6,ty,pos,aft,gd⟩::rest) w :=
 Qn hg rfl ht (fun ev hev=>by have e:=hev _ _ hx;simp[go_sem,e]) k
theorem Zy {B j:Nat}(hg:Gok ops n L gd) (hx:Qi L x=some (.pointer (some ⟨B,j,none⟩))) (ht:Nat.blt t n=true)
 (k:St n ((t,.pointer (some ⟨B,j+1,none⟩))::L) ops Q rest w):St n L ops Q (⟨some t,.fieldAddr 93 x 1,ty,pos,aft,gd⟩::rest) w :=
 Qn hg rfl ht (fun ev hev=>by have e:=hev _ _ hx;simp[go_sem,e]) k
theorem QcX {B j:Nat}(hg:Gok ops n L gd) (hx:Qi L x=some (.pointer (some ⟨B,j,none⟩))) (ht:Nat.blt t n=true)
 (k:St n ((t,.pointer (some ⟨B,j+5,none⟩))::L) ops Q rest w):St n L ops Q (⟨some t,.fieldAddr 93 x 2,ty,pos,aft,gd⟩::rest) w :=
 Qn hg rfl ht (fun ev hev=>by have e:=hev _ _ hx;simp[go_sem,e]) k
theorem Z2 {B j:Nat}(hg:Gok ops n L gd) (hx:Qi L x=some (.pointer (some ⟨B,j,none⟩))) (ht:Nat.blt t n=true)
 (k:St n ((t,.pointer (some ⟨B,j,none⟩))::L) ops Q rest w):St n L ops Q (⟨some t,.fieldAddr 131 x 0,ty,pos,aft,gd⟩::rest) w :=
 Qn hg rfl ht (fun ev hev=>by have e:=hev _ _ hx;simp[go_sem,e]) k
theorem Q5 {B j:Nat}(hg:Gok ops n L gd) (hx:Qi L x=some (.pointer (some ⟨B,j,none⟩))) (ht:Nat.blt t n=true)
 (k:St n ((t,.pointer (some ⟨B,j+6,none⟩))::L) ops Q rest w):St n L ops Q (⟨some t,.fieldAddr 131 x 1,ty,pos,aft,gd⟩::rest) w :=
 Qn hg rfl ht (fun ev hev=>by have e:=hev _ _ hx;simp[go_sem,e]) k
theorem Qcj {B j:Nat}(hg:Gok ops n L gd) (hx:Qi L x=some (.pointer (some ⟨B,j,none⟩))) (ht:Nat.blt t n=true)
 (k:St n ((t,.pointer (some ⟨B,j+18,none⟩))::L) ops Q rest w):St n L ops Q (⟨some t,.fieldAddr 131 x 2,ty,pos,aft,gd⟩::rest) w :=
 Qn hg rfl ht (fun ev hev=>by have e:=hev _ _ hx;simp[go_sem,e]) k
theorem Qli {B j:Nat}(hc:w.cell? ⟨B,j,none⟩=some v) (hg:Gok ops n L gd) (hx:Qi L x=some (.pointer (some ⟨B,j,none⟩))) (ht:Nat.blt t n=true)
 (k:St n ((t,v)::L) ops Q rest w):St n L ops Q (⟨some t,.load 3 x,ty,pos,aft,gd⟩::rest) w :=
 Qn hg rfl ht (fun ev hev=>by have e:=hev _ _ hx;simp[go_sem,e,hc]) k
theorem Zw (i:Nat){B j:Nat}{c:Array Value}{bt:TypeId}(hW:Wd w0 w Bs) (hg:Gok ops n L gd) (hx:Qi L x=some (.pointer (some ⟨B,j,none⟩))) (hb:Bs[i]?=some (B,c,bt)) (hc:c[j]?=some v) (ht:Nat.blt t n=true)
 (k:St n ((t,v)::L) ops Q rest w):St n L ops Q (⟨some t,.load 3 x,ty,pos,aft,gd⟩::rest) w:=Qli (Qb (hW.get i hb) j v hc) hg hx ht k
theorem QkH {B j:Nat}(hc:w.cell? ⟨B,j,none⟩=some v) (hg:Gok ops n L gd) (hx:Qi L x=some (.pointer (some ⟨B,j,none⟩))) (ht:Nat.blt t n=true)
 (k:St n ((t,v)::L) ops Q rest w):St n L ops Q (⟨some t,.load 2 x,ty,pos,aft,gd⟩::rest) w :=
 Qn hg rfl ht (fun ev hev=>by have e:=hev _ _ hx;simp[go_sem,e,hc]) k
theorem QkT (i:Nat){B j:Nat}{c:Array Value}{bt:TypeId}(hW:Wd w0 w Bs) (hg:Gok ops n L gd) (hx:Qi L x=some (.pointer (some ⟨B,j,none⟩))) (hb:Bs[i]?=some (B,c,bt)) (hc:c[j]?=some v) (ht:Nat.blt t n=true)
 (k:St n ((t,v)::L) ops Q rest w):St n L ops Q (⟨some t,.load 2 x,ty,pos,aft,gd⟩::rest) w:=QkH (Qb (hW.get i hb) j v hc) hg hx ht k
theorem QkX {B j:Nat}(hc:w.cell? ⟨B,j,none⟩=some v) (hg:Gok ops n L gd) (hx:Qi L x=some (.pointer (some ⟨B,j,none⟩))) (ht:Nat.blt t n=true)
 (k:St n ((t,v)::L) ops Q rest w):St n L ops Q (⟨some t,.load 4 x,ty,pos,aft,gd⟩::rest) w :=
 Qn hg rfl ht (fun ev hev=>by have e:=hev _ _ hx;simp[go_sem,e,hc]) k
theorem Qcz (i:Nat){B j:Nat}{c:Array Value}{bt:TypeId}(hW:Wd w0 w Bs) (hg:Gok ops n L gd) (hx:Qi L x=some (.pointer (some ⟨B,j,none⟩))) (hb:Bs[i]?=some (B,c,bt)) (hc:c[j]?=some v) (ht:Nat.blt t n=true)
 (k:St n ((t,v)::L) ops Q rest w):St n L ops Q (⟨some t,.load 4 x,ty,pos,aft,gd⟩::rest) w:=QkX (Qb (hW.get i hb) j v hc) hg hx ht k
theorem QkZ {B j:Nat}(hc:w.cell? ⟨B,j,none⟩=some v) (hg:Gok ops n L gd) (hx:Qi L x=some (.pointer (some ⟨B,j,none⟩))) (ht:Nat.blt t n=true)
 (k:St n ((t,v)::L) ops Q rest w):St n L ops Q (⟨some t,.load 35 x,ty,pos,aft,gd⟩::rest) w :=
 Qn hg rfl ht (fun ev hev=>by have e:=hev _ _ hx;simp[go_sem,e,hc]) k
theorem Qep (i:Nat){B j:Nat}{c:Array Value}{bt:TypeId}(hW:Wd w0 w Bs) (hg:Gok ops n L gd) (hx:Qi L x=some (.pointer (some ⟨B,j,none⟩))) (hb:Bs[i]?=some (B,c,bt)) (hc:c[j]?=some v) (ht:Nat.blt t n=true)
 (k:St n ((t,v)::L) ops Q rest w):St n L ops Q (⟨some t,.load 35 x,ty,pos,aft,gd⟩::rest) w:=QkZ (Qb (hW.get i hb) j v hc) hg hx ht k
theorem Qkb {B j:Nat}(hc:w.cell? ⟨B,j,none⟩=some v) (hg:Gok ops n L gd) (hx:Qi L x=some (.pointer (some ⟨B,j,none⟩))) (ht:Nat.blt t n=true)
 (k:St n ((t,v)::L) ops Q rest w):St n L ops Q (⟨some t,.load 33 x,ty,pos,aft,gd⟩::rest) w :=
 Qn hg rfl ht (fun ev hev=>by have e:=hev _ _ hx;simp[go_sem,e,hc]) k
theorem QaD (i:Nat){B j:Nat}{c:Array Value}{bt:TypeId}(hW:Wd w0 w Bs) (hg:Gok ops n L gd) (hx:Qi L x=some (.pointer (some ⟨B,j,none⟩))) (hb:Bs[i]?=some (B,c,bt)) (hc:c[j]?=some v) (ht:Nat.blt t n=true)
 (k:St n ((t,v)::L) ops Q rest w):St n L ops Q (⟨some t,.load 33 x,ty,pos,aft,gd⟩::rest) w:=Qkb (Qb (hW.get i hb) j v hc) hg hx ht k
theorem Qf4 {B j:Nat}(hc:w.cell? ⟨B,j,none⟩=some v) (hg:Gok ops n L gd) (hx:Qi L x=some (.pointer (some ⟨B,j,none⟩))) (ht:Nat.blt t n=true)
 (k:St n ((t,v)::L) ops Q rest w):St n L ops Q (⟨some t,.load 25 x,ty,pos,aft,gd⟩::rest) w :=
 Qn hg rfl ht (fun ev hev=>by have e:=hev _ _ hx;simp[go_sem,e,hc]) k
theorem QfT (i:Nat){B j:Nat}{c:Array Value}{bt:TypeId}(hW:Wd w0 w Bs) (hg:Gok ops n L gd) (hx:Qi L x=some (.pointer (some ⟨B,j,none⟩))) (hb:Bs[i]?=some (B,c,bt)) (hc:c[j]?=some v) (ht:Nat.blt t n=true)
 (k:St n ((t,v)::L) ops Q rest w):St n L ops Q (⟨some t,.load 25 x,ty,pos,aft,gd⟩::rest) w:=Qf4 (Qb (hW.get i hb) j v hc) hg hx ht k
theorem Qcn {B j:Nat}(hc:w.cell? ⟨B,j,none⟩=some v) (hg:Gok ops n L gd) (hx:Qi L x=some (.pointer (some ⟨B,j,none⟩))) (ht:Nat.blt t n=true)
 (k:St n ((t,v)::L) ops Q rest w):St n L ops Q (⟨some t,.load 38 x,ty,pos,aft,gd⟩::rest) w :=
 Qn hg rfl ht (fun ev hev=>by have e:=hev _ _ hx;simp[go_sem,e,hc]) k
theorem Qf3 (i:Nat){B j:Nat}{c:Array Value}{bt:TypeId}(hW:Wd w0 w Bs) (hg:Gok ops n L gd) (hx:Qi L x=some (.pointer (some ⟨B,j,none⟩))) (hb:Bs[i]?=some (B,c,bt)) (hc:c[j]?=some v) (ht:Nat.blt t n=true)
 (k:St n ((t,v)::L) ops Q rest w):St n L ops Q (⟨some t,.load 38 x,ty,pos,aft,gd⟩::rest) w:=Qcn (Qb (hW.get i hb) j v hc) hg hx ht k
theorem QdL {B j:Nat}(hc:w.cell? ⟨B,j,none⟩=some v) (hg:Gok ops n L gd) (hx:Qi L x=some (.pointer (some ⟨B,j,none⟩))) (ht:Nat.blt t n=true)
 (k:St n ((t,v)::L) ops Q rest w):St n L ops Q (⟨some t,.load 22 x,ty,pos,aft,gd⟩::rest) w :=
 Qn hg rfl ht (fun ev hev=>by have e:=hev _ _ hx;simp[go_sem,e,hc]) k
theorem QcI (i:Nat){B j:Nat}{c:Array Value}{bt:TypeId}(hW:Wd w0 w Bs) (hg:Gok ops n L gd) (hx:Qi L x=some (.pointer (some ⟨B,j,none⟩))) (hb:Bs[i]?=some (B,c,bt)) (hc:c[j]?=some v) (ht:Nat.blt t n=true)
 (k:St n ((t,v)::L) ops Q rest w):St n L ops Q (⟨some t,.load 22 x,ty,pos,aft,gd⟩::rest) w:=QdL (Qb (hW.get i hb) j v hc) hg hx ht k
theorem QdI {w:World}{B:Nat}{c:Array Value}{t:TypeId}(h:Blk w B c t) (j m:Nat) (hn:Nat.ble (j+m) c.size=true):w.rangeAt B j ((c.toList.drop j).take m):=fun k v hk=>by
 have hlt:k<((c.toList.drop j).take m).length:=(List.getElem?_eq_some_iff.1 hk).1;have hm:k<m:=by simp at hlt;omega
 rw[List.getElem?_take,if_pos hm,List.getElem?_drop] at hk
 exact Qb h (j+k) v (by simpa using hk)
theorem QbU {w:World}{B:Nat}{c:Array Value}{t:TypeId}(h:Blk w B c t) (j n:Nat) (hn:j+n≤c.size):w.there B j n:=fun k hk =>
 ⟨by rw[Qb h (j+k) c[j+k] (by simp[show j+k<c.size by omega])];rfl,Qo h (j+k)⟩
theorem QK {w w':World}{B j:Nat}{cs:List Value}(h:w.rangeAt B j cs) (b:Below w.heap.size w w'):w'.rangeAt B j cs:=fun k v hk=>Zp b (h k v hk)
theorem sSE {d:TypeDesc}{B j:Nat}{cs:List Value}(hu:Tryz.prog.underlying ty2=some d) (hd:d.isRow=true) (hr:w.rangeAt B j cs) (hi:(Tryz.prog.info? ty2).map (·.size)=some cs.length) (hg:Gok ops n L gd) (hx:Qi L x=some (.pointer (some ⟨B,j,none⟩))) (ht:Nat.blt t n=true)
 (k:St n ((t,.agg cs.toArray)::L) ops Q rest w):St n L ops Q (⟨some t,.load ty2 x,ty,pos,aft,gd⟩::rest) w :=
 Qn hg rfl ht (fun ev hev=>by
  have e:=hev _ _ hx;have e2:=run_loadAt_mid (P:=Tryz.prog) w B j ty2 cs d hr hu hd hi;unfold execOp;simp only[e,Sem.run_bind,e2,Result.andThen_ok,Sem.run_pure]) k
theorem sS {d:TypeDesc}(i m:Nat){B j:Nat}{c:Array Value}{bt:TypeId}(hu:Tryz.prog.underlying ty2=some d) (hd:d.isRow=true) (hi:(Tryz.prog.info? ty2).map (·.size)=some m) (hW:Wd w0 w Bs) (hg:Gok ops n L gd) (hx:Qi L x=some (.pointer (some ⟨B,j,none⟩))) (hb:Bs[i]?=some (B,c,bt)) (hn:Nat.ble (j+m) c.size=true) (ht:Nat.blt t n=true)
 (k:St n ((t,.agg ((c.toList.drop j).take m).toArray)::L) ops Q rest w):St n L ops Q (⟨some t,.load ty2 x,ty,pos,aft,gd⟩::rest) w :=
 sSE hu hd (QdI (hW.get i hb) j m hn) (by rw[hi];have:j+m≤c.size:=(by simpa[Nat.ble_eq] using hn);simp;omega) hg hx ht k
theorem Qdd {o:Oper}(c:Array Value) (bt:TypeId) (hW:Wd w0 w Bs) (hd:o.dst=some t) (hg:Gok ops n L o.guard) (ht:Nat.blt t n=true)
 (h:∀ ev:Operand→Value,(∀ x v,Qi L x=some v→ev x=v)→(execOp ev o).run Tryz.prog w=.ok (.value (.pointer (some ⟨w.heap.size,0,none⟩))) (w.alloc (.cells c bt)))
 (k:∀ w' B,Wd w0 w' ((B,c,bt)::Bs)→New w w' B→St n ((t,.pointer (some ⟨B,0,none⟩))::L) ops Q rest w'):St n L ops Q (o::rest) w:=fun a hF =>
 wpList_step fun K hK=>by
  rw[if_pos (hg.on hF)]
  unfold Oper.wp;rw[h a.eval (fun x v e=>hF.ev e),Oper.upon_value,hd]
  exact hK _ _ (k _ _ (hW.new' c bt) ⟨QQ w _,rfl,by simp⟩ _ (hF.put ht))
theorem sB {cs:Array Value}(hW:Wd w0 w Bs) (hg:Gok ops n L gd) (hx:Qi L x=some (.agg cs)) (ht:Nat.blt t n=true)
 (k:∀ w' B,Wd w0 w' ((B,cs,ty2)::Bs)→New w w' B→St n ((t,.pointer (some ⟨B,0,none⟩))::L) ops Q rest w'):St n L ops Q (⟨some t,.box ty2 x,ty,pos,aft,gd⟩::rest) w :=
 Qdd cs ty2 hW rfl hg ht (fun ev hev=>by have e:=hev _ _ hx;simp[go_sem,e]) k
theorem QhO (hW:Wd w0 w Bs) (hg:Gok ops n L gd) (ht:Nat.blt t n=true)
 (k:∀ w' B,Wd w0 w' ((B,#[.int .i64 0,.int .i64 0,.slice none 0 0],70)::Bs)→New w w' B→St n ((t,.pointer (some ⟨B,0,none⟩))::L) ops Q rest w'):St n L ops Q (⟨some t,.alloc 70,ty,pos,aft,gd⟩::rest) w :=
 Qdd #[.int .i64 0,.int .i64 0,.slice none 0 0] 70 hW rfl hg ht (fun ev hev=>by simp[go_sem]) k
theorem Qi2 (hW:Wd w0 w Bs) (hg:Gok ops n L gd) (ht:Nat.blt t n=true)
 (k:∀ w' B,Wd w0 w' ((B,#[.int .i64 0,.int .i64 0,.int .i64 0,.int .i64 0,.int .i64 0,.int .i64 0,.slice none 0 0,.slice none 0 0],46)::Bs)→New w w' B→St n ((t,.pointer (some ⟨B,0,none⟩))::L) ops Q rest w'):St n L ops Q (⟨some t,.alloc 46,ty,pos,aft,gd⟩::rest) w :=
 Qdd #[.int .i64 0,.int .i64 0,.int .i64 0,.int .i64 0,.int .i64 0,.int .i64 0,.slice none 0 0,.slice none 0 0] 46 hW rfl hg ht (fun ev hev=>by simp[go_sem]) k
theorem Qlx (hW:Wd w0 w Bs) (hg:Gok ops n L gd) (ht:Nat.blt t n=true)
 (k:∀ w' B,Wd w0 w' ((B,#[.int .i64 0,.slice none 0 0,.slice none 0 0],56)::Bs)→New w w' B→St n ((t,.pointer (some ⟨B,0,none⟩))::L) ops Q rest w'):St n L ops Q (⟨some t,.alloc 56,ty,pos,aft,gd⟩::rest) w :=
 Qdd #[.int .i64 0,.slice none 0 0,.slice none 0 0] 56 hW rfl hg ht (fun ev hev=>by simp[go_sem]) k
theorem Qlg (hW:Wd w0 w Bs) (hg:Gok ops n L gd) (ht:Nat.blt t n=true)
 (k:∀ w' B,Wd w0 w' ((B,#[.int .i64 0,.int .i64 0,.int .i64 0,.slice none 0 0,.slice none 0 0,.int .i64 0,.slice none 0 0,.slice none 0 0,.slice none 0 0],58)::Bs)→New w w' B→St n ((t,.pointer (some ⟨B,0,none⟩))::L) ops Q rest w'):St n L ops Q (⟨some t,.alloc 58,ty,pos,aft,gd⟩::rest) w :=
 Qdd #[.int .i64 0,.int .i64 0,.int .i64 0,.slice none 0 0,.slice none 0 0,.int .i64 0,.slice none 0 0,.slice none 0 0,.slice none 0 0] 58 hW rfl hg ht (fun ev hev=>by simp[go_sem]) k
theorem QdP (hW:Wd w0 w Bs) (hg:Gok ops n L gd) (ht:Nat.blt t n=true)
 (k:∀ w' B,Wd w0 w' ((B,#[.int .i64 0,.slice none 0 0,.slice none 0 0,.int .i64 0,.int .i64 0,.int .i64 0,.slice none 0 0,.slice none 0 0,.int .i64 0,.slice none 0 0,.slice none 0 0,.slice none 0 0],60)::Bs)→New w w' B→St n ((t,.pointer (some ⟨B,0,none⟩))::L) ops Q rest w'):St n L ops Q (⟨some t,.alloc 60,ty,pos,aft,gd⟩::rest) w :=
 Qdd #[.int .i64 0,.slice none 0 0,.slice none 0 0,.int .i64 0,.int .i64 0,.int .i64 0,.slice none 0 0,.slice none 0 0,.int .i64 0,.slice none 0 0,.slice none 0 0,.slice none 0 0] 60 hW rfl hg ht (fun ev hev=>by simp[go_sem]) k
theorem QfP (hW:Wd w0 w Bs) (hg:Gok ops n L gd) (ht:Nat.blt t n=true)
 (k:∀ w' B,Wd w0 w' ((B,#[.int .i64 0,.slice none 0 0,.slice none 0 0,.slice none 0 0],40)::Bs)→New w w' B→St n ((t,.pointer (some ⟨B,0,none⟩))::L) ops Q rest w'):St n L ops Q (⟨some t,.alloc 40,ty,pos,aft,gd⟩::rest) w :=
 Qdd #[.int .i64 0,.slice none 0 0,.slice none 0 0,.slice none 0 0] 40 hW rfl hg ht (fun ev hev=>by simp[go_sem]) k
theorem Qcs (hW:Wd w0 w Bs) (hg:Gok ops n L gd) (ht:Nat.blt t n=true)
 (k:∀ w' B,Wd w0 w' ((B,#[.slice none 0 0],24)::Bs)→New w w' B→St n ((t,.pointer (some ⟨B,0,none⟩))::L) ops Q rest w'):St n L ops Q (⟨some t,.alloc 24,ty,pos,aft,gd⟩::rest) w :=
 Qdd #[.slice none 0 0] 24 hW rfl hg ht (fun ev hev=>by simp[go_sem]) k
theorem Zz (hW:Wd w0 w Bs) (hg:Gok ops n L gd) (ht:Nat.blt t n=true)
 (k:∀ w' B,Wd w0 w' ((B,#[.int .i64 0,.int .i64 0],30)::Bs)→New w w' B→St n ((t,.pointer (some ⟨B,0,none⟩))::L) ops Q rest w'):St n L ops Q (⟨some t,.alloc 30,ty,pos,aft,gd⟩::rest) w :=
 Qdd #[.int .i64 0,.int .i64 0] 30 hW rfl hg ht (fun ev hev=>by simp[go_sem]) k
theorem Qgm (hW:Wd w0 w Bs) (hg:Gok ops n L gd) (ht:Nat.blt t n=true)
 (k:∀ w' B,Wd w0 w' ((B,#[.bool false,.bool false,.bool false,.bool false,.bool false,.bool false,.bool false],144)::Bs)→New w w' B→St n ((t,.pointer (some ⟨B,0,none⟩))::L) ops Q rest w'):St n L ops Q (⟨some t,.alloc 144,ty,pos,aft,gd⟩::rest) w :=
 Qdd #[.bool false,.bool false,.bool false,.bool false,.bool false,.bool false,.bool false] 144 hW rfl hg ht (fun ev hev=>by simp[go_sem]) k
theorem sT (i:Nat){B j:Nat}{c:Array Value}{bt:TypeId}{cells:List Value}(hW:Wd w0 w Bs)
 (hx:Qi L x=some (.pointer (some ⟨B,j,none⟩))) (hy:Qi L y=some (.agg cells.toArray)) (hi:(Tryz.prog.info? ty2).map (·.size)=some cells.length) (h1:cells.all (·.oneCell')=true)
 (hb:Bs[i]?=some (B,c,bt)) (hs:Nat.ble (j+cells.length) c.size=true)
 (k:∀ w',Wd w0 w' (Bs.set i (B,Zn c j cells,bt))→St n L ops Q rest w'):St n L ops Q (⟨none,.store ty2 x y,ty,pos,aft,none⟩::rest) w:=fun a hF=>by
 have hn:j+cells.length≤c.size:=by simpa[Nat.ble_eq] using hs
 refine QjO hF (hW.setAt i hb j cells hs rfl rfl) rfl rfl (fun K hK=>?_) (fun w' hW'=>k w' hW' a hF);have e:=hF.ev hx;have e2:=hF.ev hy
 have:=run_storeAt_mid (P:=Tryz.prog) w B j ty2 cells.toArray (by simpa using QbU (hW.get i hb) j cells.length hn) (by simpa using hi) (by simpa using h1)
 unfold Oper.wp execOp;simp only[e,e2,Sem.run_bind,this,Result.andThen_ok,Sem.run_pure]
 rw[Oper.upon_skip];simpa[Act.put] using hK
theorem s1 (i:Nat){B j:Nat}{c:Array Value}{bt:TypeId}(hi:(Tryz.prog.info? ty2).map (·.size)=some 1) (hW:Wd w0 w Bs)
 (hx:Qi L x=some (.pointer (some ⟨B,j,none⟩))) (hy:Qi L y=some v) (hv:v.cells=#[v]) (h1:v.oneCell'=true)
 (hb:Bs[i]?=some (B,c,bt)) (hs:Nat.ble (j+1) c.size=true)
 (k:∀ w',Wd w0 w' (Bs.set i (B,Zn c j [v],bt))→St n L ops Q rest w'):St n L ops Q (⟨none,.store ty2 x y,ty,pos,aft,none⟩::rest) w:=fun a hF=>by
 have hn:j+1≤c.size:=by simpa[Nat.ble_eq] using hs
 refine QjO hF (hW.setAt i hb j [v] hs rfl rfl) rfl rfl (fun K hK=>?_) (fun w' hW'=>k w' hW' a hF);have e:=hF.ev hx;have e2:=hF.ev hy;have ht:=QbU (hW.get i hb) j 1 hn;have h2:=run_storeCells_cells (P:=Tryz.prog) B j [v] 0 w (fun k hk=>by simpa using (ht k (by simpa using hk)).1) (fun k hk=>by simpa using (ht k (by simpa using hk)).2) (fun u hu=>by simp at hu;subst hu;exact h1)
 have h3:(Instr.storeAt ty2 (.pointer (some ⟨B,j,none⟩)) v).run Tryz.prog w=.ok () (w.setCells B j [v]):=by
  cases hq:Tryz.prog.info? ty2 with
  | none=>simp[hq] at hi
  | some q =>
    have hs1:q.size=1:=by simpa[hq] using hi
    simp only[Nat.add_zero] at h2
    simp[Instr.storeAt,Instr.sureAddr,storeVar,sizeOf,typeInfo,hq,hv,hs1,h2]
 unfold Oper.wp execOp;simp only[e,e2,Sem.run_bind,h3,Result.andThen_ok,Sem.run_pure]
 rw[Oper.upon_skip];simpa[Act.put] using hK
theorem Qek {o:Oper}{f:FuncId}{args:Array Value}{V:Value}(hW:Wd w0 w Bs) (hg:Gok ops n L o.guard) (hc:Rd Tryz.prog f args w V) (hd:o.dst=some t) (ht:Nat.blt t n=true)
 (h:∀ ev:Operand→Value,(∀ x v,Qi L x=some v→ev x=v)→(execOp ev o).run Tryz.prog w=.ok (.enter f args) w)
 (k:∀ w',Wd w0 w' Bs→St n ((t,V)::L) ops Q rest w'):St n L ops Q (o::rest) w:=fun a hF =>
 wpList_step fun K hK=>by
  rw[if_pos (hg.on hF)]
  unfold Oper.wp;rw[h a.eval (fun x v e=>hF.ev e),Oper.upon_enter]
  refine hc.mono ?_;rintro e w9 ⟨rfl,hb⟩;rw[hd]
  exact hK _ _ (k _ (hW.below hb) _ (hF.put ht))
def CF (f:FuncId):Prop:=∀ (args:Array Value) (w:World),(callFunc f args).run Tryz.prog w=.ok (.enter f args) w
theorem Zx {f : FuncId} {fn : Func} (hf : Tryz.prog.funcs[f]? = some fn) (h1 : (fn.name == "runtime.NumGoroutine") = false) (h2 : fn.body.isNone = false) : CF f := fun args w => by
 have h3 : ¬ fn.name = "runtime.NumGoroutine" := by simpa using h1
 have h4:¬ fn.body=none:=by intro h;rw[h] at h2;cases h2
 simp[callFunc,hf,h3,h4]
theorem QjI {f:FuncId}{ts:Array TypeId}{x0:Operand}{v0:Value}{V:Value}(hcf:CF f) (hW:Wd w0 w Bs) (hc:Rd Tryz.prog f #[v0] w V) (hg:Gok ops n L gd) (h0:Qi L x0=some v0) (ht:Nat.blt t n=true)
 (k:∀ w',Wd w0 w' Bs→St n ((t,V)::L) ops Q rest w'):St n L ops Q (⟨some t,.call { callee:=.value (.func f),args:=#[x0],argTypes:=ts },ty,pos,aft,gd⟩::rest) w :=
 Qek hW hg hc rfl ht (fun ev hev=>by have e0:=hev _ _ h0;have ef:=hev (.func f) _ rfl;have ec:=hcf;unfold CF at ec;simp[go_sem,ef,ec,e0]) k
theorem QhQ {f:FuncId}{ts:Array TypeId}{x0 x1:Operand}{v0 v1:Value}{V:Value}(hcf:CF f) (hW:Wd w0 w Bs) (hc:Rd Tryz.prog f #[v0,v1] w V) (hg:Gok ops n L gd) (h0:Qi L x0=some v0) (h1:Qi L x1=some v1) (ht:Nat.blt t n=true)
 (k:∀ w',Wd w0 w' Bs→St n ((t,V)::L) ops Q rest w'):St n L ops Q (⟨some t,.call { callee:=.value (.func f),args:=#[x0,x1],argTypes:=ts },ty,pos,aft,gd⟩::rest) w :=
 Qek hW hg hc rfl ht (fun ev hev=>by have e0:=hev _ _ h0;have e1:=hev _ _ h1;have ef:=hev (.func f) _ rfl;have ec:=hcf;unfold CF at ec;simp[go_sem,ef,ec,e0,e1]) k
theorem QlF {f:FuncId}{ts:Array TypeId}{x0 x1 x2:Operand}{v0 v1 v2:Value}{V:Value}(hcf:CF f) (hW:Wd w0 w Bs) (hc:Rd Tryz.prog f #[v0,v1,v2] w V) (hg:Gok ops n L gd) (h0:Qi L x0=some v0) (h1:Qi L x1=some v1) (h2:Qi L x2=some v2) (ht:Nat.blt t n=true)
 (k:∀ w',Wd w0 w' Bs→St n ((t,V)::L) ops Q rest w'):St n L ops Q (⟨some t,.call { callee:=.value (.func f),args:=#[x0,x1,x2],argTypes:=ts },ty,pos,aft,gd⟩::rest) w :=
 Qek hW hg hc rfl ht (fun ev hev=>by have e0:=hev _ _ h0;have e1:=hev _ _ h1;have e2:=hev _ _ h2;have ef:=hev (.func f) _ rfl;have ec:=hcf;unfold CF at ec;simp[go_sem,ef,ec,e0,e1,e2]) k
theorem Qll {f:FuncId}{ts:Array TypeId}{xf:Operand}{x0:Operand}{v0:Value}{V:Value}(hcf:CF f) (hW:Wd w0 w Bs) (hc:Rd Tryz.prog f #[v0] w V) (hg:Gok ops n L gd) (hf:Qi L xf=some (.func (.func f) #[] #[])) (h0:Qi L x0=some v0) (ht:Nat.blt t n=true)
 (k:∀ w',Wd w0 w' Bs→St n ((t,V)::L) ops Q rest w'):St n L ops Q (⟨some t,.call { callee:=.value xf,args:=#[x0],argTypes:=ts },ty,pos,aft,gd⟩::rest) w :=
 Qek hW hg hc rfl ht (fun ev hev=>by have e0:=hev _ _ h0;have ef:=hev _ _ hf;have ec:=hcf;unfold CF at ec;simp[go_sem,ef,ec,e0]) k
theorem Qj4 {f:FuncId}{ts:Array TypeId}{xf:Operand}{x0 x1:Operand}{v0 v1 cp:Value}{V:Value}(hcf:CF f) (hW:Wd w0 w Bs) (hc:Rd Tryz.prog f #[v0,v1,cp] w V) (hg:Gok ops n L gd) (hf:Qi L xf=some (.func (.func f) #[] #[cp])) (h0:Qi L x0=some v0) (h1:Qi L x1=some v1) (ht:Nat.blt t n=true)
 (k:∀ w',Wd w0 w' Bs→St n ((t,V)::L) ops Q rest w'):St n L ops Q (⟨some t,.call { callee:=.value xf,args:=#[x0,x1],argTypes:=ts },ty,pos,aft,gd⟩::rest) w :=
 Qek hW hg hc rfl ht (fun ev hev=>by have e0:=hev _ _ h0;have e1:=hev _ _ h1;have ef:=hev _ _ hf;have ec:=hcf;unfold CF at ec;simp[go_sem,ef,ec,e0,e1]) k
theorem cf97:CF 97:=Zx Tryz.func97 (by kernel_rfl) (by kernel_rfl)
theorem cf133:CF 133:=Zx Tryz.func133 (by kernel_rfl) (by kernel_rfl)
theorem cf55:CF 55:=Zx Tryz.func55 (by kernel_rfl) (by kernel_rfl)
theorem cf56:CF 56:=Zx Tryz.func56 (by kernel_rfl) (by kernel_rfl)
theorem cf57:CF 57:=Zx Tryz.func57 (by kernel_rfl) (by kernel_rfl)
theorem cf58:CF 58:=Zx Tryz.func58 (by kernel_rfl) (by kernel_rfl)
theorem cf59:CF 59:=Zx Tryz.func59 (by kernel_rfl) (by kernel_rfl)
theorem cf118:CF 118:=Zx Tryz.func118 (by kernel_rfl) (by kernel_rfl)
theorem cf95:CF 95:=Zx Tryz.func95 (by kernel_rfl) (by kernel_rfl)
theorem cf96:CF 96:=Zx Tryz.func96 (by kernel_rfl) (by kernel_rfl)
theorem cf98:CF 98:=Zx Tryz.func98 (by kernel_rfl) (by kernel_rfl)
theorem cf99:CF 99:=Zx Tryz.func99 (by kernel_rfl) (by kernel_rfl)
theorem cf100:CF 100:=Zx Tryz.func100 (by kernel_rfl) (by kernel_rfl)
theorem cf89:CF 89:=Zx Tryz.func89 (by kernel_rfl) (by kernel_rfl)
theorem cf101:CF 101:=Zx Tryz.func101 (by kernel_rfl) (by kernel_rfl)
theorem cf102:CF 102:=Zx Tryz.func102 (by kernel_rfl) (by kernel_rfl)
theorem cf103:CF 103:=Zx Tryz.func103 (by kernel_rfl) (by kernel_rfl)
theorem cf104:CF 104:=Zx Tryz.func104 (by kernel_rfl) (by kernel_rfl)
theorem cf141:CF 141:=Zx Tryz.func141 (by kernel_rfl) (by kernel_rfl)
theorem cf130:CF 130:=Zx Tryz.func130 (by kernel_rfl) (by kernel_rfl)
theorem cf132:CF 132:=Zx Tryz.func132 (by kernel_rfl) (by kernel_rfl)
theorem cf134:CF 134:=Zx Tryz.func134 (by kernel_rfl) (by kernel_rfl)
theorem cf135:CF 135:=Zx Tryz.func135 (by kernel_rfl) (by kernel_rfl)
theorem cf136:CF 136:=Zx Tryz.func136 (by kernel_rfl) (by kernel_rfl)
theorem cf137:CF 137:=Zx Tryz.func137 (by kernel_rfl) (by kernel_rfl)
theorem cf138:CF 138:=Zx Tryz.func138 (by kernel_rfl) (by kernel_rfl)
theorem cf113:CF 113:=Zx Tryz.func113 (by kernel_rfl) (by kernel_rfl)
theorem cf146:CF 146:=Zx Tryz.func146 (by kernel_rfl) (by kernel_rfl)
theorem cf147:CF 147:=Zx Tryz.func147 (by kernel_rfl) (by kernel_rfl)
theorem cf148:CF 148:=Zx Tryz.func148 (by kernel_rfl) (by kernel_rfl)
theorem cf154:CF 154:=Zx Tryz.func154 (by kernel_rfl) (by kernel_rfl)
theorem infType:(Tryz.prog.info? 70).map (·.size)=some 3:=by kernel_rfl
theorem infIns:(Tryz.prog.info? 46).map (·.size)=some 8:=by kernel_rfl
theorem infTo:(Tryz.prog.info? 56).map (·.size)=some 3:=by kernel_rfl
theorem infEnd:(Tryz.prog.info? 58).map (·.size)=some 9:=by kernel_rfl
theorem infBlock:(Tryz.prog.info? 60).map (·.size)=some 12:=by kernel_rfl
theorem infFunc:(Tryz.prog.info? 40).map (·.size)=some 4:=by kernel_rfl
theorem infModule:(Tryz.prog.info? 24).map (·.size)=some 1:=by kernel_rfl
theorem infFault:(Tryz.prog.info? 30).map (·.size)=some 2:=by kernel_rfl
theorem infFields:(Tryz.prog.info? 144).map (·.size)=some 7:=by kernel_rfl
theorem inffuncLook:(Tryz.prog.info? 93).map (·.size)=some 6:=by kernel_rfl
theorem infblockLook:(Tryz.prog.info? 131).map (·.size)=some 19:=by kernel_rfl
theorem inf1Ints:(Tryz.prog.info? 35).map (·.size)=some 1:=by kernel_rfl
theorem inf1Types:(Tryz.prog.info? 33).map (·.size)=some 1:=by kernel_rfl
theorem inf1Inss:(Tryz.prog.info? 25).map (·.size)=some 1:=by kernel_rfl
theorem inf1Blocks:(Tryz.prog.info? 38).map (·.size)=some 1:=by kernel_rfl
theorem inf1Funcs:(Tryz.prog.info? 22).map (·.size)=some 1:=by kernel_rfl
theorem QN {fn:Func}{R:Ending→World→Prop}{d:TypeDesc}(i:Nat){B:Nat}{c:Array Value}{bt:TypeId}(hF:Fr n a L) (hW:Wd w0 w Bs) (hr:fn.results=#[.cell t ty]) (hv:L.lookup t=some (.pointer (some ⟨B,0,none⟩))) (hb:Bs[i]?=some (B,c,bt))
 (hu:Tryz.prog.underlying ty=some d) (hd:d.isRow=true) (hi:(Tryz.prog.info? ty).map (·.size)=some c.size) (hR:R (.returned (.agg c)) w):bodyPost Tryz.prog fn R .ret a w:=by
 refine bodyPost_ret ?_ hF.defers hR;have e:=hF.sl2 t _ hv;have e2:=run_loadVar_mid (P:=Tryz.prog) w B 0 ty c.toList d (by have:=QdI (hW.get i hb) 0 c.size (by simp[Nat.ble_eq]);rw[List.drop_zero,List.take_of_length_le (by simp)] at this;exact this) hu hd (by simpa using hi);simp only[Array.toArray_toList] at e2
 simp[results,hr,e,asAddr,e2]
end
end Go.Proofs.YtacjnejckfhpoaeGreat
namespace Go.Proofs.YtacjnejckfhpoaeGreat
open Go.ChangeShapes Go.WideShapes Go.ChangeAt Go.RowKit
set_option linter.unusedVariables false
def Qde (B:Nat) (w w':World):Prop:=∀ k,k≠B→w'.heap[k]?=w.heap[k]?
theorem Lay.keep1 {α:Type}{A:Lay α}{w w':World}{lo B:Nat}{x:α}{cs:List Value}(h:A.In w (fun g=>lo≤g) x cs) (hk:Qde B w w') (hB:B<lo):A.In w' (fun g=>lo≤g) x cs :=
 A.keep (fun k hl _=>hk k (by omega)) (fun _ h _=>h) h
theorem ZM (w:World) (B j:Nat) (vs:List Value):Qde B w (w.setCells B j vs):=fun k hk=>Zt hk vs j w
section
variable {n:Nat}{a:Act}{L:List (Tmp × Value)}{w0 w:World}{Bs:List (Nat × Array Value × TypeId)}{Q:Exit→Act→World→Prop}{ops:Array Oper}{rest:List Oper}{t:Tmp}{u v:Value}{ty ty2 ty3:TypeId}{pos:String}{aft:Array Edge}{gd:Option (Nat × Bool)}{x y:Operand}
theorem sTk (i:Nat){B j:Nat}{c:Array Value}{bt:TypeId}{cells:List Value}(hW:Wd w0 w Bs)
 (hx:Qi L x=some (.pointer (some ⟨B,j,none⟩))) (hy:Qi L y=some (.agg cells.toArray)) (hi:(Tryz.prog.info? ty2).map (·.size)=some cells.length) (h1:cells.all (·.oneCell')=true)
 (hb:Bs[i]?=some (B,c,bt)) (hs:Nat.ble (j+cells.length) c.size=true)
 (k:∀ w',Qde B w w'→Wd w0 w' (Bs.set i (B,Zn c j cells,bt))→St n L ops Q rest w'):St n L ops Q (⟨none,.store ty2 x y,ty,pos,aft,none⟩::rest) w:=fun a hF=>by
 have hn:j+cells.length≤c.size:=by simpa[Nat.ble_eq] using hs
 refine QdZ hF rfl rfl (fun K hK=>?_) (k (w.setCells B j cells) (ZM w B j cells) (hW.setAt i hb j cells hs rfl rfl) a hF);have e:=hF.ev hx;have e2:=hF.ev hy
 have:=run_storeAt_mid (P:=Tryz.prog) w B j ty2 cells.toArray (by simpa using QbU (hW.get i hb) j cells.length hn) (by simpa using hi) (by simpa using h1)
 unfold Oper.wp execOp;simp only[e,e2,Sem.run_bind,this,Result.andThen_ok,Sem.run_pure]
 rw[Oper.upon_skip];simpa[Act.put] using hK
theorem s1k (i:Nat){B j:Nat}{c:Array Value}{bt:TypeId}(hi:(Tryz.prog.info? ty2).map (·.size)=some 1) (hW:Wd w0 w Bs)
 (hx:Qi L x=some (.pointer (some ⟨B,j,none⟩))) (hy:Qi L y=some v) (hv:v.cells=#[v]) (h1:v.oneCell'=true)
 (hb:Bs[i]?=some (B,c,bt)) (hs:Nat.ble (j+1) c.size=true)
 (k:∀ w',Qde B w w'→Wd w0 w' (Bs.set i (B,Zn c j [v],bt))→St n L ops Q rest w'):St n L ops Q (⟨none,.store ty2 x y,ty,pos,aft,none⟩::rest) w:=fun a hF=>by
 have hn:j+1≤c.size:=by simpa[Nat.ble_eq] using hs
 refine QdZ hF rfl rfl (fun K hK=>?_) (k (w.setCells B j [v]) (ZM w B j [v]) (hW.setAt i hb j [v] hs rfl rfl) a hF);have e:=hF.ev hx;have e2:=hF.ev hy;have ht:=QbU (hW.get i hb) j 1 hn;have h2:=run_storeCells_cells (P:=Tryz.prog) B j [v] 0 w (fun k hk=>by simpa using (ht k (by simpa using hk)).1) (fun k hk=>by simpa using (ht k (by simpa using hk)).2) (fun u hu=>by simp at hu;subst hu;exact h1)
 have h3:(Instr.storeAt ty2 (.pointer (some ⟨B,j,none⟩)) v).run Tryz.prog w=.ok () (w.setCells B j [v]):=by
  cases hq:Tryz.prog.info? ty2 with
  | none=>simp[hq] at hi
  | some q =>
    have hs1:q.size=1:=by simpa[hq] using hi
    simp only[Nat.add_zero] at h2
    simp[Instr.storeAt,Instr.sureAddr,storeVar,sizeOf,typeInfo,hq,hv,hs1,h2]
 unfold Oper.wp execOp;simp only[e,e2,Sem.run_bind,h3,Result.andThen_ok,Sem.run_pure]
 rw[Oper.upon_skip];simpa[Act.put] using hK
theorem QiH {o:Oper}{f:FuncId}{args:Array Value}{R:Value→World→Prop}(hW:Wd w0 w Bs) (hg:Gok ops n L o.guard)
 (hc:Calls Tryz.prog f args w fun e w'=>∃ v,e=.returned v∧R v w'∧Below w.heap.size w w') (hd:o.dst=some t) (ht:Nat.blt t n=true)
 (h:∀ ev:Operand→Value,(∀ x v,Qi L x=some v→ev x=v)→(execOp ev o).run Tryz.prog w=.ok (.enter f args) w)
 (k:∀ v w',R v w'→Below w.heap.size w w'→Wd w0 w' Bs→St n ((t,v)::L) ops Q rest w'):St n L ops Q (o::rest) w:=fun a hF =>
 wpList_step fun K hK=>by
  rw[if_pos (hg.on hF)]
  unfold Oper.wp;rw[h a.eval (fun x v e=>hF.ev e),Oper.upon_enter]
  refine hc.mono ?_;rintro e w9 ⟨v,rfl,hR,hb⟩;rw[hd]
  exact hK _ _ (k _ _ hR hb (hW.below hb) _ (hF.put ht))
theorem QlR {f:FuncId}{ts:Array TypeId}{x0:Operand}{v0:Value}{R:Value→World→Prop}(hcf:CF f) (hW:Wd w0 w Bs) (hc:Calls Tryz.prog f #[v0] w fun e w'=>∃ v,e=.returned v∧R v w'∧Below w.heap.size w w') (hg:Gok ops n L gd) (h0:Qi L x0=some v0) (ht:Nat.blt t n=true)
 (k:∀ v w',R v w'→Below w.heap.size w w'→Wd w0 w' Bs→St n ((t,v)::L) ops Q rest w'):St n L ops Q (⟨some t,.call { callee:=.value (.func f),args:=#[x0],argTypes:=ts },ty,pos,aft,gd⟩::rest) w :=
 QiH hW hg hc rfl ht (fun ev hev=>by have e0:=hev _ _ h0;have ef:=hev (.func f) _ rfl;have ec:=hcf;unfold CF at ec;simp[go_sem,ef,ec,e0]) k
theorem QjY {f:FuncId}{ts:Array TypeId}{x0 x1:Operand}{v0 v1:Value}{R:Value→World→Prop}(hcf:CF f) (hW:Wd w0 w Bs) (hc:Calls Tryz.prog f #[v0,v1] w fun e w'=>∃ v,e=.returned v∧R v w'∧Below w.heap.size w w') (hg:Gok ops n L gd) (h0:Qi L x0=some v0) (h1:Qi L x1=some v1) (ht:Nat.blt t n=true)
 (k:∀ v w',R v w'→Below w.heap.size w w'→Wd w0 w' Bs→St n ((t,v)::L) ops Q rest w'):St n L ops Q (⟨some t,.call { callee:=.value (.func f),args:=#[x0,x1],argTypes:=ts },ty,pos,aft,gd⟩::rest) w :=
 QiH hW hg hc rfl ht (fun ev hev=>by have e0:=hev _ _ h0;have e1:=hev _ _ h1;have ef:=hev (.func f) _ rfl;have ec:=hcf;unfold CF at ec;simp[go_sem,ef,ec,e0,e1]) k
theorem Qjm {f:FuncId}{ts:Array TypeId}{xf x0:Operand}{v0:Value}{R:Value→World→Prop}(hcf:CF f) (hW:Wd w0 w Bs) (hc:Calls Tryz.prog f #[v0] w fun e w'=>∃ v,e=.returned v∧R v w'∧Below w.heap.size w w') (hg:Gok ops n L gd) (hf:Qi L xf=some (.func (.func f) #[] #[])) (h0:Qi L x0=some v0) (ht:Nat.blt t n=true)
 (k:∀ v w',R v w'→Below w.heap.size w w'→Wd w0 w' Bs→St n ((t,v)::L) ops Q rest w'):St n L ops Q (⟨some t,.call { callee:=.value xf,args:=#[x0],argTypes:=ts },ty,pos,aft,gd⟩::rest) w :=
 QiH hW hg hc rfl ht (fun ev hev=>by have e0:=hev _ _ h0;have ef:=hev _ _ hf;have ec:=hcf;unfold CF at ec;simp[go_sem,ef,ec,e0]) k
end
end Go.Proofs.YtacjnejckfhpoaeGreat
namespace Go.Proofs.YtacjnejckfhpoaeGreat
open Go.RowKit
set_option linter.unusedVariables false
theorem QaJ {B:Nat}{t:TypeId}:∀ (vs:List Value) (w:World) (c:Array Value) (j:Nat),Blk w B c t→j+vs.length≤c.size→Blk (w.setCells B j vs) B (Zn c j vs) t
 | [],w,c,j,h,hs=>by
   have:Zn c j []=c:=by unfold Zn;simp
   rw[this];exact h
 | v::vs,w,c,j,h,hs=>by
   have:=QaJ vs (w.setCell ⟨B,j,none⟩ v) (c.setIfInBounds j v) (j+1) (Qk h j v) (by simp at hs ⊢;omega)
   rw[Qcg _ _ _ _ hs] at this
   exact this
theorem ZN {B b:Nat}(hb:B≤b):∀ (vs:List Value) (w w0:World) (j:Nat),Below B w0 w→Below B w0 (w.setCells b j vs)
 | [],w,w0,j,h=>h
 | v::vs,w,w0,j,h=>ZN hb vs _ _ _ (h.setCell hb v)
theorem Qdc (w:World) (b j:Nat) (vs:List Value):w.grownBy (w.setCells b j vs) (some b):=by
 have h:=ZN (Nat.zero_le b) vs w w j (Below.refl 0 w);exact⟨h.os,h.tape,h.output,h.size,fun k hk hne=>Zt (fun e=>hne (by rw[e])) vs j w⟩
section
variable {α:Type}{A:Lay α}{e:TypeId}{w:World}{lo g n:Nat}{l:List α}{xs:List Value}
theorem ZB.fill (h:ZB A e w lo (.slice (some ⟨g,0,none⟩) l.length n) l xs){x:α}{ds:List Value}(hx:A.In w (fun k=>lo≤k∧k≠g) x ds) (hq:l.length<n) :
 ZB A e (w.setCells g (l.length*A.size) ds) lo (.slice (some ⟨g,0,none⟩) (l.length+1) n) (l++[x]) (xs++ds):=by
 have hds:=A.len hx;refine ZB.push h (Lay.mono hx (fun k hk _=>⟨hk.1,fun e=>hk.2 (by simpa[Value.ownBlock] using e.symm)⟩)) (Qdc w g _ ds) (.inl rfl) ?_;obtain⟨hl,h2⟩:=h.own
 rcases h2 with ⟨h',_⟩|⟨g',cap',cur,h',hb,hg,hnc,hcm,hcs,htake⟩
 ·simp at h'
 ·simp only[Value.slice.injEq,Option.some.injEq,Addr.mk.injEq,and_true,true_and] at h'
  obtain⟨rfl,rfl⟩:=h'
  have hm:(l.length+1)*A.size≤n*A.size:=Nat.mul_le_mul_right _ hq;rw[Nat.add_mul,Nat.one_mul] at hm
  refine⟨by rw[List.length_append,hl,hds,Nat.add_mul,Nat.one_mul],.inr ⟨g,n,Zn cur (l.length*A.size) ds,rfl,hb,QaJ ds w cur _ hg (by omega),hq,hcm,?_,?_⟩⟩
  ·rw[← hcs];unfold Zn;simp;omega
  ·unfold Zn;rw[htake,Nat.add_mul,Nat.one_mul]
   rw[show l.length*A.size+A.size=(xs++ds).length by rw[List.length_append,hl,hds],List.toList_toArray,← List.append_assoc]
   exact List.take_left' rfl
end
end Go.Proofs.YtacjnejckfhpoaeGreat
namespace Go.Proofs.YtacjnejckfhpoaeGreat
open Go.RowKit
set_option linter.unusedSimpArgs false
set_option linter.unusedVariables false
section
variable {P:Program}{Q:Exit→Act→World→Prop}
def QaF (l:List Oper) (S:Nat→Bool):Prop:=∀ (j:Nat) (o:Oper),l[j]?=some o→S j=true→∀ e∈o.after,Region.binds .any e=true→S e.on=true
def Qkq (o:Oper) (S:Nat→Bool):Prop:=∀ e∈o.after,Region.binds .any e=true→S e.on=true
theorem Qkq.at {o:Oper}{S:Nat→Bool}(h:Qkq o S) (j:Nat) (hw:Qdm o j=true):S j=true:=by
 obtain⟨e,he,hb,rfl⟩:=QcO hw
 exact h e he hb
def Qbn (i:Nat) (S:Nat→Bool):Nat→Bool:=fun j=>j==i||S j
def QcQ (P:Program) (l:List Oper) (I:(Nat→Bool)→Act→World→Prop):Nat→List Oper→Prop
 | _,[]=>True
 | i,o::r=>(∀ (S:Nat→Bool) (a:Act) (w:World),S i=false→Qkq o S→QaF l S→I S a w→∀ K:Act→World→Prop,(∀ a' w',I (Qbn i S) a' w'→K a' w')→o.wp P a w K (fun _ _ _=>False))∧QcQ P l I (i+1) r
theorem QfX {l:List Oper}{I:(Nat→Bool)→Act→World→Prop}:∀ (r:List Oper) (k i:Nat) (o:Oper),QcQ P l I k r→r[i]?=some o →
 ∀ (S:Nat→Bool) (a:Act) (w:World),S (k+i)=false→Qkq o S→QaF l S→I S a w→∀ K:Act→World→Prop,(∀ a' w',I (Qbn (k+i) S) a' w'→K a' w')→o.wp P a w K (fun _ _ _=>False)
 | [],_,_,_,_,h=>by simp at h
 | x::r,k,0,o,h,ho=>by simp at ho;subst ho;exact h.1
 | x::r,k,i+1,o,h,ho=>by
   simp at ho
   have:=QfX r (k+1) i o h.2 ho
   rwa [show k+1+i=k+(i+1) by omega] at this
theorem Qih {l:List Oper}(hb:Qak 0 l=true) (hg:(l.all fun o=>o.guard.isNone)=true) (I:(Nat→Bool)→Act→World→Prop) (hst:QcQ P l I 0 l)
 (hend:∀ S a w,(∀ j,j<l.length→S j=true)→I S a w→Q .normal a w) :
 ∀ (fuel:Nat) (listed:Array Bool) (a:Act) (w:World),listed.size=l.length→(listed.toList.filter (·==false)).length≤fuel→QaF l (fun j=>listed.getD j false)→I (fun j=>listed.getD j false) a w →
  wpAny P .any l.toArray Q fuel listed a w:=by
 have fin:∀ (listed:Array Bool) (a:Act) (w:World),listed.size=l.length→Region.ready .any l.toArray listed=[]→I (fun j=>listed.getD j false) a w→Q .normal a w:=by
  intro listed a w hs hr hI;refine hend _ a w ?_ hI;intro j
  induction j using Nat.strongRecOn with
  | _ j ih =>
    intro hj
    cases hc:listed.getD j false with
    | true=>rfl
    | false =>
      exfalso
      have hj':j<listed.size:=by omega
      have hnt:listed.getD j true=false:=by simp[Array.getD,hj'] at hc ⊢;exact hc
      have:j∈Region.ready .any l.toArray listed:=Qr.2 ⟨by simpa using hj,hnt,l[j],by simp[hj],fun e he hbd=>by
       have:=back_at l 0 j l[j] hb (by simp[hj]) e he hbd
       exact ih e.on (by omega) (by omega)⟩
      rw[hr] at this;cases this
 intro fuel
 induction fuel with
 | zero =>
   intro listed a w hs hf hcl hI
   have hr:Region.ready .any l.toArray listed=[]:=by
    rw[List.eq_nil_iff_forall_not_mem]
    intro i hi;obtain⟨h1,h2,_⟩:=Qr.1 hi
    have hlt:i<l.length:=by simpa using h1
    have:listed[i]'(by omega)=false:=by
     simp[Array.getD,show i<listed.size by omega] at h2;exact h2
    have hm:false∈listed.toList.filter (·==false):=List.mem_filter.2 ⟨by rw[← this];simp,by simp⟩
    have:=List.length_pos_of_mem hm
    omega
   exact⟨hr,fin listed a w hs hr hI⟩
 | succ fuel ih =>
   intro listed a w hs hf hcl hI;refine⟨fun hr=>fin listed a w hs hr hI,fun i hi=>?_⟩
   obtain⟨h1,h2,o,ho,hdep⟩:=Qr.1 hi
   have hlt:i<l.length:=by simpa using h1
   have hil:i<listed.size:=by omega
   have hun':listed[i]=false:=by simp[Array.getD,hil] at h2;exact h2
   have hun:listed.getD i false=false:=by simp[Array.getD,hil,hun']
   have hlen:((listed.setIfInBounds i true).toList.filter (·==false)).length≤fuel:=by
    have h3:=filter_set listed.toList i (by simpa using hil) (by simpa using hun');rw[Array.toList_setIfInBounds]
    omega
   have hfun:(fun j=>(listed.setIfInBounds i true).getD j false)=Qbn i (fun j=>listed.getD j false):=by
    funext j
    unfold Qbn;by_cases e:j=i
    ·subst e;simp[Array.getD,hil]
    ·have hne:i≠j:=fun x=>e x.symm;rw[Array.getD_eq_getD_getElem?,Array.getElem?_setIfInBounds_ne hne,← Array.getD_eq_getD_getElem?]
     simp[e]
   unfold wpOp;rw[ho]
   simp only
   have hgo:o.guard=none:=by
    have:=List.all_eq_true.1 hg o (List.mem_of_getElem? (by simpa using ho))
    simpa using this
   have hw:Region.wanted o (yielded l.toArray a.tmps)=true:=by unfold Region.wanted;rw[hgo]
   rw[hw,if_pos rfl]
   have hst':=QfX l 0 i o hst (by simpa using ho) (fun j=>listed.getD j false) a w (by rw[Nat.zero_add];exact hun) hdep hcl hI;rw[Nat.zero_add] at hst'
   refine .inl (wpq (fun a' w' hh=>hh) (hst' _ fun a' w' hI'=>?_));refine ih _ _ _ (by simpa using hs) hlen ?_ (by rw[hfun];exact hI');rw[hfun]
   intro j oj hj hS e he hbd;unfold Qbn at hS ⊢;by_cases e':j=i
   ·subst e';have hjo:some oj=some o:=by rw[← hj];simpa using ho
    cases hjo
    have:=hdep e he hbd
    simp[this]
   ·have:(j==i)=false:=by simpa using e'
    rw[this,Bool.false_or] at hS
    have:=hcl j oj hj hS e he hbd
    simp only at this
    simp[this]
theorem Qi3 {id:Nat}{l:List Oper}{a:Act}{w:World}(I:(Nat→Bool)→Act→World→Prop) (hm:P.follows .mixedOrders=true) (hB:(Qak 0 l&&(l.all fun o=>o.guard.isNone))=true) (h0:I (fun _=>false) a w.drew) (hst:QcQ P l I 0 l)
 (hend:∀ S a w,(∀ j,j<l.length→S j=true)→I S a w→Q .normal a w):(Code.region id l.toArray true).wp P Q a w:=by
 rw[Bool.and_eq_true] at hB
 have e0:(fun j=>(Array.replicate l.length false).getD j false)=fun _=>false:=by
  funext j
  rw[Array.getD_eq_getD_getElem?,Array.getElem?_replicate]
  split<;>rfl
 have key:=Qih (Q:=Q) hB.1 hB.2 I hst hend l.length (Array.replicate l.length false) a w.drew (by simp) (Nat.le_trans (List.length_filter_le _ _) (by simp)) (by rw[e0];intro j o _ h;cases h) (by rw[e0];exact h0);refine wp_region_any hm ?_;simpa using key
end
structure DI (n:Nat) (a0:Act) (w00:World) (ds:List Tmp) (Ti:List (Nat × Tmp)) (Ai:List (Nat × Tmp × Nat × TypeId)) (Oi:List (Nat × Tmp × Nat × TypeId)) (M:List (Tmp × Value)) (C:List (Tmp × List Value)) (S:Nat→Bool) (a:Act) (w:World):Prop where
 size:a.tmps.size=n
 defers:a.defers=[]
 outer:∀ t,ds.contains t=false→a.tmps.getD t undef=a0.tmps.getD t undef
 bel:Below w00.heap.size w00 w
 vals:∀ x∈Ti,S x.1=true→∀ v,M.lookup x.2=some v→a.tmps.getD x.2 undef=v
 new:∀ x∈Ai,S x.1=true→∃ B,a.tmps.getD x.2.1 undef=.pointer (some ⟨B,0,none⟩)∧w00.heap.size≤B∧∃ c,Blk w B c x.2.2.2∧c.size=x.2.2.1
 ne:∀ x∈Ai,∀ y∈Ai,x.2.1≠y.2.1→S x.1=true→S y.1=true→a.tmps.getD x.2.1 undef≠a.tmps.getD y.2.1 undef
 did:∀ x∈Oi,S x.1=true→∀ c,C.lookup x.2.1=some c→∃ B,a.tmps.getD x.2.1 undef=.pointer (some ⟨B,0,none⟩)∧Blk w B c.toArray x.2.2.2
def diB (l:List Oper) (n:Nat) (Ti:List (Nat × Tmp)) (Ai Oi:List (Nat × Tmp × Nat × TypeId)):Bool :=
 (nodupB (Ti.map (·.1))&&nodupB (Ai.map (·.1))&&nodupB (Oi.map (·.1)))&&(nodupB (Ti.map (·.2)++Ai.map (·.2.1))&&nodupB (Oi.map (·.2.1))&&((Ti.map (·.2)++Ai.map (·.2.1)).all fun t=>decide (t<n)&&(Ql l).contains t) &&
 (Oi.all fun x=>Ai.any fun y=>y.2.1==x.2.1&&y.2.2.1==x.2.2.1&&y.2.2.2==x.2.2.2&&(match l[x.1]? with | some o=>Qdm o y.1 | none=>false)))
theorem QbR {l1 l2:List Tmp}:∀ {t:Tmp},nodupB (l1++l2)=true→t∈l1→t∈l2→False:=by
 induction l1 with
 | nil=>intro t _ h;cases h
 | cons x r ih =>
   intro t h h1 h2;simp only[List.cons_append,nodupB,Bool.and_eq_true,Bool.not_eq_true'] at h
   rcases List.mem_cons.1 h1 with rfl | h1
   ·have:=h.1
    simp at this
    exact this.2 h2
   ·exact ih h.2 h1 h2
theorem ZI {α:Type}{f:α→Tmp}:∀ {l:List α},nodupB (l.map f)=true→∀ x∈l,∀ y∈l,f x=f y→x=y
 | [],_,_,h,_,_,_=>by cases h
 | z::r,h,x,hx,y,hy,e=>by
   simp only[List.map_cons,nodupB,Bool.and_eq_true,Bool.not_eq_true'] at h
   have hz:∀ u∈r,f u≠f z:=fun u hu e=>by
    have:=h.1
    simp at this
    exact this u hu e
   rcases List.mem_cons.1 hx with h1 | h1
   ·rcases List.mem_cons.1 hy with h2 | h2
    ·rw[h1,h2]
    ·exact absurd e.symm (h1 ▸ hz y h2)
   ·rcases List.mem_cons.1 hy with h2 | h2
    ·exact absurd e (h2 ▸ hz x h1)
    ·exact ZI h.2 x h1 y h2 e
theorem QeP {l1 l2:List Tmp}(h:nodupB (l1++l2)=true):nodupB l2=true:=by
 induction l1 with
 | nil=>exact h
 | cons x r ih =>
   simp only[List.cons_append,nodupB,Bool.and_eq_true,Bool.not_eq_true'] at h
   exact ih h.2
section
variable {n i:Nat}{a0 a:Act}{w00 w w':World}{l:List Oper}{Ti:List (Nat × Tmp)}{Ai Oi:List (Nat × Tmp × Nat × TypeId)}{M:List (Tmp × Value)}{C:List (Tmp × List Value)}{S:Nat→Bool}{t:Tmp}{v:Value}{s:Nat}{ty:TypeId}
theorem Zi {u:Tmp}(h:t<a.tmps.size):(a.put (some t) v).tmps.getD u undef=if u=t then v else a.tmps.getD u undef:=by
 by_cases e:u=t
 ·subst e;simp[Act.put,Array.getD,h]
 ·rw[if_neg e]
  have hne:t≠u:=fun x=>e x.symm;rw[Array.getD_eq_getD_getElem?,Array.getD_eq_getD_getElem?]
  simp only[Act.put]
  rw[Array.getElem?_setIfInBounds_ne hne]
theorem Zg {j:Nat}(hne:j≠i) (h:Qbn i S j=true):S j=true:=by
 have:(j==i)=false:=by simpa using hne
 unfold Qbn at h;rwa [this,Bool.false_or] at h
theorem DI.pure (hB:diB l n Ti Ai Oi=true) (hI:DI n a0 w00 (Ql l) Ti Ai Oi M C S a w) (hi:(i,t)∈Ti) (hv:M.lookup t=some v) (hS:S i=false) (hb:Below w.heap.size w w')
 (hiA:(Ai.all fun x=>x.1 != i)=true) (hiO:(Oi.all fun x=>x.1 != i)=true):DI n a0 w00 (Ql l) Ti Ai Oi M C (Qbn i S) (a.put (some t) v) w':=by
 simp only[diB,Bool.and_eq_true] at hB
 obtain⟨hix,⟨⟨hnd,hndO⟩,hall⟩,hO⟩:=hB
 have htT:t∈Ti.map (·.2):=List.mem_map.2 ⟨(i,t),hi,rfl⟩;have h9:=List.all_eq_true.1 hall t (List.mem_append_left _ htT);simp only[Bool.and_eq_true,decide_eq_true_eq] at h9
 have htn:t<a.tmps.size:=by rw[hI.size];exact h9.1
 have hneA:∀ x∈Ai,x.2.1≠t:=fun x hx e=>QbR hnd htT (e ▸ List.mem_map.2 ⟨x,hx,rfl⟩)
 have hneO:∀ x∈Oi,x.2.1≠t:=fun x hx e=>by
  obtain⟨y,hy,hh⟩:=List.any_eq_true.1 (List.all_eq_true.1 hO x hx)
  simp only[Bool.and_eq_true,beq_iff_eq] at hh
  exact hneA y hy (hh.1.1.1.trans e)
 have hA:∀ x∈Ai,Qbn i S x.1=true→S x.1=true:=fun x hx h=>Zg (by have:=List.all_eq_true.1 hiA x hx;simpa using this) h;have hO':∀ x∈Oi,Qbn i S x.1=true→S x.1=true:=fun x hx h=>Zg (by have:=List.all_eq_true.1 hiO x hx;simpa using this) h;refine⟨by rw[← hI.size];simp[Act.put],hI.defers,fun u hu=>?_,Below.andThen hI.bel hb,fun x hx hs u hu=>?_,fun x hx hs=>?_,fun x hx y hy hxy hs1 hs2=>?_,fun x hx hs c hc=>?_⟩
 ·have:u≠t:=fun e=>by subst e;rw[h9.2] at hu;cases hu
  rw[Zi htn,if_neg this];exact hI.outer u hu
 ·rw[Zi htn]
  by_cases e:x.2=t
  ·rw[if_pos e];rw[e,hv] at hu;exact Option.some.inj hu
  ·rw[if_neg e]
   refine hI.vals x hx (Zg (fun e2=>e ?_) hs) u hu;exact congrArg (·.2) (ZI (f:=fun x:Nat × Tmp=>x.1) hix.1.1 x hx (i,t) hi e2)
 ·obtain⟨B,h1,h2,c,h3,h4⟩:=hI.new x hx (hA x hx hs)
  exact⟨B,by rw[Zi htn,if_neg (hneA x hx)];exact h1,h2,c,h3.below hb,h4⟩
 ·rw[Zi htn,if_neg (hneA x hx),Zi htn,if_neg (hneA y hy)]
  exact hI.ne x hx y hy hxy (hA x hx hs1) (hA y hy hs2)
 ·obtain⟨B,h1,h2⟩:=hI.did x hx (hO' x hx hs) c hc
  exact⟨B,by rw[Zi htn,if_neg (hneO x hx)];exact h1,h2.below hb⟩
theorem DI.alloc (hB:diB l n Ti Ai Oi=true) (hI:DI n a0 w00 (Ql l) Ti Ai Oi M C S a w) (hi:(i,t,s,ty)∈Ai){c:Array Value}(hc:c.size=s) (hS:S i=false) (hcl:QaF l S)
 (hiT:(Ti.all fun x=>x.1 != i)=true) (hiO:(Oi.all fun x=>x.1 != i)=true):DI n a0 w00 (Ql l) Ti Ai Oi M C (Qbn i S) (a.put (some t) (.pointer (some ⟨w.heap.size,0,none⟩))) (w.alloc (.cells c ty)):=by
 simp only[diB,Bool.and_eq_true] at hB
 obtain⟨hix,⟨⟨hnd,hndO⟩,hall⟩,hO⟩:=hB
 have hb:Below w.heap.size w (w.alloc (.cells c ty)):=QQ w _;have htA:t∈Ai.map (·.2.1):=List.mem_map.2 ⟨(i,t,s,ty),hi,rfl⟩;have h9:=List.all_eq_true.1 hall t (List.mem_append_right _ htA);simp only[Bool.and_eq_true,decide_eq_true_eq] at h9
 have htn:t<a.tmps.size:=by rw[hI.size];exact h9.1
 have hneT:∀ x∈Ti,x.2≠t:=fun x hx e=>QbR hnd (e ▸ List.mem_map.2 ⟨x,hx,rfl⟩) htA;have one:∀ x∈Ai,x.2.1=t→x=(i,t,s,ty):=fun x hx e=>ZI (f:=fun x:Nat × Tmp × Nat × TypeId=>x.2.1) (QeP hnd) x hx _ hi e;have old:∀ x∈Ai,x.2.1≠t→Qbn i S x.1=true→S x.1=true:=fun x hx hne h=>Zg (fun e=>hne (congrArg (·.2.1) (ZI (f:=fun x:Nat × Tmp × Nat × TypeId=>x.1) hix.1.2 x hx _ hi e))) h;refine⟨by rw[← hI.size];simp[Act.put],hI.defers,fun u hu=>?_,Below.andThen hI.bel hb,fun x hx hs u hu=>?_,fun x hx hs=>?_,fun x hx y hy hxy hs1 hs2=>?_,fun x hx hs c' hc'=>?_⟩
 ·have:u≠t:=fun e=>by subst e;rw[h9.2] at hu;cases hu
  rw[Zi htn,if_neg this];exact hI.outer u hu
 ·rw[Zi htn,if_neg (hneT x hx)]
  exact hI.vals x hx (Zg (by have:=List.all_eq_true.1 hiT x hx;simpa using this) hs) u hu
 ·by_cases e:x.2.1=t
  ·rw[one x hx e]
   exact⟨w.heap.size,by rw[Zi htn,if_pos rfl],hI.bel.size,c,Blk.new w c ty,hc⟩
  ·obtain⟨B,h1,h2,c',h3,h4⟩:=hI.new x hx (old x hx e hs)
   exact⟨B,by rw[Zi htn,if_neg e];exact h1,h2,c',h3.below hb,h4⟩
 ·have lt:∀ x∈Ai,x.2.1≠t→Qbn i S x.1=true→a.tmps.getD x.2.1 undef≠.pointer (some ⟨w.heap.size,0,none⟩):=fun x hx e hs h=>by
   obtain⟨B,h1,h2,c',h3,h4⟩:=hI.new x hx (old x hx e hs)
   rw[h1] at h
   simp at h
   have:=h3.lt
   omega
  by_cases e1:x.2.1=t
  ·by_cases e2:y.2.1=t
   ·exact absurd (e1.trans e2.symm) hxy
   ·rw[Zi htn,if_pos e1,Zi htn,if_neg e2]
    exact fun h=>lt y hy e2 hs2 h.symm
  ·by_cases e2:y.2.1=t
   ·rw[Zi htn,if_neg e1,Zi htn,if_pos e2]
    exact lt x hx e1 hs1
   ·rw[Zi htn,if_neg e1,Zi htn,if_neg e2]
    exact hI.ne x hx y hy hxy (old x hx e1 hs1) (old y hy e2 hs2)
 ·have hs':S x.1=true:=Zg (by have:=List.all_eq_true.1 hiO x hx;simpa using this) hs
  have hne:x.2.1≠t:=fun e=>by
   obtain⟨y,hy,hh⟩:=List.any_eq_true.1 (List.all_eq_true.1 hO x hx)
   simp only[Bool.and_eq_true,beq_iff_eq] at hh
   have hyt:=one y hy (hh.1.1.1.trans e)
   cases ho:l[x.1]? with
   | none=>rw[ho] at hh;simp at hh
   | some o =>
     rw[ho] at hh
     have:=Qkq.at (hcl x.1 o ho hs') y.1 hh.2
     rw[hyt] at this
     simp only at this
     rw[hS] at this
     cases this
  obtain⟨B,h1,h2⟩:=hI.did x hx hs' c' hc'
  exact⟨B,by rw[Zi htn,if_neg hne];exact h1,h2.below hb⟩
theorem DI.box (hI:DI n a0 w00 (Ql l) Ti Ai Oi M C S a w) (hi:(i,t,s,ty)∈Ai) (hs:S i=true):∃ B,a.tmps.getD t undef=.pointer (some ⟨B,0,none⟩)∧w00.heap.size≤B∧∃ c,Blk w B c ty∧c.size=s:=hI.new _ hi hs
theorem Qky {w:World}{B:Nat}{c:Array Value}{ty:TypeId}{cs:List Value}(h:Blk w B c ty) (hs:c.size=cs.length):Blk (w.setCells B 0 cs) B cs.toArray ty:=by
 have:=QaJ cs w c 0 h (by omega)
 have e:Zn c 0 cs=cs.toArray:=by
  unfold Zn;have h9:c.toList.drop (0+cs.length)=[]:=List.drop_of_length_le (by simp[hs]);rw[h9];simp
 rwa [e] at this
theorem DI.store (hB:diB l n Ti Ai Oi=true) (hI:DI n a0 w00 (Ql l) Ti Ai Oi M C S a w) (hi:(i,t,s,ty)∈Oi){B j:Nat}{c:Array Value}{cs:List Value}(hj:(j,t,s,ty)∈Ai) (hsj:S j=true) (hv:a.tmps.getD t undef=.pointer (some ⟨B,0,none⟩)) (hBk:Blk w B c ty) (hcs:c.size=s) (hlo:w00.heap.size≤B) (hC:C.lookup t=some cs) (hln:cs.length=s) (hS:S i=false) (hcl:QaF l S)
 (hiT:(Ti.all fun x=>x.1 != i)=true) (hiA:(Ai.all fun x=>x.1 != i)=true):DI n a0 w00 (Ql l) Ti Ai Oi M C (Qbn i S) a (w.setCells B 0 cs):=by
 simp only[diB,Bool.and_eq_true] at hB
 obtain⟨hix,⟨⟨hnd,hndO⟩,hall⟩,hO⟩:=hB
 have hk:=ZM w B 0 cs;have hnew:=Qky (cs:=cs) hBk (by omega);have hA:∀ x∈Ai,Qbn i S x.1=true→S x.1=true:=fun x hx h=>Zg (by have:=List.all_eq_true.1 hiA x hx;simpa using this) h;refine⟨hI.size,hI.defers,hI.outer,ZN hlo cs w w00 0 hI.bel,fun x hx hs u hu=>?_,fun x hx hs=>?_,fun x hx y hy hxy hs1 hs2=>hI.ne x hx y hy hxy (hA x hx hs1) (hA y hy hs2),fun x hx hs c' hc'=>?_⟩
 ·exact hI.vals x hx (Zg (by have:=List.all_eq_true.1 hiT x hx;simpa using this) hs) u hu
 ·obtain⟨B',h1,h2,c',h3,h4⟩:=hI.new x hx (hA x hx hs)
  by_cases e:B'=B
  ·subst e
   have:some (Obj.cells c' x.2.2.2 (0,0))=some (Obj.cells c ty (0,0)):=by rw[← h3,← hBk]
   simp at this
   obtain⟨rfl,hty⟩:=this
   exact⟨B',h1,h2,_,by rw[hty];exact hnew,by simp;omega⟩
  ·exact⟨B',h1,h2,c',(hk B' e).trans h3,h4⟩
 ·by_cases e:x.2.1=t
  ·have hx':=ZI (f:=fun x:Nat × Tmp × Nat × TypeId=>x.2.1) hndO x hx _ hi e;subst hx';simp only at hc' ⊢
   rw[hC] at hc'
   cases hc'
   exact⟨B,hv,hnew⟩
  ·have hs':S x.1=true:=Zg (fun e'=>e (congrArg (·.2.1) (ZI (f:=fun x:Nat × Tmp × Nat × TypeId=>x.1) hix.2 x hx _ hi e'))) hs;obtain⟨B',h1,h2⟩:=hI.did x hx hs' c' hc'
   have hne:B'≠B:=fun e'=>by
    obtain⟨y,hy,hh⟩:=List.any_eq_true.1 (List.all_eq_true.1 hO x hx)
    simp only[Bool.and_eq_true,beq_iff_eq] at hh
    cases ho:l[x.1]? with
    | none=>rw[ho] at hh;simp at hh
    | some o =>
      rw[ho] at hh
      exact hI.ne y hy _ hj (by rw[hh.1.1.1];exact e) (Qkq.at (hcl x.1 o ho hs') y.1 hh.2) hsj (by rw[hh.1.1.1,h1,e'];exact hv.symm)
   exact⟨B',h1,(hk B' hne).trans h2⟩
theorem DI.full (hI:DI n a0 w00 (Ql l) Ti Ai Oi M C S a w){i j:Nat}{cs:List Value}(hj:(j,t,s,ty)∈Ai) (hsj:S j=true) (hi:(i,t,s,ty)∈Oi) (hsi:S i=true) (hC:C.lookup t=some cs) :
 ∃ B,a.tmps.getD t undef=.pointer (some ⟨B,0,none⟩)∧w00.heap.size≤B∧Blk w B cs.toArray ty:=by
 obtain⟨B,h1,h2⟩:=hI.did _ hi hsi cs hC
 obtain⟨B',h3,h4,_⟩:=hI.new _ hj hsj
 simp only at h1 h3
 rw[h1] at h3
 simp at h3
 subst h3;exact⟨B,h1,h4,h2⟩
theorem Qjr {L:List (Tmp × Value)}(hF:Fr n a0 L) (hL:(L.all fun p=>!(Ql l).contains p.1)=true) (hI:DI n a0 w00 (Ql l) Ti Ai Oi M C S a w):Fr n a L:=by
 refine⟨hI.size,hI.defers,fun t v hl=>?_⟩
 have hmem:∃ p∈L,p.1=t:=by
  clear hL hF
  induction L with
  | nil=>simp at hl
  | cons x r ih =>
    by_cases e:t=x.1
    ·exact⟨x,by simp,e.symm⟩
    ·have e':(t==x.1)=false:=beq_false_of_ne e;rw[List.lookup_cons,e'] at hl
     obtain⟨p,hp,he⟩:=ih hl
     exact⟨p,by simp[hp],he⟩
 obtain⟨p,hp,rfl⟩:=hmem
 have hn:=List.all_eq_true.1 hL p hp;rw[hI.outer p.1 (by simpa using hn)]
 exact hF.sl _ _ hl
theorem Qis {Q:Exit→Act→World→Prop}{K:Act→World→Prop}{B:Nat}{c:Array Value}{bt ty2 ty3:TypeId}{cells:List Value}{x y:Tmp}{pos:String}{aft:Array Edge}(hB:Blk w B c bt)
 (hx:a.tmps.getD x undef=.pointer (some ⟨B,0,none⟩)) (hy:a.tmps.getD y undef=.agg cells.toArray) (hi:(Tryz.prog.info? ty2).map (·.size)=some cells.length) (h1:cells.all (·.oneCell')=true) (hs:cells.length=c.size)
 (hK:K a (w.setCells B 0 cells)):Oper.wp Tryz.prog ⟨none,.store ty2 (.tmp x) (.tmp y),ty3,pos,aft,none⟩ a w K Q:=by
 have e:a.eval (.tmp x)=.pointer (some ⟨B,0,none⟩):=hx;have e2:a.eval (.tmp y)=.agg cells.toArray:=hy
 have:=run_storeAt_mid (P:=Tryz.prog) w B 0 ty2 cells.toArray (by simpa using QbU hB 0 cells.length (by omega)) (by simpa using hi) (by simpa using h1)
 unfold Oper.wp execOp;simp only[e,e2,Sem.run_bind,this,Result.andThen_ok,Sem.run_pure]
 rw[Oper.upon_skip];simpa[Act.put] using hK
end
theorem QbD (b:Nat):∀ (vs:List Value) (w:World) (j:Nat),(w.setCells b j vs).heap.size=w.heap.size
 | [],w,j=>rfl
 | v::vs,w,j=>(QbD b vs _ _).trans (by simp)
abbrev QkP (Z:Type):=List (Nat × (Z→World→(Nat→Prop)→Prop))
def Qb4 {Z:Type}(D:QkP Z):Prop:=∀ x∈D,∀ z w w' O,(∀ k,O k→k<w.heap.size→w'.heap[k]?=w.heap[k]?)→x.2 z w O→x.2 z w' O
def Qjd (w00:World) (Ai:List (Nat × Tmp × Nat × TypeId)) (S:Nat→Bool) (a:Act) (w:World) (O:Nat→Prop):Prop :=
 (∀ k,O k→w00.heap.size≤k∧k<w.heap.size)∧∀ y∈Ai,S y.1=true→∀ B,a.tmps.getD y.2.1 undef=.pointer (some ⟨B,0,none⟩)→¬ O B
def DMz (n:Nat) (a0:Act) (w00:World) (ds:List Tmp) (Ti:List (Nat × Tmp)) (Ai Oi:List (Nat × Tmp × Nat × TypeId)){Z:Type}(M:Z→List (Tmp × Value)) (C:Z→List (Tmp × List Value)) (D:QkP Z) (z:Z) (S:Nat→Bool) (a:Act) (w:World):Prop :=
 DI n a0 w00 ds Ti Ai Oi (M z) (C z) S a w∧∀ x∈D,S x.1=true→∃ O,x.2 z w O∧Qjd w00 Ai S a w O
def DM (n:Nat) (a0:Act) (w00:World) (ds:List Tmp) (Ti:List (Nat × Tmp)) (Ai Oi:List (Nat × Tmp × Nat × TypeId)){Z:Type}(M:Z→List (Tmp × Value)) (C:Z→List (Tmp × List Value)) (D:QkP Z) (S:Nat→Bool) (a:Act) (w:World):Prop :=
 ∃ z,DMz n a0 w00 ds Ti Ai Oi M C D z S a w
section
variable {n i:Nat}{a0 a:Act}{w00 w w':World}{l:List Oper}{Ti:List (Nat × Tmp)}{Ai Oi:List (Nat × Tmp × Nat × TypeId)}{Z:Type}{M:Z→List (Tmp × Value)}{C:Z→List (Tmp × List Value)}{D:QkP Z}{z z':Z}{S:Nat→Bool}{t:Tmp}{v:Value}{s:Nat}{ty:TypeId}
theorem QjW (h:((D.map (·.1)).all fun j=>j != i)=true):∀ x∈D,x.1≠i:=fun x hx=>by
 have:=List.all_eq_true.1 h x.1 (List.mem_map.2 ⟨x,hx,rfl⟩)
 simpa using this
theorem Qed (hB:diB l n Ti Ai Oi=true) (hi:(i,t)∈Ti):∀ x∈Ai,x.2.1≠t:=by
 simp only[diB,Bool.and_eq_true] at hB
 obtain⟨hix,⟨⟨hnd,hndO⟩,hall⟩,hO⟩:=hB
 exact fun x hx e=>QbR hnd (List.mem_map.2 ⟨(i,t),hi,rfl⟩) (e ▸ List.mem_map.2 ⟨x,hx,rfl⟩)
theorem Qft (hB:diB l n Ti Ai Oi=true) (ht:t∈Ti.map (·.2)++Ai.map (·.2.1)):t<n:=by
 simp only[diB,Bool.and_eq_true] at hB
 have h9:=List.all_eq_true.1 hB.2.1.2 t ht;simp only[Bool.and_eq_true,decide_eq_true_eq] at h9
 exact h9.1
theorem Qjd.pure {O:Nat→Prop}(hne:∀ x∈Ai,x.2.1≠t) (htn:t<a.tmps.size) (hiA:(Ai.all fun x=>x.1 != i)=true) (hb:w.heap.size≤w'.heap.size) (h:Qjd w00 Ai S a w O):Qjd w00 Ai (Qbn i S) (a.put (some t) v) w' O :=
 ⟨fun k hk=>⟨(h.1 k hk).1,Nat.lt_of_lt_of_le (h.1 k hk).2 hb⟩,fun y hy hs B hB=>by
  rw[Zi htn,if_neg (hne y hy)] at hB
  exact h.2 y hy (Zg (by have:=List.all_eq_true.1 hiA y hy;simpa using this) hs) B hB⟩
theorem DMz.pure (hst:Qb4 D) (hB:diB l n Ti Ai Oi=true) (hI:DMz n a0 w00 (Ql l) Ti Ai Oi M C D z S a w) (hi:(i,t)∈Ti) (hv:(M z).lookup t=some v) (hS:S i=false) (hb:Below w.heap.size w w')
 (hiA:(Ai.all fun x=>x.1 != i)=true) (hiO:(Oi.all fun x=>x.1 != i)=true) (hiD':((D.map (·.1)).all fun j=>j != i)=true):DM n a0 w00 (Ql l) Ti Ai Oi M C D (Qbn i S) (a.put (some t) v) w':=by
 have hiD:=QjW hiD';refine⟨z,DI.pure hB hI.1 hi hv hS hb hiA hiO,fun x hx hs=>?_⟩
 obtain⟨O,h1,h2⟩:=hI.2 x hx (Zg (hiD x hx) hs)
 exact⟨O,hst x hx z w w' O (fun k _ hk=>hb.block k hk) h1,h2.pure (Qed hB hi) (by rw[hI.1.size];exact Qft hB (List.mem_append_left _ (List.mem_map.2 ⟨(i,t),hi,rfl⟩))) hiA hb.size⟩
theorem DMz.alloc (hst:Qb4 D) (hB:diB l n Ti Ai Oi=true) (hI:DMz n a0 w00 (Ql l) Ti Ai Oi M C D z S a w) (hi:(i,t,s,ty)∈Ai){c:Array Value}(hc:c.size=s) (hS:S i=false) (hcl:QaF l S)
 (hiT:(Ti.all fun x=>x.1 != i)=true) (hiO:(Oi.all fun x=>x.1 != i)=true) (hiD':((D.map (·.1)).all fun j=>j != i)=true):DM n a0 w00 (Ql l) Ti Ai Oi M C D (Qbn i S) (a.put (some t) (.pointer (some ⟨w.heap.size,0,none⟩))) (w.alloc (.cells c ty)):=by
 have hb:Below w.heap.size w (w.alloc (.cells c ty)):=QQ w _;have hiD:=QjW hiD';refine⟨z,DI.alloc hB hI.1 hi hc hS hcl hiT hiO,fun x hx hs=>?_⟩
 obtain⟨O,h1,h2⟩:=hI.2 x hx (Zg (hiD x hx) hs)
 have htn:t<a.tmps.size:=by rw[hI.1.size];exact Qft hB (List.mem_append_right _ (List.mem_map.2 ⟨(i,t,s,ty),hi,rfl⟩))
 refine⟨O,hst x hx z w _ O (fun k _ hk=>hb.block k hk) h1,fun k hk=>⟨(h2.1 k hk).1,Nat.lt_of_lt_of_le (h2.1 k hk).2 hb.size⟩,fun y hy hs' B hB' hO=>?_⟩
 rw[Zi htn] at hB'
 by_cases e:y.2.1=t
 ·rw[if_pos e] at hB'
  simp at hB'
  subst hB'
  have:=(h2.1 _ hO).2
  omega
 ·rw[if_neg e] at hB'
  refine h2.2 y hy (Zg (fun e'=>e ?_) hs') B hB' hO;simp only[diB,Bool.and_eq_true] at hB
  exact congrArg (·.2.1) (ZI (f:=fun x:Nat × Tmp × Nat × TypeId=>x.1) hB.1.1.2 y hy _ hi e')
theorem DMz.store (hst:Qb4 D) (hB:diB l n Ti Ai Oi=true) (hI:DMz n a0 w00 (Ql l) Ti Ai Oi M C D z S a w) (hi:(i,t,s,ty)∈Oi){B j:Nat}{c:Array Value}{cs:List Value}(hj:(j,t,s,ty)∈Ai) (hsj:S j=true) (hv:a.tmps.getD t undef=.pointer (some ⟨B,0,none⟩)) (hBk:Blk w B c ty) (hcs:c.size=s) (hlo:w00.heap.size≤B) (hC:(C z).lookup t=some cs) (hln:cs.length=s) (hS:S i=false) (hcl:QaF l S)
 (hiT:(Ti.all fun x=>x.1 != i)=true) (hiA:(Ai.all fun x=>x.1 != i)=true) (hiD':((D.map (·.1)).all fun j=>j != i)=true):DM n a0 w00 (Ql l) Ti Ai Oi M C D (Qbn i S) a (w.setCells B 0 cs):=by
 have hiD:=QjW hiD';refine⟨z,DI.store hB hI.1 hi hj hsj hv hBk hcs hlo hC hln hS hcl hiT hiA,fun x hx hs=>?_⟩
 obtain⟨O,h1,h2⟩:=hI.2 x hx (Zg (hiD x hx) hs)
 have hk:=ZM w B 0 cs;have hsz:(w.setCells B 0 cs).heap.size=w.heap.size:=QbD B cs w 0;refine⟨O,hst x hx z w _ O (fun k hk' _=>hk k fun e=>?_) h1,fun k hk'=>by rw[hsz];exact h2.1 k hk',fun y hy hs' B' hB' hO=>?_⟩
 ·subst e;exact h2.2 _ hj hsj k hv hk'
 ·exact h2.2 y hy (Zg (by have:=List.all_eq_true.1 hiA y hy;simpa using this) hs') B' hB' hO
theorem DMz.call (hst:Qb4 D) (hB:diB l n Ti Ai Oi=true) (hI:DMz n a0 w00 (Ql l) Ti Ai Oi M C D z S a w) (hi:(i,t)∈Ti) (hv:(M z').lookup t=some v) (hS:S i=false) (hcl:QaF l S) (hb:Below w.heap.size w w')
 (hiA:(Ai.all fun x=>x.1 != i)=true) (hiO:(Oi.all fun x=>x.1 != i)=true)
 (dp:List Nat) (hdp:(dp.all fun j=>match l[j]? with | some o=>Qdm o i | none=>false)=true)
 (hM:∀ x∈Ti,x.1∈dp∨x.1=i∨(M z).lookup x.2=(M z').lookup x.2) (hC:∀ x∈Oi,x.1∈dp∨(C z).lookup x.2.1=(C z').lookup x.2.1)
 (hD:∀ x∈D,(x.1=i∧∃ O,x.2 z' w' O∧∀ k,O k→w.heap.size≤k∧k<w'.heap.size)∨(x.1≠i∧∀ w O,x.2 z w O→x.2 z' w O)):DM n a0 w00 (Ql l) Ti Ai Oi M C D (Qbn i S) (a.put (some t) v) w':=by
 have hno:∀ j∈dp,S j=true→False:=fun j hj hs=>by
  have:=List.all_eq_true.1 hdp j hj
  cases ho:l[j]? with
  | none=>rw[ho] at this;simp at this
  | some o =>
    rw[ho] at this
    have:=Qkq.at (hcl j o ho hs) i this
    rw[hS] at this
    cases this
 have hI':DI n a0 w00 (Ql l) Ti Ai Oi (M z') (C z') S a w:=by
  refine⟨hI.1.size,hI.1.defers,hI.1.outer,hI.1.bel,fun x hx hs u hu=>?_,hI.1.new,hI.1.ne,fun x hx hs c hc=>?_⟩
  ·rcases hM x hx with h | h | h
   ·exact(hno _ h hs).elim
   ·rw[h,hS] at hs;cases hs
   ·exact hI.1.vals x hx hs u (h.trans hu)
  ·rcases hC x hx with h | h
   ·exact(hno _ h hs).elim
   ·exact hI.1.did x hx hs c (h.trans hc)
 have htn:t<a.tmps.size:=by rw[hI.1.size];exact Qft hB (List.mem_append_left _ (List.mem_map.2 ⟨(i,t),hi,rfl⟩))
 refine⟨z',DI.pure hB hI' hi hv hS hb hiA hiO,fun x hx hs=>?_⟩
 rcases hD x hx with ⟨_,O,h1,h2⟩|⟨hne,h1⟩
 ·refine⟨O,h1,fun k hk=>⟨Nat.le_trans hI.1.bel.size (h2 k hk).1,(h2 k hk).2⟩,fun y hy hs' B hB' hO=>?_⟩
  rw[Zi htn,if_neg (Qed hB hi y hy)] at hB'
  have hs2:S y.1=true:=Zg (by have:=List.all_eq_true.1 hiA y hy;simpa using this) hs';obtain⟨B',h3,h4,c,h5,h6⟩:=hI.1.new y hy hs2
  rw[h3] at hB'
  simp at hB'
  subst hB'
  have:=h5.lt
  have:=(h2 _ hO).1
  omega
 ·obtain⟨O,h3,h4⟩:=hI.2 x hx (Zg hne hs)
  exact⟨O,hst x hx z' w w' O (fun k _ hk=>hb.block k hk) (h1 w O h3),h4.pure (Qed hB hi) htn hiA hb.size⟩
theorem QfR {P:Program}{Q:Exit→Act→World→Prop}{id:Nat}{L:List (Tmp × Value)}(Ti:List (Nat × Tmp)) (Ai Oi:List (Nat × Tmp × Nat × TypeId)) (M:Z→List (Tmp × Value)) (C:Z→List (Tmp × List Value)) (D:QkP Z) (z0:Z)
 (hm:P.follows .mixedOrders=true) (hF:Fr n a L) (hL:(L.all fun p=>!(Ql l).contains p.1)=true) (hB:((Qak 0 l&&(l.all fun o=>o.guard.isNone))&&diB l n Ti Ai Oi)=true)
 (hst:diB l n Ti Ai Oi=true→QcQ P l (DM n a w (Ql l) Ti Ai Oi M C D) 0 l)
 (hend:∀ z S a' w',(∀ j,j<l.length→S j=true)→DMz n a w (Ql l) Ti Ai Oi M C D z S a' w'→Fr n a' L→Q .normal a' w'):(Code.region id l.toArray true).wp P Q a w:=by
 rw[Bool.and_eq_true] at hB
 refine Qi3 (DM n a w (Ql l) Ti Ai Oi M C D) hm hB.1 ?_ (hst hB.2) (fun S a' w' hS ⟨z,hI⟩=>hend z S a' w' hS hI ?_)
 ·exact⟨z0,⟨hF.size,hF.defers,fun _ _=>rfl,Q1 (m:=1) (Below.refl _ _),fun _ _ h=>(by cases h),fun _ _ h=>(by cases h),fun _ _ _ _ _ h=>(by cases h),fun _ _ h=>(by cases h)⟩,fun _ _ h=>by cases h⟩
 ·exact Qjr hF hL hI.1
end
end Go.Proofs.YtacjnejckfhpoaeGreat
namespace Go.Proofs.YtacjnejckfhpoaeGreat
open Go.ChangeShapes Go.WideShapes Go.ChangeAt Go.RowKit
set_option linter.unusedSimpArgs false
set_option linter.unusedVariables false
theorem Qgh {m:Nat}{too:Nat→Int}(ht:∀ i,i<m→-9223372036854775808≤too i∧too i≤9223372036854775807):{n:Nat}→{t u:TT n}→t.ok→t.ren m too=some u→u.ok
 | 0,t,_,_,_=>Empty.elim t
 | n+1,t,u,hok,h=>by
   simp only[TT.ren] at h
   cases e1:Qa4 m too t.1 t.2.1 with
   | none=>simp[e1] at h
   | some r1 =>
     simp only[e1] at h
     cases e2:QcY (TT.ren m too) t.2.2 with
     | none=>simp[e2] at h
     | some l1 =>
       simp only[e2] at h
       have h:=Option.some.inj h;subst h;refine⟨?_,fun x hx=>?_⟩
       ·show -9223372036854775808≤r1∧r1≤9223372036854775807;unfold Qa4 at e1;split at e1
        ·cases e1;exact hok.1
        split at e1
        ·cases e1
        rename_i h1 h2
        split at e1
        ·cases e1
        ·cases e1;exact ht _ (by omega)
       ·obtain⟨a1,a2⟩:=QbI.1 e2
        obtain⟨i,hi⟩:=List.getElem?_of_mem hx
        have hil:i<t.2.2.length:=by rw[← a1];exact(List.getElem?_eq_some_iff.1 hi).1
        have:=a2 i t.2.2[i] (List.getElem?_eq_getElem hil)
        rw[hi] at this
        exact Qgh ht (hok.2 _ (List.getElem_mem hil)) this
theorem Qhj {w:World}{Q:Nat→Prop}{l:List Int}{a:Option Addr}{m c:Nat}(h:intsL.In w Q l [.slice a m c]):∀ x∈l,-9223372036854775808≤x∧x≤9223372036854775807:=fun x hx=>by
 obtain⟨i,hi⟩:=List.getElem?_of_mem hx
 obtain⟨g,o,ds,_,_,_,_,_,hr⟩:=Lay.list_at h hi
 exact hr
theorem Qdj {w:World}{Q:Nat→Prop}{m:List (Qf 6)}{p:Option Addr}{n c:Nat}(h:(Qa5 6).In w Q m [.slice p n c]){k:Nat}{g:Qf 6}(hg:m[k]?=some g) :
 ∃ mg mo a1 c1 a2 c2 a3 c3,p=some ⟨mg,mo,none⟩∧w.cell? ⟨mg,mo+k*4,none⟩=some (.int .i64 g.regs)∧w.cell? ⟨mg,mo+k*4+1,none⟩=some (.slice a1 g.params.length c1)∧w.cell? ⟨mg,mo+k*4+2,none⟩=some (.slice a2 g.results.length c2)∧w.cell? ⟨mg,mo+k*4+3,none⟩=some (.slice a3 g.blocks.length c3) ∧
  (Qh 6).In w Q g.params [.slice a1 g.params.length c1]∧(Qh 6).In w Q g.results [.slice a2 g.results.length c2]:=by
 obtain⟨mg,mo,ds,e1,e2,e3,hc,hd⟩:=Lay.list_at h hg
 obtain⟨a1,c1,a2,c2,a3,c3,rfl,h1,h2,h3,h4⟩:=Qac hd
 exact⟨mg,mo,a1,c1,a2,c2,a3,c3,e1,hc 0 (by decide),hc 1 (by decide),hc 2 (by decide),hc 3 (by decide),h1,h2⟩
theorem Qkd {regs:List Int}(h:∀ x∈regs,-9223372036854775808≤x∧x≤9223372036854775807){t:TT 6}(ht:t.ok):(Qaf regs t).ok:=by
 unfold Qaf
 cases e:t.ren regs.length (fun i=>regs.getD i 0) with
 | none=>exact⟨⟨by decide,by decide⟩,fun x hx=>by simp[zeroTT] at hx⟩
 | some u=>exact Qgh (fun i hi=>h (regs.getD i 0) (by simp[List.getD,hi])) ht e
theorem Qcp.types {w:World}{G M:Nat}{A:Nat→Prop}{l:List (TT 6)}(h:Qcp w G M l) (hl:l.length=M) (hok:∀ x∈l,x.ok) (hA:∀ k,G≤k→¬ A k):(Qh 6).In w (fun g=>¬ A g) l [.slice (some ⟨G,0,none⟩) M M]:=by
 obtain⟨cur,h1,h2,h3⟩:=h.row
 subst hl;refine⟨_,_,rfl,fun i x hx=>?_⟩
 obtain⟨a,c,q0,q1,q2,q3⟩:=h3 i x hx
 refine⟨G,0,[.int .i64 x.kind,.int .i64 x.r,.slice a x.len c],rfl,hA G (Nat.le_refl _),lt_of_block h1,fun j hj=>?_,a,c,rfl,q3.mono (fun k hk _=>hA k (by omega)),hok x (List.mem_of_getElem? hx)⟩
 have hj:j<3:=hj;show w.cell? ⟨G,0+i*3+j,none⟩=_;rw[Nat.zero_add]
 match j,hj with
 | 0,_=>exact Qb h1 _ _ q0
 | 1,_=>exact Qb h1 _ _ q1
 | 2,_=>exact Qb h1 _ _ q2
 | j+3,h=>exact absurd h (by omega)
noncomputable def JSt.callC (s:JSt) (x:Qx):Int:=match s.m[x.k.toNat]? with
 | none=>0
 | some g=>Qw (Qb6 s.H x.regs g.regs) (Qw (s.handC x.args (g.params.map (Qaf x.regs))) (Q8 s.L.length g.results.length))
def JSt.callS (s:JSt) (x:Qx):JSt:={ s with L:=s.L++(match s.m[x.k.toNat]? with | none=>[] | some g=>g.results.map (Qaf x.regs)) }
def QlD (w2:World) (b X mg mo nm cm k n1 d1 n2 d2 n3 d3:Nat) (fr:Int) (p1 p2 p3:Option Addr) (t:Tmp) (v:Value) (w:World):Prop :=
 match ([(4,fun v w=>∃ B,v=.pointer (some ⟨B,0,none⟩)∧w2.heap.size≤B∧Blk w B #[.int .i64 0,.slice none 0 0,.slice none 0 0,.slice none 0 0] 40)]:List (Tmp × (Value→World→Prop))).lookup t with
 | some p=>p v w
 | none=>v=(([(0,.pointer (some ⟨b,0,none⟩)),(3,.pointer (some ⟨X,0,none⟩)),(5,.pointer (some ⟨b,0,none⟩)),(6,.pointer (some ⟨b,0,none⟩)),(7,.pointer (some ⟨b,0,none⟩)),(8,.pointer (some ⟨b,0,none⟩)),(9,.slice (some ⟨mg,mo,none⟩) nm cm),(10,.pointer (some ⟨X,4,none⟩)),(11,.int .i64 (k:Int)),(12,.pointer (some ⟨mg,mo+k*4,none⟩)),(13,.agg #[.int .i64 fr,.slice p1 n1 d1,.slice p2 n2 d2,.slice p3 n3 d3])]:List (Tmp × Value)).lookup t).getD undef
theorem jc1 {w2:World}{b X mg mo nm cm k n1 d1 n2 d2 n3 d3:Nat}{fr:Int}{p1 p2 p3:Option Addr}(y0:w2.cell? ⟨b,0,none⟩=some (.slice (some ⟨mg,mo,none⟩) nm cm)) (x4:w2.cell? ⟨X,4,none⟩=some (.int .i64 (k:Int))) (f0:w2.cell? ⟨mg,mo+k*4,none⟩=some (.int .i64 fr)) (f1:w2.cell? ⟨mg,mo+k*4+1,none⟩=some (.slice p1 n1 d1)) (f2:w2.cell? ⟨mg,mo+k*4+2,none⟩=some (.slice p2 n2 d2)) (f3:w2.cell? ⟨mg,mo+k*4+3,none⟩=some (.slice p3 n3 d3)) (hkn:(k:Int)<nm){Q:Exit→Act→World→Prop}
 (a:Act) (m:Nat) (hn:a.tmps.size=m) (hn':36≤m) (h0:a.tmps.getD 0 undef=.pointer (some ⟨b,0,none⟩)) (h3:a.tmps.getD 3 undef=.pointer (some ⟨X,0,none⟩))
 (hend:∀ ops vs w',vs 13=.agg #[.int .i64 fr,.slice p1 n1 d1,.slice p2 n2 d2,.slice p3 n3 d3]→(fun v w=>∃ B,v=.pointer (some ⟨B,0,none⟩)∧w2.heap.size≤B∧Blk w B #[.int .i64 0,.slice none 0 0,.slice none 0 0,.slice none 0 0] 40) (vs 4) w'→Below w2.heap.size w2 w'→wpList Tryz.prog ops Q (Qid 10 ((Tryz.f75.body.bind (QF 1)).getD .skip)) (Z3 a vs [5,6,7,8,9,10,11,12,13,4]) w') :
 Code.wp Tryz.prog ((Tryz.f75.body.bind (QF 1)).getD .skip) Q a w2:=by
 conv=>arg 2;whnf
 refine QZ 10 (QlD w2 b X mg mo nm cm k n1 d1 n2 d2 n3 d3 fr p1 p2 p3) (fun w=>Below w2.heap.size w2 w) (fun w w'=>Below w.heap.size w w') (outs:=[0,3]) (gs:=[]) (bs:=[true,true,true,true,true,true,true,true,true,true]) (by kernel_rfl) (n:=36) hn hn' (by kernel_rfl) (by kernel_rfl) ?hR ?hG (ZW (Below.refl _ _) 1) ⟨h0,h3,trivial⟩ ?hA ?hend
 case hR =>
  intro t v w w' hr h;unfold QlD at h ⊢;split at h
  ·rename_i p hp
   simp only[List.lookup_cons,List.lookup_nil] at hp
   split at hp
   ·cases hp;exact(by obtain⟨B,e,h1,h2⟩:=h;exact⟨B,e,h1,(hr.block B (lt_of_block h2)).trans h2⟩)
   ·cases hp
  ·exact h
 case hG=>exact trivial
 case hend=>exact fun ops vs w' hW hk=>hend ops vs w' (hk 13 (by kernel_rfl)) (hk 4 (by kernel_rfl)) hW
 case hA =>
  refine⟨fun a w hW hk K hK=>?_,?_⟩
  ·obtain⟨k0,-⟩:=hk
   have k0:a.tmps.getD 0 undef=.pointer (some ⟨b,0,none⟩):=k0;go_simp;exact hK _ _ (Below.refl _ _) hW rfl
  refine⟨fun a w hW hk K hK=>?_,?_⟩
  ·obtain⟨k0,-⟩:=hk
   have k0:a.tmps.getD 5 undef=.pointer (some ⟨b,0,none⟩):=k0;go_simp;exact hK _ _ (Below.refl _ _) hW rfl
  refine⟨fun a w hW hk K hK=>?_,?_⟩
  ·obtain⟨k0,-⟩:=hk
   have k0:a.tmps.getD 6 undef=.pointer (some ⟨b,0,none⟩):=k0;go_simp;exact hK _ _ (Below.refl _ _) hW rfl
  refine⟨fun a w hW hk K hK=>?_,?_⟩
  ·obtain⟨k0,-⟩:=hk
   have k0:a.tmps.getD 7 undef=.pointer (some ⟨b,0,none⟩):=k0;go_simp;exact hK _ _ (Below.refl _ _) hW rfl
  refine⟨fun a w hW hk K hK=>?_,?_⟩
  ·obtain⟨k0,-⟩:=hk
   have k0:a.tmps.getD 8 undef=.pointer (some ⟨b,0,none⟩):=k0;have c0:=QY y0 hW;go_simp;exact hK _ _ (Below.refl _ _) hW rfl
  refine⟨fun a w hW hk K hK=>?_,?_⟩
  ·obtain⟨k0,-⟩:=hk
   have k0:a.tmps.getD 3 undef=.pointer (some ⟨X,0,none⟩):=k0;go_simp;exact hK _ _ (Below.refl _ _) hW rfl
  refine⟨fun a w hW hk K hK=>?_,?_⟩
  ·obtain⟨k0,-⟩:=hk
   have k0:a.tmps.getD 10 undef=.pointer (some ⟨X,4,none⟩):=k0;have c0:=QY x4 hW;go_simp;exact hK _ _ (Below.refl _ _) hW rfl
  refine⟨fun a w hW hk K hK=>?_,?_⟩
  ·obtain⟨k0,k1,-⟩:=hk
   have k0:a.tmps.getD 9 undef=.slice (some ⟨mg,mo,none⟩) nm cm:=k0;have k1:a.tmps.getD 11 undef=.int .i64 (k:Int):=k1;go_simp;exact hK _ _ (Below.refl _ _) hW rfl
  refine⟨fun a w hW hk K hK=>?_,?_⟩
  ·obtain⟨k0,-⟩:=hk
   have k0:a.tmps.getD 12 undef=.pointer (some ⟨mg,mo+k*4,none⟩):=k0;have c0:=QY f0 hW;have c1:=QY f1 hW;have c2:=QY f2 hW;have c3:=QY f3 hW;go_simp;exact hK _ _ (Below.refl _ _) hW rfl
  refine⟨fun a w hW hk K hK=>?_,?_⟩
  ·clear hk;go_simp;exact hK _ _ (QQ _ _) (hW.alloc hW.size _) ⟨_,rfl,hW.size,Qu _ _ _⟩
  trivial
def QlC (w2:World) (b X C N ac n1 d1 Kn rc:Nat) (ag rg p1:Option Addr) (ps:List (TT 6)) (regs:List Int) (t:Tmp) (v:Value) (w:World):Prop :=
 match ([(27,fun v w=>∃ g,v=.slice (some ⟨g,0,none⟩) n1 n1∧w2.heap.size≤g∧Qcp w g n1 (ps.map (Qaf regs)))]:List (Tmp × (Value→World→Prop))).lookup t with
 | some p=>p v w
 | none=>v=(([(0,.pointer (some ⟨b,0,none⟩)),(3,.pointer (some ⟨X,0,none⟩)),(4,.pointer (some ⟨C,0,none⟩)),(20,.pointer (some ⟨b,0,none⟩)),(21,.pointer (some ⟨X,7,none⟩)),(22,.slice ag N ac),(23,.pointer (some ⟨C,1,none⟩)),(24,.slice p1 n1 d1),(25,.pointer (some ⟨X,6,none⟩)),(26,.slice rg Kn rc)]:List (Tmp × Value)).lookup t).getD undef
theorem jc3 {w2:World}{b X C N ac n1 d1 Kn rc:Nat}{ag rg p1:Option Addr}{ps:List (TT 6)}{regs:List Int}{Q R:Nat→Prop}(x6:w2.cell? ⟨X,6,none⟩=some (.slice rg Kn rc)) (x7:w2.cell? ⟨X,7,none⟩=some (.slice ag N ac)) (e1:w2.cell? ⟨C,1,none⟩=some (.slice p1 n1 d1)) (HK:Hid (regs.length=Kn)) (HN1:Hid (ps.length=n1)) (hn1:n1≤1000) (HR:Hid (intsL.In w2 Q regs [.slice rg Kn rc])) (HP:Hid (LIn w2 R ps p1)) (HC:Hid (∀ x∈ps,x.count≤2000)){Q:Exit→Act→World→Prop}
 (a:Act) (m:Nat) (hn:a.tmps.size=m) (hn':36≤m) (h0:a.tmps.getD 0 undef=.pointer (some ⟨b,0,none⟩)) (h3:a.tmps.getD 3 undef=.pointer (some ⟨X,0,none⟩)) (h4:a.tmps.getD 4 undef=.pointer (some ⟨C,0,none⟩))
 (hend:∀ ops vs w',vs 22=.slice ag N ac→vs 20=.pointer (some ⟨b,0,none⟩)→(fun v w=>∃ g,v=.slice (some ⟨g,0,none⟩) n1 n1∧w2.heap.size≤g∧Qcp w g n1 (ps.map (Qaf regs))) (vs 27) w'→Below w2.heap.size w2 w'→wpList Tryz.prog ops Q (Qid 8 ((Tryz.f75.body.bind (QF 3)).getD .skip)) (Z3 a vs [20,21,22,23,24,25,26,27]) w') :
 Code.wp Tryz.prog ((Tryz.f75.body.bind (QF 3)).getD .skip) Q a w2:=by
 conv=>arg 2;whnf
 refine QZ 8 (QlC w2 b X C N ac n1 d1 Kn rc ag rg p1 ps regs) (fun w=>Below w2.heap.size w2 w) (fun w w'=>Below w.heap.size w w') (outs:=[0,3,4]) (gs:=[]) (bs:=[true,true,true,true,true,true,true,true]) (by kernel_rfl) (n:=36) hn hn' (by kernel_rfl) (by kernel_rfl) ?hR ?hG (ZW (Below.refl _ _) 1) ⟨h0,h3,h4,trivial⟩ ?hA ?hend
 case hR =>
  intro t v w w' hr h;unfold QlC at h ⊢;split at h
  ·rename_i p hp
   simp only[List.lookup_cons,List.lookup_nil] at hp
   split at hp
   ·cases hp;exact(by obtain⟨g,e,h1,h2⟩:=h;exact⟨g,e,h1,h2.below hr⟩)
   ·cases hp
  ·exact h
 case hG=>exact trivial
 case hend=>exact fun ops vs w' hW hk=>hend ops vs w' (hk 22 (by kernel_rfl)) (hk 20 (by kernel_rfl)) (hk 27 (by kernel_rfl)) hW
 case hA =>
  refine⟨fun a w hW hk K hK=>?_,?_⟩
  ·obtain⟨k0,-⟩:=hk
   have k0:a.tmps.getD 0 undef=.pointer (some ⟨b,0,none⟩):=k0;go_simp;exact hK _ _ (Below.refl _ _) hW rfl
  refine⟨fun a w hW hk K hK=>?_,?_⟩
  ·obtain⟨k0,-⟩:=hk
   have k0:a.tmps.getD 3 undef=.pointer (some ⟨X,0,none⟩):=k0;go_simp;exact hK _ _ (Below.refl _ _) hW rfl
  refine⟨fun a w hW hk K hK=>?_,?_⟩
  ·obtain⟨k0,-⟩:=hk
   have k0:a.tmps.getD 21 undef=.pointer (some ⟨X,7,none⟩):=k0;have c0:=QY x7 hW;go_simp;exact hK _ _ (Below.refl _ _) hW rfl
  refine⟨fun a w hW hk K hK=>?_,?_⟩
  ·obtain⟨k0,-⟩:=hk
   have k0:a.tmps.getD 4 undef=.pointer (some ⟨C,0,none⟩):=k0;go_simp;exact hK _ _ (Below.refl _ _) hW rfl
  refine⟨fun a w hW hk K hK=>?_,?_⟩
  ·obtain⟨k0,-⟩:=hk
   have k0:a.tmps.getD 23 undef=.pointer (some ⟨C,1,none⟩):=k0;have c0:=QY e1 hW;go_simp;exact hK _ _ (Below.refl _ _) hW rfl
  refine⟨fun a w hW hk K hK=>?_,?_⟩
  ·obtain⟨k0,-⟩:=hk
   have k0:a.tmps.getD 3 undef=.pointer (some ⟨X,0,none⟩):=k0;go_simp;exact hK _ _ (Below.refl _ _) hW rfl
  refine⟨fun a w hW hk K hK=>?_,?_⟩
  ·obtain⟨k0,-⟩:=hk
   have k0:a.tmps.getD 25 undef=.pointer (some ⟨X,6,none⟩):=k0;have c0:=QY x6 hW;go_simp;exact hK _ _ (Below.refl _ _) hW rfl
  refine⟨fun a w hW hk K hK=>?_,?_⟩
  ·obtain⟨k0,k1,-⟩:=hk
   have k0:a.tmps.getD 24 undef=.slice p1 n1 d1:=k0;have k1:a.tmps.getD 26 undef=.slice rg Kn rc:=k1;go_simp;refine Calls.mono (QaP HK.out HN1.out hn1 (Lay.below HR.out hW) (HP.out.below hW) HC.out) ?_;rintro r7 w7 ⟨g7,rfl,hg7,hm7,b7⟩;go_simp;exact hK _ _ b7 (hW.trans (b7.mono hW.size)) ⟨g7,rfl,Nat.le_trans hW.size hg7,hm7⟩
  trivial
theorem QhB {w:World}{b:Nat}{O A Q:Nat→Prop}{s:JSt}{x:Qx}{rg ag:Option Addr}{rc ac:Nat}(hA:∀ k,A k→k<w.heap.size) (hJ:JOk s) (h:SAt w b O A s) (hregs:intsL.In w Q x.regs [.slice rg x.regs.length rc]) (hargs:intsL.In w Q x.args [.slice ag x.args.length ac]) (hrc:x.regs.length≤rc) (hr6:x.regs.length≤6) (ha8:x.args.length≤8) (hk0:0≤x.k∧x.k<s.m.length) :
 Calls Tryz.prog 75 #[.pointer (some ⟨b,0,none⟩),Qdt x rg ag rc ac] w fun e w'=>Q0 w b O A s (s.callS x) (s.callC x) e w':=by
 obtain⟨op,xa,xb,xc,xk,xn,xr,xs⟩:=x
 simp only at hregs hargs hrc hr6 ha8 hk0
 have HJ:=Qa hJ;have H0:=Qa h;have HA:=Qa hA;have hL:=hJ.vals;have b1:=QQ w (.cells #[.int .i64 op,.int .i64 xa,.int .i64 xb,.int .i64 xc,.int .i64 xk,.int .i64 xn,.slice rg xr.length rc,.slice ag xs.length ac] 46);have H:=Qa (h.below b1);have HR:Hid (intsL.In _ Q xr [.slice rg xr.length rc]):=Lay.below hregs b1;have HG:Hid (intsL.In _ Q xs [.slice ag xs.length ac]):=Lay.below hargs b1;have HB:=Qa b1;have X1:Hid (Blk (w.alloc (.cells #[.int .i64 op,.int .i64 xa,.int .i64 xb,.int .i64 xc,.int .i64 xk,.int .i64 xn,.slice rg xr.length rc,.slice ag xs.length ac] 46)) w.heap.size #[.int .i64 op,.int .i64 xa,.int .i64 xb,.int .i64 xc,.int .i64 xk,.int .i64 xn,.slice rg xr.length rc,.slice ag xs.length ac] 46):=Blk.new _ _ _;clear h hA hJ b1 hregs hargs;obtain⟨k,rfl⟩:=Int.eq_ofNat_of_zero_le hk0.1
 have hkm:k<s.m.length:=by omega
 have hgk:s.m[k]?=some s.m[k]:=List.getElem?_eq_getElem hkm;generalize s.m[k]=g at hgk;have HGM:Hid (g∈s.m):=List.mem_of_getElem? hgk
 have E:Hid (s.callC ⟨op,xa,xb,xc,(k:Int),xn,xr,xs⟩=Qw (Qb6 s.H xr g.regs) (Qw (s.handC xs (g.params.map (Qaf xr))) (Q8 s.L.length g.results.length))):=by
  show _=_;unfold JSt.callC;simp only[Int.toNat_natCast,hgk]
 have ES:Hid (s.callS ⟨op,xa,xb,xc,(k:Int),xn,xr,xs⟩={ s with L:=s.L++g.results.map (Qaf xr) }):=by
  show _=_;unfold JSt.callS;simp only[Int.toNat_natCast,hgk]
 have HGR:=Qa (HJ.out.mod.2 g HGM.out);have HNG:Hid (¬ Qf.great g):=fun hg=>HJ.out.tiny (.inr ⟨g,HGM.out,hg⟩);have HCP:Hid (∀ t∈g.params,t.count≤2000):=fun t ht=>Nat.le_of_not_lt fun hlt=>HNG.out (.inr (.inl (.inr ⟨t,ht,hlt⟩)));have HCR:Hid (∀ t∈g.results,t.count≤2000):=fun t ht=>Nat.le_of_not_lt fun hlt=>HNG.out (.inr (.inr (.inl (.inr ⟨t,ht,hlt⟩))));have HCV:Hid (∀ t∈s.L,t.count≤100000):=fun t ht=>Nat.le_trans (ZH (HJ.out.types t ht)) (by omega);have hkn:(k:Int)<s.m.length:=by omega
 go_enter Tryz.func75,Tryz.ntmps75
 go_upto_region 1 with fail
 generalize w.alloc (.cells #[.int .i64 op,.int .i64 xa,.int .i64 xb,.int .i64 xc,.int .i64 (k:Int),.int .i64 xn,.slice rg xr.length rc,.slice ag xs.length ac] 46)=w1 at H HR HG HB X1 ⊢;obtain⟨X,hX⟩:∃ X,w.heap.size=X:=⟨_,rfl⟩
 rw[hX] at X1 ⊢
 clear hX;have x4:=Qb X1.out 4 _ rfl;have x6:=Qb X1.out 6 _ rfl;have x7:=Qb X1.out 7 _ rfl;obtain⟨pm,cm,hh,a1,c1,a2,c2,a3,c3,aL,cL,RR⟩:=H.out.read
 obtain⟨q0,-⟩:=RR.cells
 obtain⟨mg,mo,p1,d1,p2,d2,p3,d3,rfl,f0,f1,f2,f3,hP,hRs⟩:=Qdj RR.mod hgk
 have HPA:Hid ((Qh 6).In w1 (fun g=>¬ A g) g.params [.slice p1 g.params.length d1]):=hP;have HRE:Hid ((Qh 6).In w1 (fun g=>¬ A g) g.results [.slice p2 g.results.length d2]):=hRs;clear RR hP hRs hgk hk0;generalize s.m.length=nm at q0 hkm hkn;generalize hfr:g.regs=fr at f0 E;generalize hn1:g.params.length=n1 at f1 HPA;have HN1:=Qa hn1;generalize hn2:g.results.length=n2 at f2 HRE E;have HN2:=Qa hn2;generalize g.blocks.length=n3 at f3;have hn18:n1≤8:=by rw[← hn1];exact HGR.out.params.1
 have hn28:n2≤8:=by rw[← hn2];exact HGR.out.results.1
 clear hn1 hn2 hfr;refine jc1 q0 x4 f0 f1 f2 f3 hkn _ _ rfl (Nat.le_of_ble_eq_true (by kernel_rfl)) rfl rfl ?_;rintro ops vs w5 hv13 ⟨C,hv4,hC,hCb⟩ b5;show wpList _ ops _ [_] (Z3 _ vs [5,6,7,8,9,10,11,12,13,4]) w5;simp only[Z3,Act.put,List.setIfInBounds_toArray,List.set_cons_zero,List.set_cons_succ,hv13,hv4]
 have e0:=Qb hCb 0 _ rfl;have e1:=Qb hCb 1 _ rfl;have e2:=Qb hCb 2 _ rfl;have e3:=Qb hCb 3 _ rfl;have ef:∀ i,w5.frozen? ⟨C,i,none⟩=false:=fun i=>Qo hCb i
 have B6:Hid (Blk ((((w5.setCell ⟨C,0,none⟩ (.int .i64 fr)).setCell ⟨C,1,none⟩ (.slice p1 n1 d1)).setCell ⟨C,2,none⟩ (.slice p2 n2 d2)).setCell ⟨C,3,none⟩ (.slice p3 n3 d3)) C #[.int .i64 fr,.slice p1 n1 d1,.slice p2 n2 d2,.slice p3 n3 d3] 40):=by
  have h3:=Qk (Qk (Qk (Qk hCb 0 (.int .i64 fr)) 1 (.slice p1 n1 d1)) 2 (.slice p2 n2 d2)) 3 (.slice p3 n3 d3);exact h3
 have b6:Hid (Below w1.heap.size w1 ((((w5.setCell ⟨C,0,none⟩ (.int .i64 fr)).setCell ⟨C,1,none⟩ (.slice p1 n1 d1)).setCell ⟨C,2,none⟩ (.slice p2 n2 d2)).setCell ⟨C,3,none⟩ (.slice p3 n3 d3))) :=
  (((b5.setCell (p:=⟨C,0,none⟩) hC _).setCell (p:=⟨C,1,none⟩) hC _).setCell (p:=⟨C,2,none⟩) hC _).setCell (p:=⟨C,3,none⟩) hC _
 clear hCb hC b5 hv13 hv4 q0 f0 f1 f2 f3;go_upto_region 2 with fail
 generalize ((((w5.setCell ⟨C,0,none⟩ (.int .i64 fr)).setCell ⟨C,1,none⟩ (.slice p1 n1 d1)).setCell ⟨C,2,none⟩ (.slice p2 n2 d2)).setCell ⟨C,3,none⟩ (.slice p3 n3 d3))=w6 at B6 b6 ⊢;clear e0 e1 e2 e3 ef;obtain⟨e0,e1,e2,e3⟩:=QkK B6.out
 have x6:=QY x6 b6.out;have x7:=QY x7 b6.out;have H6:=Qa (H.out.below b6.out);have HB6:=Qa (HB.out.trans (b6.out.mono HB.out.size));have HR6:Hid (intsL.In w6 Q xr [.slice rg xr.length rc]):=Lay.below HR.out b6.out;have HG6:Hid (intsL.In w6 Q xs [.slice ag xs.length ac]):=Lay.below HG.out b6.out;have HP6:Hid ((Qh 6).In w6 (fun g=>¬ A g) g.params [.slice p1 n1 d1]):=Lay.below HPA.out b6.out;have HE6:Hid ((Qh 6).In w6 (fun g=>¬ A g) g.results [.slice p2 n2 d2]):=Lay.below HRE.out b6.out;clear H HB HR HG HPA HRE b6 B6 X1 x4;obtain⟨K,hK⟩:∃ K,xr.length=K:=⟨_,rfl⟩
 have HK:=Qa hK;rw[hK] at x6 HR6 hrc hr6
 clear hK;obtain⟨N,hN⟩:∃ N,xs.length=N:=⟨_,rfl⟩
 have HN:=Qa hN;rw[hN] at x7 HG6 ha8
 clear hN;have CL:=Qa (Qd6 fr HK.out (by omega) hrc HR6.out H6.out);go_wp2_with fail
 refine CL.out.mono ?_;rintro e' w' ⟨hO,hw⟩;have hw:=hw.symm;subst hw;rcases hO with ⟨hc,y,rfl,hy⟩|⟨hc,rfl⟩
 rotate_left
 ·exact⟨rfl,Q0.bad (by rw[E.out,Qm hc]) hc (STo.of_below H0.out HB6.out)⟩
 subst hy;have E2:Hid (s.callC ⟨op,xa,xb,xc,(k:Int),xn,xr,xs⟩=Qw (s.handC xs (g.params.map (Qaf xr))) (Q8 s.L.length n2)):=by show _=_;rw[E.out,Qz hc]
 clear hc CL E;go_upto_region 3 with fail
 refine jc3 x6 x7 e1 HK HN1 (by omega) HR6 (Qa (QL HP6.out).1) HCP _ _ rfl (Nat.le_of_ble_eq_true (by kernel_rfl)) rfl rfl rfl ?_;rintro ops vs w7 hv22 hv20 ⟨gP,hv27,hgP,hmP⟩ b7;show wpList _ ops _ [_] (Z3 _ vs [20,21,22,23,24,25,26,27]) w7;simp only[Z3,Act.put,List.setIfInBounds_toArray,List.set_cons_zero,List.set_cons_succ,hv22,hv20,hv27]
 have H7:=Qa (H6.out.below b7);have HB7:=Qa (HB6.out.trans (b7.mono HB6.out.size))
 have CH:Hid (Calls Tryz.prog 92 #[.pointer (some ⟨b,0,none⟩),.slice ag N ac,.slice (some ⟨gP,0,none⟩) n1 n1] w7 fun e w'=>ZG (s.handC xs (g.params.map (Qaf xr))) VNone e∧Below w7.heap.size w7 w') :=
  Qan HN.out (by omega) (by rw[List.length_map,HN1.out]) (by omega) (Lay.below HG6.out b7) hmP.lin hL HCV.out (fun k hk=>Nat.lt_of_lt_of_le (HA.out k (H0.out.sub k hk)) HB7.out.size) H7.out
 have HE7:Hid ((Qh 6).In w7 (fun g=>¬ A g) g.results [.slice p2 n2 d2]):=Lay.below HE6.out b7;have HR7:Hid (intsL.In w7 Q xr [.slice rg K rc]):=Lay.below HR6.out b7;have e2':=QY e2 b7;have x6':=QY x6 b7;clear hmP hgP b7 hv22 hv20 hv27 H6 HB6 HR6 HG6 HP6 HE6 e0 e1 e2 e3 x6 x7;go_wp2_with fail
 refine CH.out.mono ?_;rintro e' w8 ⟨hO,b8⟩;have H8:=Qa (H7.out.below b8);have HB8:=Qa (HB7.out.trans (b8.mono HB7.out.size));rcases hO with ⟨hc,y,rfl,hy⟩|⟨hc,rfl⟩
 rotate_left
 ·exact⟨rfl,Q0.bad (by rw[E2.out,Qm hc]) hc (STo.of_below H0.out HB8.out)⟩
 subst hy;have E3:Hid (s.callC ⟨op,xa,xb,xc,(k:Int),xn,xr,xs⟩=Q8 s.L.length n2):=by show _=_;rw[E2.out,Qz hc]
 have HE8:Hid ((Qh 6).In w8 (fun g=>¬ A g) g.results [.slice p2 n2 d2]):=Lay.below HE7.out b8;have HR8:Hid (intsL.In w8 Q xr [.slice rg K rc]):=Lay.below HR7.out b8;have e2'':=QY e2' b8;have x6'':=QY x6' b8;clear hc CH E2 b8 HE7 HR7 e2' x6' H7 HB7;have CR:=Qa (QaP (d:=d2) (c:=rc) HK.out HN2.out (by omega) HR8.out (QL HE8.out).1 HCR.out);go_wp2_with fail
 refine CR.out.mono ?_;rintro e' w9 ⟨gR,rfl,hgR,hmR,b9⟩;have HB9:=Qa (HB8.out.trans (b9.mono HB8.out.size))
 have CM:Hid (Calls Tryz.prog 70 #[.pointer (some ⟨b,0,none⟩),.slice (some ⟨gR,0,none⟩) n2 n2] w9 fun e w'=>Q0 w b O A s (s.callS ⟨op,xa,xb,xc,(k:Int),xn,xr,xs⟩) (s.callC ⟨op,xa,xb,xc,(k:Int),xn,xr,xs⟩) e w'):=by
  rw[ES.out,E3.out]
  have hlen:(g.results.map (Qaf xr)).length=n2:=by rw[List.length_map,HN2.out]
  refine(Qad hlen (by omega) (hmR.types hlen (fun y hy=>?_) (fun k hk e=>?_)) hL (fun k hk=>Nat.lt_of_lt_of_le (HA.out k hk) HB9.out.size) (H8.out.below b9)).mono (fun e w' hd=>hd.after HB9.out)
  ·obtain⟨t,ht,rfl⟩:=List.mem_map.1 hy
   exact Qkd (Qhj HR8.out) ((QL HE8.out).2 t ht)
  ·have h1:=HA.out k e;have h2:=HB8.out.size;omega
 clear hmR hgR b9 CR HE8 HR8 e2'' x6'' H8 HB8 E3;go_wp2_with fail
 refine CM.out.mono ?_;rintro e' w10 hd;have FF:=Qa hd;rcases hd with ⟨h1,rfl,h3⟩|⟨h1,rfl,h3⟩
 rotate_left
 ·exact⟨rfl,FF.out⟩
 clear h1 h3 CM;go_wp2
 exact bodyPost_end (v:=.tuple #[]) (by simp[results,Tryz.results75,go_sem]) rfl FF.out
def passC (H:List Bool) (kept:Int) (l:List Int) (asked:Int):Int:=if (l.length:Int)=asked then Qw (QeR kept.toNat l) (hPass H [] l) else 2
theorem Qji {n:Nat}{l:List Int}{k:Nat}(hk:k<n) (h:l.getD k 0≠(k:Int)):QeR n l=11:=by
 unfold QeR;rw[if_neg]
 intro e;rw[List.all_eq_true] at e
 have:=e k (List.mem_range.2 hk)
 exact h (by simpa using this)
theorem Qi5 {n:Nat}{l:List Int}(h:∀ k,k<n→l.getD k 0=(k:Int)):QeR n l=0:=by
 unfold QeR;rw[if_pos]
 rw[List.all_eq_true]
 intro k hk;exact decide_eq_true (h k (List.mem_range.1 hk))
theorem Qd5 {w:World}{b:Nat}{O A Q:Nat→Prop}{s:JSt}{l:List Int}{p:Option Addr}{N c:Nat}(asked:Int) (hN:l.length=N) (hN2:N≤100000) (hl:intsL.In w Q l [.slice p N c]) (hr0:0≤s.f.regs) (hra:s.f.regs≤asked) (h:SAt w b O A s) :
 Calls Tryz.prog 127 #[.pointer (some ⟨b,0,none⟩),.slice p N c,.int .i64 asked] w fun e w'=>ZG (passC s.H s.f.regs l asked) VNone e∧Below w.heap.size w w':=by
 have HL:=Qa hl;have HN:=Qa hN;obtain⟨pm,cm,hh,a1,c1,a2,c2,a3,c3,aL,cL,RR⟩:=h.read
 obtain⟨-,q1,q2,-⟩:=RR.cells
 have HH:=Qa RR.held;clear h hl hN RR;by_cases hNM:(N:Int)=asked
 rotate_left
 ·have hNM':((N:Int)==asked)=false:=by simpa using hNM
  have E:Hid (passC s.H s.f.regs l asked=2):=by show _=_;unfold passC;rw[HN.out,if_neg hNM]
  go_enter Tryz.func127,Tryz.ntmps127
  go_wp2_with fail
  refine(Zd _ 2).mono ?_
  rintro e' w' ⟨rfl,hw⟩;subst hw;exact⟨rfl,ZG.bad E.out (by decide),Below.refl _ _⟩
 subst hNM;have hNM':((N:Int)==(N:Int))=true:=by simp
 obtain⟨M,hM⟩:∃ M:Nat,s.f.regs=(M:Int):=Int.eq_ofNat_of_zero_le hr0
 have E:Hid (passC s.H s.f.regs l N=Qw (QeR M l) (hPass s.H [] l)):=by show _=_;unfold passC;rw[HN.out,if_pos rfl,hM];rfl
 rw[hM] at q2 hra
 have hMN:M≤N:=by omega
 have HMM:Hid (passC s.H s.f.regs l N=passC s.H s.f.regs l N):=rfl;clear hr0 hra HMM;generalize passC s.H s.f.regs l N=pc at E ⊢;clear hM;go_enter Tryz.func127,Tryz.ntmps127
 go_wp2_with (go_at_call 110;refine(Ze _ _).mono ?_;rintro e' w' ⟨rfl,hw⟩;have hw:=hw.symm;subst hw)
 go_loop [18] (fun i=>∃ k:Nat,k≤M∧i=.int .i64 k∧∀ j,j<k→l.getD j 0=(j:Int)) (fun i=>M - (intOf i).toNat)
 case atStart=>exact⟨0,Nat.zero_le _,rfl,fun j hj=>by omega⟩
 case round =>
  obtain⟨k,hk,rfl,hz⟩:=hrel
  have HZ:=Qa hz;clear hz;by_cases hlt:k<M
  ·have hlt':(k:Int)<M:=by omega
   have hlt2:(k:Int)<N:=by omega
   have hk2:k<l.length:=by rw[HN.out];omega
   obtain⟨g,o,rfl,-,hg,hc0⟩:=Z7 HL.out hk2
   clear hk2;by_cases hy:l.getD k 0=(k:Int)
   ·have HY:=Qa hy;rw[hy] at hc0
    have hkk:((k:Int)==(k:Int))=true:=by simp
    clear hy;go_wp2_with (go_at_call 110;refine(Ze _ _).mono ?_;rintro e' w' ⟨rfl,hw⟩;have hw:=hw.symm;subst hw)
    go_round
    case rel =>
     refine⟨k+1,hlt,by go_num,fun j hj=>?_⟩
     rcases Nat.lt_or_ge j k with h | h
     ·exact HZ.out j h
     ·have:j=k:=by omega
      subst this;exact HY.out
    case measure=>simp[intOf];omega
   ·have E9:Hid (pc=11):=by show _=_;rw[E.out,Qji hlt hy];rfl
    have hyk:(l.getD k 0==(k:Int))=false:=by simpa using hy
    generalize l.getD k 0=y at hc0 hy hyk;clear hy;go_wp2_with fail
    refine(Zd _ 11).mono ?_
    rintro e' w' ⟨rfl,hw⟩;subst hw;exact⟨rfl,ZG.bad E9.out (by decide),Below.refl _ _⟩
  ·have hlt':¬ (k:Int)<M:=by omega
   have hkM:k=M:=by omega
   have E9:Hid (pc=hPass s.H [] l):=by show _=_;rw[E.out,Qi5 (fun j hj=>HZ.out j (by omega))];rfl
   have C:=Qa (QhI HN.out hN2 HL.out HH.out);generalize hPass s.H [] l=hp at E9 C;clear HZ hkM;by_cases h0:hp=0
   ·have h0':(hp==0)=true:=by simpa using h0
    subst h0;go_wp2_with (first | (go_at_call 144;refine(C.out).mono ?_;rintro e' w2 ⟨rfl,b2⟩;have BB:=Qa b2;clear b2) | (go_at_call 110;refine(Ze _ _).mono ?_;rintro e' w' ⟨rfl,hw⟩;have hw:=hw.symm;subst hw))
    exact bodyPost_end (v:=.tuple #[]) (by simp[results,Tryz.results127,go_sem]) rfl ⟨ZG.good E9.out rfl,BB.out⟩
   ·have h0':(hp==0)=false:=by simpa using h0
    have H0:=Qa h0;clear h0;go_wp2_with (go_at_call 144;refine(C.out).mono ?_;rintro e' w2 ⟨rfl,b2⟩;have BB:=Qa b2;clear b2)
    refine(Zd _ hp).mono ?_
    rintro e' w' ⟨rfl,hw⟩;subst hw;exact⟨rfl,ZG.bad E9.out H0.out,BB.out⟩
end Go.Proofs.YtacjnejckfhpoaeGreat
namespace Go.Proofs.YtacjnejckfhpoaeGreat
set_option linter.unusedSimpArgs false
set_option linter.unusedVariables false
theorem Qgc {s:JSt}{regs:List Int}{r:Int}(hz:∀ x∈regs,hHas s.H x=true) (hl:(regs.length:Int)=r){t:TT 6}(ht:t.check r=0):t.ren regs.length (fun i=>regs.getD i 0)=some (Qaf regs t):=by
 obtain⟨u,hu,-⟩:=Qil (m:=regs.length) (too:=fun i=>regs.getD i 0) (a:=r) (b:=s.H.length) (by omega) (fun i hi=>ZS (hz (regs.getD i 0) (by simp[List.getD,hi]))) ht
 unfold Qaf;rw[hu]
 rfl
theorem QdB {s:JSt}{regs l:List Int}{ts us:List (TT 6)}(hl2:us.length=ts.length) (h:∀ (i:Nat) t u,ts[i]?=some t→us[i]?=some u→t.ren regs.length (fun i=>regs.getD i 0)=some u):s.handC l us=s.args l ts regs:=by
 unfold JSt.handC JSt.args;rw[hl2]
 by_cases hl:l.length=ts.length
 ·rw[if_pos hl,if_pos hl]
  refine QaV (by rw[List.length_zip,List.length_zip,hl2]) (fun i p q hp hq=>?_);rw[List.getElem?_zip_eq_some] at hp hq
  obtain⟨h1,h2⟩:=hp
  obtain⟨h3,h4⟩:=hq
  rw[h1] at h3
  injection h3 with h3
  have hm:=h i q.2 p.2 h4 h2;show s.beC p.1 p.2=s.arg regs q.1 q.2;unfold JSt.beC JSt.arg;rw[← h3]
  cases s.at p.1 with
  | none=>rfl
  | some u =>
    show (if bdec (u=p.2) then (0:Int) else 9)=if bdec (q.2.ren regs.length (fun i=>regs.getD i 0)=some u) then 0 else 9
    rw[hm]
    have:bdec (u=p.2)=bdec (some p.2=some u):=Qeb (by rw[Qap];exact⟨fun e=>by rw[e],fun e=>(Option.some.inj e).symm⟩)
    rw[this]
 ·rw[if_neg hl,if_neg hl]
theorem QeZ {s:JSt}{regs l:List Int}{ts:List (TT 6)}(h:∀ t∈ts,t.ren regs.length (fun i=>regs.getD i 0)=some (Qaf regs t)):s.handC l (ts.map (Qaf regs))=s.args l ts regs :=
 QdB (by rw[List.length_map]) (fun i t u ht hu=>by
  rw[List.getElem?_map,ht] at hu
  injection hu with hu
  rw[← hu]
  exact h t (List.mem_of_getElem? ht))
theorem Qge {m:Nat}{too:Nat→Int}{a:Int}(ham:a≤m) (htoo:∀ i,i<m→too i=(i:Int)):{n:Nat}→{t:TT n}→t.fault a=0→t.ren m too=some t
 | 0,t,_=>Empty.elim t
 | n+1,t,h=>by
   obtain⟨h1,h2⟩:=TT.fault_zero h
   have hown:Qa4 m too t.1 t.2.1=some t.2.1:=by
    unfold ownC at h1;split at h1
    ·cases h1
    split at h1
    ·cases h1
    split at h1
    ·cases h1
    split at h1
    ·cases h1
    split at h1
    ·cases h1
    rename_i q1 q2 q3 q4 q5
    by_cases hk:t.1=1
    ·rw[Qa4,if_pos hk]
    ·have:=htoo t.2.1.toNat (by omega)
     rw[Qa4,if_neg hk,if_neg (by omega),if_neg (by omega),this]
     congr 1
     omega
   have hl:QcY (TT.ren m too) t.2.2=some t.2.2:=by
    generalize t.2.2=l at h2
    induction l with
    | nil=>rfl
    | cons x xs ih =>
      have hx:=Qge ham htoo (h2 x (by simp));have hxs:=ih (fun y hy=>h2 y (by simp[hy]));simp[QcY,hx,hxs]
   simp only[TT.ren,hown,hl]
   rfl
theorem Qee {H:List Bool}:∀ {rest ahead:List Int},hPass H ahead rest=0→∀ x∈rest,hHas H x=true
 | [],ahead,h,x,hx=>by cases hx
 | r::rest,ahead,h,x,hx=>by
   simp only[hPass] at h
   split at h
   ·rename_i hr
    split at h
    ·cases h
    ·rcases List.mem_cons.1 hx with rfl | hx
     ·exact hr
     ·exact Qee h x hx
   ·cases h
theorem Qlk {s:JSt}{k:Nat}{g:Qe 6}{xr xs:List Int}(hg:s.f.blocks[k]?=some g) (hp:∀ t∈g.params,t.check g.regs=0):s.to ⟨(k:Int),xr,xs⟩=Qw (passC s.H s.f.regs xr g.regs) (s.handC xs (g.params.map (Qaf xr))):=by
 unfold JSt.to passC;simp only[Int.toNat_natCast,hg]
 by_cases hl:(xr.length:Int)=g.regs
 ·rw[if_pos hl,if_pos hl]
  by_cases h1:QeR s.f.regs.toNat xr=0
  ·rw[Qz h1,Qz h1]
   by_cases h2:hPass s.H [] xr=0
   ·rw[Qz h2,Qz h2,QeZ (fun t ht=>Qgc (s:=s) (Qee h2) hl (hp t ht))]
   ·rw[Qm h2,Qm h2]
  ·rw[Qm h1,Qm h1];rw[Qm h1]
 ·rw[if_neg hl,if_neg hl];rfl
theorem QkV {s:JSt}{l:List Int}{n:Nat}(hn:s.f.regs=(n:Int)) (hr:∀ t∈s.f.results,t.check s.f.regs=0):s.handC l s.f.results=s.args l s.f.results (QkF s.f.regs.toNat) :=
 QdB rfl (fun i t u ht hu=>by
  rw[ht] at hu
  injection hu with hu
  rw[← hu,hn,Int.toNat_natCast]
  have:=hr t (List.mem_of_getElem? ht)
  refine Qge (a:=s.f.regs) (by rw[hn];unfold QkF;simp) (fun i hi=>?_) (Q6.1 this).2;unfold QkF at hi ⊢;simp at hi
  simp[List.getD,hi])
end Go.Proofs.YtacjnejckfhpoaeGreat
namespace Go.Proofs.YtacjnejckfhpoaeGreat
open Go.ChangeShapes Go.WideShapes Go.ChangeAt Go.RowKit
set_option linter.unusedSimpArgs false
set_option linter.unusedVariables false
theorem Qi1 {w:World}{b:Nat}{O A Q:Nat→Prop}{s:JSt}{x:Qx}{rg ag:Option Addr}{rc ac:Nat}(hA:∀ k,A k→k<w.heap.size) (hJ:JOk s) (h:SAt w b O A s) (hregs:intsL.In w Q x.regs [.slice rg x.regs.length rc]) (hargs:intsL.In w Q x.args [.slice ag x.args.length ac]) (hrc:x.regs.length≤rc) (hrng:ZA x) (hf:x.form s.m.length=0) (hop:x.op=14) :
 Calls Tryz.prog 35 #[.pointer (some ⟨b,0,none⟩),Qdt x rg ag rc ac] w fun e w'=>Q0 w b O A s (s.next x) (s.goC x) e w':=by
 have hE:=Qdo (s:=s) hop;obtain⟨op,xa,xb,xc,xk,xn,xr,xs⟩:=x
 have hop:op=14:=hop;subst hop;have HE:=Qa hE;obtain⟨f1,f2,f3,-⟩:=Q9 hf
 have HF:=Qa (And.intro f1 (And.intro f2 f3));obtain⟨ra,rb,rcc⟩:=hrng
 have HI:=Qa (And.intro ra (And.intro rb rcc));have HJ:=Qa hJ;have H0:=Qa h;have HA0:=Qa hA;have hL:=hJ.vals;have b1:=QQ w (.cells #[.int .i64 14,.int .i64 xa,.int .i64 xb,.int .i64 xc,.int .i64 xk,.int .i64 xn,.slice rg xr.length rc,.slice ag xs.length ac] 46);have H:=Qa (h.below b1);have HR:Hid (intsL.In _ Q xr [.slice rg xr.length rc]):=Lay.below hregs b1;have HG:Hid (intsL.In _ Q xs [.slice ag xs.length ac]):=Lay.below hargs b1;have HB:=Qa b1;have HA:=Qa (fun k hk=>Nat.lt_of_lt_of_le (hA k hk) b1.size);have HO:=Qa (fun k hk=>Nat.lt_of_lt_of_le (hA k (h.sub k hk)) b1.size);have X1:Hid (Blk (w.alloc (.cells #[.int .i64 14,.int .i64 xa,.int .i64 xb,.int .i64 xc,.int .i64 xk,.int .i64 xn,.slice rg xr.length rc,.slice ag xs.length ac] 46)) w.heap.size #[.int .i64 14,.int .i64 xa,.int .i64 xb,.int .i64 xc,.int .i64 xk,.int .i64 xn,.slice rg xr.length rc,.slice ag xs.length ac] 46):=Blk.new _ _ _;have HRC:Hid (xr.length≤rc):=hrc;clear h hA hJ b1 hregs hargs hE hf f1 f2 f3 ra rb rcc hrc;go_enter Tryz.func35,Tryz.ntmps35
 go_upto_region 1 with fail
 generalize w.alloc (.cells #[.int .i64 14,.int .i64 xa,.int .i64 xb,.int .i64 xc,.int .i64 xk,.int .i64 xn,.slice rg xr.length rc,.slice ag xs.length ac] 46)=w1 at H HR HG HB HA HO X1 ⊢;obtain⟨X,hX⟩:∃ X,w.heap.size=X:=⟨_,rfl⟩
 rw[hX] at X1 ⊢
 clear hX;have x0:=Qb X1.out 0 _ rfl;have x1:=Qb X1.out 1 _ rfl;have x2:=Qb X1.out 2 _ rfl;have x3:=Qb X1.out 3 _ rfl;have x4:=Qb X1.out 4 _ rfl;have x6:=Qb X1.out 6 _ rfl;have x7:=Qb X1.out 7 _ rfl
 have HE2:Hid (∀ e w9,Q0 w b O A s (s.callS ⟨14,xa,xb,xc,xk,xn,xr,xs⟩) (s.callC ⟨14,xa,xb,xc,xk,xn,xr,xs⟩) e w9→Q0 w b O A s (s.next ⟨14,xa,xb,xc,xk,xn,xr,xs⟩) (s.goC ⟨14,xa,xb,xc,xk,xn,xr,xs⟩) e w9):=fun e w9 hd=>(by
  have hk:=HF.out.2.1 rfl;obtain⟨k,hxk⟩:=Int.eq_ofNat_of_zero_le hk.1
  have hxk:xk=(k:Int):=hxk;subst hxk;have hkl:k<s.m.length:=by have:=hk.2.1;omega
  have hgk:s.m[k]?=some s.m[k]:=List.getElem?_eq_getElem hkl;generalize s.m[k]=g at hgk;have hgm:g∈s.m:=List.mem_of_getElem? hgk;have hgr:=HJ.out.mod.2 g hgm;have e1:s.callC ⟨14,xa,xb,xc,(k:Int),xn,xr,xs⟩=Qw (Qb6 s.H xr g.regs) (Qw (s.handC xs (g.params.map (Qaf xr))) (Q8 s.L.length g.results.length)):=by unfold JSt.callC;simp only[Int.toNat_natCast,hgk]
  have e2:s.makes ⟨14,xa,xb,xc,(k:Int),xn,xr,xs⟩=if (xr.length:Int)=g.regs then (Qw (Q3 s.H [] xr) (s.args xs g.params xr),g.results.map (Qaf xr)) else (2,[]):=by rw[HE.out];simp only[Int.toNat_natCast,hgk]
  have key:s.goC ⟨14,xa,xb,xc,(k:Int),xn,xr,xs⟩=s.callC ⟨14,xa,xb,xc,(k:Int),xn,xr,xs⟩:=by
   rw[e1]
   unfold JSt.goC Qb6;rw[e2]
   by_cases hl:(xr.length:Int)=g.regs
   ·rw[if_pos hl,if_pos hl]
    by_cases hz:Q3 s.H [] xr=0
    ·rw[QeZ (fun t ht=>Qgc (s:=s) (Qas hz) hl (hgr.params.2 t ht)),Qz hz,List.length_map,Qz hz]
    ·rw[Qm hz,Qm hz,Qm hz]
   ·rw[if_neg hl,if_neg hl];rfl
  refine hd.to key (fun h0=>?_);rw[Q4 (by simp) (by simp),e2]
  unfold JSt.callS;simp only[Int.toNat_natCast,hgk]
  rw[e1] at h0
  unfold Qb6 at h0;by_cases hl:(xr.length:Int)=g.regs
  ·rw[if_pos hl]
  ·rw[if_neg hl] at h0;cases h0)
 have CM:=Qa (QhB (x:=⟨14,xa,xb,xc,xk,xn,xr,xs⟩) HA.out HJ.out H.out HR.out HG.out HRC.out (HF.out.2.1 rfl).2.2.1 (HF.out.2.1 rfl).2.2.2 ⟨(HF.out.2.1 rfl).1,(HF.out.2.1 rfl).2.1⟩);have x5:=Qb X1.out 5 _ rfl;go_wp2_with fail
 refine CM.out.mono ?_;rintro e' w9 hd;have FF:Hid (Q0 w b O A s (s.next ⟨14,xa,xb,xc,xk,xn,xr,xs⟩) (s.goC ⟨14,xa,xb,xc,xk,xn,xr,xs⟩) e' w9):=HE2.out _ _ (hd.after HB.out);rcases hd with ⟨h1,rfl,h3⟩|⟨h1,rfl,h3⟩
 rotate_left
 ·exact⟨rfl,FF.out⟩
 clear h1 h3 CM;go_wp2
 exact bodyPost_end (v:=.tuple #[]) (by simp[results,Tryz.results35,go_sem]) rfl FF.out
theorem Qko {w:World}{b:Nat}{O A Q:Nat→Prop}{s:JSt}{x:Qx}{rg ag:Option Addr}{rc ac:Nat}(hA:∀ k,A k→k<w.heap.size) (hJ:JOk s) (h:SAt w b O A s) (hregs:intsL.In w Q x.regs [.slice rg x.regs.length rc]) (hargs:intsL.In w Q x.args [.slice ag x.args.length ac]) (hrc:x.regs.length≤rc) (hrng:ZA x) (hf:x.form s.m.length=0) (hop:x.op=6) :
 Calls Tryz.prog 35 #[.pointer (some ⟨b,0,none⟩),Qdt x rg ag rc ac] w fun e w'=>Q0 w b O A s (s.next x) (s.goC x) e w':=by
 have hE:=QcK (s:=s) hop;obtain⟨op,xa,xb,xc,xk,xn,xr,xs⟩:=x
 have hop:op=6:=hop;subst hop;have HE:=Qa hE;obtain⟨f1,f2,f3,-⟩:=Q9 hf
 have HF:=Qa (And.intro f1 (And.intro f2 f3));obtain⟨ra,rb,rcc⟩:=hrng
 have HI:=Qa (And.intro ra (And.intro rb rcc));have HJ:=Qa hJ;have H0:=Qa h;have HA0:=Qa hA;have hL:=hJ.vals;have b1:=QQ w (.cells #[.int .i64 6,.int .i64 xa,.int .i64 xb,.int .i64 xc,.int .i64 xk,.int .i64 xn,.slice rg xr.length rc,.slice ag xs.length ac] 46);have H:=Qa (h.below b1);have HR:Hid (intsL.In _ Q xr [.slice rg xr.length rc]):=Lay.below hregs b1;have HG:Hid (intsL.In _ Q xs [.slice ag xs.length ac]):=Lay.below hargs b1;have HB:=Qa b1;have HA:=Qa (fun k hk=>Nat.lt_of_lt_of_le (hA k hk) b1.size);have HO:=Qa (fun k hk=>Nat.lt_of_lt_of_le (hA k (h.sub k hk)) b1.size);have X1:Hid (Blk (w.alloc (.cells #[.int .i64 6,.int .i64 xa,.int .i64 xb,.int .i64 xc,.int .i64 xk,.int .i64 xn,.slice rg xr.length rc,.slice ag xs.length ac] 46)) w.heap.size #[.int .i64 6,.int .i64 xa,.int .i64 xb,.int .i64 xc,.int .i64 xk,.int .i64 xn,.slice rg xr.length rc,.slice ag xs.length ac] 46):=Blk.new _ _ _;have HRC:Hid (xr.length≤rc):=hrc;clear h hA hJ b1 hregs hargs hE hf f1 f2 f3 ra rb rcc hrc;go_enter Tryz.func35,Tryz.ntmps35
 go_upto_region 1 with fail
 generalize w.alloc (.cells #[.int .i64 6,.int .i64 xa,.int .i64 xb,.int .i64 xc,.int .i64 xk,.int .i64 xn,.slice rg xr.length rc,.slice ag xs.length ac] 46)=w1 at H HR HG HB HA HO X1 ⊢;obtain⟨X,hX⟩:∃ X,w.heap.size=X:=⟨_,rfl⟩
 rw[hX] at X1 ⊢
 clear hX;have x0:=Qb X1.out 0 _ rfl;have x1:=Qb X1.out 1 _ rfl;have x2:=Qb X1.out 2 _ rfl;have x3:=Qb X1.out 3 _ rfl;have x4:=Qb X1.out 4 _ rfl;have x6:=Qb X1.out 6 _ rfl;have x7:=Qb X1.out 7 _ rfl;obtain⟨k,hxk⟩:=Int.eq_ofNat_of_zero_le (HF.out.1 (by simp)).1
 have hxk:xk=(k:Int):=hxk;subst hxk;have hk7:k≤7:=by have:=(HF.out.1 (by simp)).2;simp only at this;omega
 have EG:Hid (s.goC ⟨6,xa,xb,xc,(k:Int),xn,xr,xs⟩=Qw (s.fieldC xa k) (Q8 s.L.length 1)):=by
  show _=_;unfold JSt.goC JSt.fieldC;rw[HE.out]
  simp only[Int.toNat_natCast]
  cases ha:s.at xa with
  | none=>unfold JSt.want;rw[ha];rfl
  | some t =>
    simp only
    by_cases hw:s.want xa 3 true=0
    ·rw[if_pos hw,Qz hw]
     by_cases hk:k<t.2.2.length
     ·rw[List.getElem?_eq_getElem hk,if_pos hk];rfl
     ·rw[List.getElem?_eq_none (by omega),if_neg hk];rfl
    ·rw[if_neg hw,Qm hw];rw[Qm hw,Qm hw]
 have C1:=Qa (Qdx xa k (by omega) hL HO.out H.out);go_wp2_with fail
 refine(C1.out ).mono ?_
 rintro e' w2 ⟨hq,b2⟩;have HB2:=Qa (HB.out.trans (b2.mono HB.out.size));have H2:=Qa (H.out.below b2);have HA2:=Qa (fun k hk=>Nat.lt_of_lt_of_le (HA.out k hk) b2.size);have HO2:=Qa (fun k hk=>Nat.lt_of_lt_of_le (HO.out k hk) b2.size);rcases hq with ⟨hc,y2,rfl,hy⟩|⟨hc,rfl⟩
 rotate_left
 ·exact⟨rfl,Q0.bad ((fun hc=>by rw[EG.out,Qm hc]) hc) hc (STo.of_below H0.out HB2.out)⟩
 have HC2:=Qa hc;clear hc b2 C1;obtain⟨t,u,p,c,ha,hu,rfl,hui⟩:=hy
 have hh5:=TT.height_lt u;have h5:u.height≤5:=by omega
 have hchk:t.check s.H.length=0:=HJ.out.types t (QeG ha).1
 have huok:u.ok:=by
  obtain⟨pm,cm,hh,a1,c1,a2,c2,a3,c3,aL,cL,RR⟩:=H0.out.read
  obtain⟨-,hn,-,hti⟩:=QeG ha
  obtain⟨g,a',c',e,-,-,-,-,hok⟩:=RR.row _ t hti
  exact hok.2 u (List.mem_of_getElem? hu)
 have HS:Hid (s.next ⟨6,xa,xb,xc,(k:Int),xn,xr,xs⟩={ s with L:=s.L++[u.at 5] }):=by
  show _=_;rw[Q4 (by simp) (by simp),HE.out]
  have hw:s.want xa 3 true=0:=by
   have:=HC2.out
   unfold JSt.fieldC at this;exact(Qa2 this).1
  simp only[Int.toNat_natCast,ha,if_pos hw,hu]
 have HE2:Hid (∀ e w9,Q0 w b O A s { s with L:=s.L++[u.at 5] } (Q8 s.L.length 1) e w9→Q0 w b O A s (s.next ⟨6,xa,xb,xc,(k:Int),xn,xr,xs⟩) (s.goC ⟨6,xa,xb,xc,(k:Int),xn,xr,xs⟩) e w9):=fun e w9 hd=>hd.to (by rw[EG.out,Qz HC2.out]) (fun _=>HS.out)
 have CM:Hid (∀ d,Calls Tryz.prog 70 #[.pointer (some ⟨b,0,none⟩),.slice (some ⟨w2.heap.size,0,none⟩) 1 d] (w2.alloc (.cells #[.int .i64 u.kind,.int .i64 u.r,.slice p u.len c] 70)) fun e w'=>Q0 w2 b O A s { s with L:=s.L++[u.at 5] } (Q8 s.L.length 1) e w'):=fun d=>by
  have b1:=QQ w2 (.cells #[.int .i64 u.kind,.int .i64 u.r,.slice p u.len c] 70);have hrow:=QdM (t:=u.at 5) (p:=p) (c:=c) (d:=d) HA2.out (TIn.at 5 h5 hui) (TT.at_ok 5 huok);rw[TT.at_kind,TT.at_r,TT.at_len 5 _ h5] at hrow
  exact(Qad (l:=[u.at 5]) rfl (by simp) hrow hL (fun k hk=>Nat.lt_of_lt_of_le (HA2.out k hk) b1.size) (H2.out.below b1)).mono (fun e w' hd=>hd.after b1)
 clear ha hu hui hh5 h5 hchk huok HS EG;simp only[Tv]
 go_wp2_with fail
 refine(CM.out _).mono ?_
 rintro e' w9 hd;have FF:Hid (Q0 w b O A s (s.next ⟨6,xa,xb,xc,(k:Int),xn,xr,xs⟩) (s.goC ⟨6,xa,xb,xc,(k:Int),xn,xr,xs⟩) e' w9):=HE2.out _ _ (hd.after HB2.out);rcases hd with ⟨h1,rfl,h3⟩|⟨h1,rfl,h3⟩
 rotate_left
 ·exact⟨rfl,FF.out⟩
 clear h1 h3 CM;go_wp2
 exact bodyPost_end (v:=.tuple #[]) (by simp[results,Tryz.results35,go_sem]) rfl FF.out
theorem Qkn {w:World}{b:Nat}{O A Q:Nat→Prop}{s:JSt}{x:Qx}{rg ag:Option Addr}{rc ac:Nat}(hA:∀ k,A k→k<w.heap.size) (hJ:JOk s) (h:SAt w b O A s) (hregs:intsL.In w Q x.regs [.slice rg x.regs.length rc]) (hargs:intsL.In w Q x.args [.slice ag x.args.length ac]) (hrc:x.regs.length≤rc) (hrng:ZA x) (hf:x.form s.m.length=0) (hop:x.op=7) :
 Calls Tryz.prog 35 #[.pointer (some ⟨b,0,none⟩),Qdt x rg ag rc ac] w fun e w'=>Q0 w b O A s (s.next x) (s.goC x) e w':=by
 have hE:=Qeg (s:=s) hop;obtain⟨op,xa,xb,xc,xk,xn,xr,xs⟩:=x
 have hop:op=7:=hop;subst hop;have HE:=Qa hE;obtain⟨f1,f2,f3,-⟩:=Q9 hf
 have HF:=Qa (And.intro f1 (And.intro f2 f3));obtain⟨ra,rb,rcc⟩:=hrng
 have HI:=Qa (And.intro ra (And.intro rb rcc));have HJ:=Qa hJ;have H0:=Qa h;have HA0:=Qa hA;have hL:=hJ.vals;have b1:=QQ w (.cells #[.int .i64 7,.int .i64 xa,.int .i64 xb,.int .i64 xc,.int .i64 xk,.int .i64 xn,.slice rg xr.length rc,.slice ag xs.length ac] 46);have H:=Qa (h.below b1);have HR:Hid (intsL.In _ Q xr [.slice rg xr.length rc]):=Lay.below hregs b1;have HG:Hid (intsL.In _ Q xs [.slice ag xs.length ac]):=Lay.below hargs b1;have HB:=Qa b1;have HA:=Qa (fun k hk=>Nat.lt_of_lt_of_le (hA k hk) b1.size);have HO:=Qa (fun k hk=>Nat.lt_of_lt_of_le (hA k (h.sub k hk)) b1.size);have X1:Hid (Blk (w.alloc (.cells #[.int .i64 7,.int .i64 xa,.int .i64 xb,.int .i64 xc,.int .i64 xk,.int .i64 xn,.slice rg xr.length rc,.slice ag xs.length ac] 46)) w.heap.size #[.int .i64 7,.int .i64 xa,.int .i64 xb,.int .i64 xc,.int .i64 xk,.int .i64 xn,.slice rg xr.length rc,.slice ag xs.length ac] 46):=Blk.new _ _ _;have HRC:Hid (xr.length≤rc):=hrc;clear h hA hJ b1 hregs hargs hE hf f1 f2 f3 ra rb rcc hrc;go_enter Tryz.func35,Tryz.ntmps35
 go_upto_region 1 with fail
 generalize w.alloc (.cells #[.int .i64 7,.int .i64 xa,.int .i64 xb,.int .i64 xc,.int .i64 xk,.int .i64 xn,.slice rg xr.length rc,.slice ag xs.length ac] 46)=w1 at H HR HG HB HA HO X1 ⊢;obtain⟨X,hX⟩:∃ X,w.heap.size=X:=⟨_,rfl⟩
 rw[hX] at X1 ⊢
 clear hX;have x0:=Qb X1.out 0 _ rfl;have x1:=Qb X1.out 1 _ rfl;have x2:=Qb X1.out 2 _ rfl;have x3:=Qb X1.out 3 _ rfl;have x4:=Qb X1.out 4 _ rfl;have x6:=Qb X1.out 6 _ rfl;have x7:=Qb X1.out 7 _ rfl;obtain⟨k,hxk⟩:=Int.eq_ofNat_of_zero_le (HF.out.1 (by simp)).1
 have hxk:xk=(k:Int):=hxk;subst hxk;have hk7:k≤7:=by have:=(HF.out.1 (by simp)).2;simp only at this;omega
 have EG:Hid (s.fieldC xa k≠0→s.goC ⟨7,xa,xb,xc,(k:Int),xn,xr,xs⟩=s.fieldC xa k):=fun hne=>by
  unfold JSt.goC;rw[HE.out]
  unfold JSt.fieldC at hne ⊢;simp only[Int.toNat_natCast]
  cases ha:s.at xa with
  | none=>unfold JSt.want;rw[ha];rfl
  | some t =>
    rw[ha] at hne
    simp only at hne ⊢
    by_cases hw:s.want xa 3 true=0
    ·rw[Qz hw] at hne ⊢
     rw[if_pos hw]
     by_cases hk:k<t.2.2.length
     ·rw[if_pos hk] at hne;exact absurd rfl hne
     ·rw[List.getElem?_eq_none (by omega),if_neg hk];rfl
    ·rw[if_neg hw,Qm hw,Qm hw]
 have EG2:Hid (∀ t u,s.fieldC xa k=0→s.at xa=some t→t.2.2[k]?=some u→s.goC ⟨7,xa,xb,xc,(k:Int),xn,xr,xs⟩=s.beC xb (u.at 5)∧s.next ⟨7,xa,xb,xc,(k:Int),xn,xr,xs⟩=s):=fun t u h0 ha hu=>by
  have hw:s.want xa 3 true=0:=by
   unfold JSt.fieldC at h0;exact(Qa2 h0).1
  rw[Q4 (by simp) (by simp)]
  unfold JSt.goC JSt.beC;rw[HE.out]
  simp only[Int.toNat_natCast,ha,if_pos hw,hu]
  cases s.at xb with
  | none=>exact⟨rfl,by simp⟩
  | some v =>
    simp only
    have e:bdec (u.at 5=v)=bdec (v=u.at 5):=Qeb (by rw[Qap];exact⟨fun e=>e.symm,fun e=>e.symm⟩);rw[e]
    cases bdec (v=u.at 5) with
    | true=>exact⟨by show Qw 0 (Q8 s.L.length 0)=_;rw[QbC hL];rfl,by simp⟩
    | false=>exact⟨rfl,by simp⟩
 have HCV:Hid (∀ t∈s.L,t.count≤100000):=fun t ht=>Nat.le_trans (ZH (HJ.out.types t ht)) (by omega);go_upto_region 17 with fail
 have BD:Hid (Below w1.heap.size w1 w1.drew):=Qb2 (Below.refl _ _);have C1:Hid (Calls Tryz.prog 71 #[.pointer (some ⟨b,0,none⟩),.int .i64 xa,.int .i64 k] w1.drew fun e w'=>ZG (s.fieldC xa k) (Qlw w' A s xa k) e∧Below w1.drew.heap.size w1.drew w'):=Qdx xa k (by omega) hL HO.out (H.out.below BD.out)
 have DM:Hid (∀ (u:TT 5) (p:Option Addr) (c:Nat) (wx:World),TIn wx (fun g=>¬ A g) u p→SAt wx b O A s→(∀ k,O k→k<wx.heap.size)→Calls Tryz.prog 72 #[.pointer (some ⟨b,0,none⟩),.int .i64 xb,.agg #[.int .i64 u.kind,.int .i64 u.r,.slice p u.len c]] wx fun e w'=>ZG (s.beC xb (u.at 5)) VNone e∧Below wx.heap.size wx w'):=fun u p c wx hu hs ho=>by
  have h5:u.height≤5:=by have:=TT.height_lt u;omega
  have:=QcD (s:=s) xb (t:=u.at 5) (p:=p) (c:=c) (TIn.at 5 h5 hu) hL HCV.out ho hs
  rw[show Tv (u.at 5) p c=.agg #[.int .i64 u.kind,.int .i64 u.r,.slice p u.len c] by simp only[Tv,TT.at_kind,TT.at_r,TT.at_len 5 _ h5]] at this
  exact this
 go_region_with (first
  | (go_at_call 71;refine(C1.out).mono ?_;rintro e' w2 ⟨hq,b2⟩;have HB2:=Qa (HB.out.trans ((Zu b2).mono HB.out.size));rcases hq with ⟨hc,y2,rfl,t,u,p,c,ha,hu,rfl,hui⟩|⟨hc,rfl⟩;rotate_left;exact⟨rfl,Q0.bad (EG.out hc) hc (STo.of_below H0.out HB2.out)⟩;have x2':=QY x2 (Zu b2);have H2:=Qa (H.out.below (Zu b2));have HO2:=Qa (fun k hk=>Nat.lt_of_lt_of_le (HO.out k hk) (Zu b2).size);have HU:=Qa hui;have HEE:=Qa (EG2.out t u hc ha hu);clear hui ha hu hc b2)
  | (go_at_call 72;refine(DM.out _ _ _ _ HU.out H2.out HO2.out).mono ?_;rintro e' w3 ⟨hq,b3⟩;have HB3:=Qa (HB2.out.trans (b3.mono HB2.out.size));rcases hq with ⟨hc,y3,rfl,hy⟩|⟨hc,rfl⟩;rotate_left;exact⟨rfl,Q0.bad HEE.out.1 hc (STo.of_below H0.out HB3.out)⟩;subst hy;have HC3:=Qa hc;clear hc b3))
 all_goals
  have FF:Hid (Q0 w b O A s (s.next ⟨7,xa,xb,xc,(k:Int),xn,xr,xs⟩) (s.goC ⟨7,xa,xb,xc,(k:Int),xn,xr,xs⟩) (.returned (.tuple #[])) w3):=Q0.none H0.out HB3.out (by rw[HEE.out.1,HC3.out]) HEE.out.2;go_wp2
  exact bodyPost_end (v:=.tuple #[]) (by simp[results,Tryz.results35,go_sem]) rfl FF.out
def Qlv (w6:World) (b X mg mo nb cb k:Nat) (ds:List Value) (t:Tmp) (v:Value) (w:World):Prop :=
 match ([(4,fun v w=>∃ B,v=.pointer (some ⟨B,0,none⟩)∧w6.heap.size≤B∧∃ c,c.size=12∧Blk w B c 60)]:List (Tmp × (Value→World→Prop))).lookup t with
 | some p=>p v w
 | none=>v=(([(0,.pointer (some ⟨b,0,none⟩)),(3,.pointer (some ⟨X,0,none⟩)),(5,.pointer (some ⟨b,0,none⟩)),(6,.pointer (some ⟨b,0,none⟩)),(7,.pointer (some ⟨b,2,none⟩)),(8,.pointer (some ⟨b,5,none⟩)),(9,.slice (some ⟨mg,mo,none⟩) nb cb),(10,.pointer (some ⟨X,0,none⟩)),(11,.int .i64 (k:Int)),(12,.pointer (some ⟨mg,mo+k*12,none⟩)),(13,.agg ds.toArray)]:List (Tmp × Value)).lookup t).getD undef
theorem jt1 {w6:World}{b X mg mo nb cb k:Nat}{ds:List Value}(y0:w6.cell? ⟨b,5,none⟩=some (.slice (some ⟨mg,mo,none⟩) nb cb)) (z0:w6.cell? ⟨X,0,none⟩=some (.int .i64 (k:Int))) (HD:Hid (w6.rangeAt mg (mo+k*12) ds)) (hdl:ds.length=12) (hkn:(k:Int)<nb){Q:Exit→Act→World→Prop}
 (a:Act) (m:Nat) (hn:a.tmps.size=m) (hn':29≤m) (h0:a.tmps.getD 0 undef=.pointer (some ⟨b,0,none⟩)) (h3:a.tmps.getD 3 undef=.pointer (some ⟨X,0,none⟩))
 (hend:∀ ops vs w',vs 13=.agg ds.toArray→(fun v w=>∃ B,v=.pointer (some ⟨B,0,none⟩)∧w6.heap.size≤B∧∃ c,c.size=12∧Blk w B c 60) (vs 4) w'→Below w6.heap.size w6 w'→wpList Tryz.prog ops Q (Qid 10 ((Tryz.f91.body.bind (QF 1)).getD .skip)) (Z3 a vs [5,6,7,8,9,10,11,12,13,4]) w') :
 Code.wp Tryz.prog ((Tryz.f91.body.bind (QF 1)).getD .skip) Q a w6:=by
 conv=>arg 2;whnf
 refine QZ 10 (Qlv w6 b X mg mo nb cb k ds) (fun w=>Below w6.heap.size w6 w) (fun w w'=>Below w.heap.size w w') (outs:=[0,3]) (gs:=[]) (bs:=[true,true,true,true,true,true,true,true,true,true]) (by kernel_rfl) (n:=29) hn hn' (by kernel_rfl) (by kernel_rfl) ?hR ?hG (ZW (Below.refl _ _) 1) ⟨h0,h3,trivial⟩ ?hA ?hend
 case hR =>
  intro t v w w' hr h;unfold Qlv at h ⊢;split at h
  ·rename_i p hp
   simp only[List.lookup_cons,List.lookup_nil] at hp
   split at hp
   ·cases hp;exact(by obtain⟨B,e,h1,c,h3,h2⟩:=h;exact⟨B,e,h1,c,h3,(hr.block B (lt_of_block h2)).trans h2⟩)
   ·cases hp
  ·exact h
 case hG=>exact trivial
 case hend=>exact fun ops vs w' hW hk=>hend ops vs w' (hk 13 (by kernel_rfl)) (hk 4 (by kernel_rfl)) hW
 case hA =>
  refine⟨fun a w hW hk K hK=>?_,?_⟩
  ·obtain⟨k0,-⟩:=hk
   have k0:a.tmps.getD 0 undef=.pointer (some ⟨b,0,none⟩):=k0;go_simp;exact hK _ _ (Below.refl _ _) hW rfl
  refine⟨fun a w hW hk K hK=>?_,?_⟩
  ·obtain⟨k0,-⟩:=hk
   have k0:a.tmps.getD 5 undef=.pointer (some ⟨b,0,none⟩):=k0;go_simp;exact hK _ _ (Below.refl _ _) hW rfl
  refine⟨fun a w hW hk K hK=>?_,?_⟩
  ·obtain⟨k0,-⟩:=hk
   have k0:a.tmps.getD 6 undef=.pointer (some ⟨b,0,none⟩):=k0;go_simp;exact hK _ _ (Below.refl _ _) hW rfl
  refine⟨fun a w hW hk K hK=>?_,?_⟩
  ·obtain⟨k0,-⟩:=hk
   have k0:a.tmps.getD 7 undef=.pointer (some ⟨b,2,none⟩):=k0;go_simp;exact hK _ _ (Below.refl _ _) hW rfl
  refine⟨fun a w hW hk K hK=>?_,?_⟩
  ·obtain⟨k0,-⟩:=hk
   have k0:a.tmps.getD 8 undef=.pointer (some ⟨b,5,none⟩):=k0;have c0:=QY y0 hW;go_simp;exact hK _ _ (Below.refl _ _) hW rfl
  refine⟨fun a w hW hk K hK=>?_,?_⟩
  ·obtain⟨k0,-⟩:=hk
   have k0:a.tmps.getD 3 undef=.pointer (some ⟨X,0,none⟩):=k0;go_simp;exact hK _ _ (Below.refl _ _) hW rfl
  refine⟨fun a w hW hk K hK=>?_,?_⟩
  ·obtain⟨k0,-⟩:=hk
   have k0:a.tmps.getD 10 undef=.pointer (some ⟨X,0,none⟩):=k0;have c0:=QY z0 hW;go_simp;exact hK _ _ (Below.refl _ _) hW rfl
  refine⟨fun a w hW hk K hK=>?_,?_⟩
  ·obtain⟨k0,k1,-⟩:=hk
   have k0:a.tmps.getD 9 undef=.slice (some ⟨mg,mo,none⟩) nb cb:=k0;have k1:a.tmps.getD 11 undef=.int .i64 (k:Int):=k1;go_simp;exact hK _ _ (Below.refl _ _) hW rfl
  refine⟨fun a w hW hk K hK=>?_,?_⟩
  ·obtain⟨k0,-⟩:=hk
   have k0:a.tmps.getD 12 undef=.pointer (some ⟨mg,mo+k*12,none⟩):=k0;obtain⟨fs,hfs⟩:=underBk
   refine wp_load_mid 60 (.tmp 12) rfl mg (mo+k*12) k0 ds _ (ZX HD.out hW) hfs rfl (by rw[hdl];exact sizeBk) ?_;exact hK _ _ (Below.refl _ _) hW rfl
  refine⟨fun a w hW hk K hK=>?_,?_⟩
  ·clear hk;go_simp;exact hK _ _ (QQ _ _) (hW.alloc hW.size _) ⟨_,rfl,hW.size,_,rfl,Qu _ _ _⟩
  trivial
def QlA (w2:World) (b X C N ac n1 d1 Kn rc:Nat) (ag rg p1:Option Addr) (ps:List (TT 6)) (regs:List Int) (t:Tmp) (v:Value) (w:World):Prop :=
 match ([(27,fun v w=>∃ g,v=.slice (some ⟨g,0,none⟩) n1 n1∧w2.heap.size≤g∧Qcp w g n1 (ps.map (Qaf regs)))]:List (Tmp × (Value→World→Prop))).lookup t with
 | some p=>p v w
 | none=>v=(([(0,.pointer (some ⟨b,0,none⟩)),(3,.pointer (some ⟨X,0,none⟩)),(4,.pointer (some ⟨C,0,none⟩)),(20,.pointer (some ⟨b,0,none⟩)),(21,.pointer (some ⟨X,2,none⟩)),(22,.slice ag N ac),(23,.pointer (some ⟨C,1,none⟩)),(24,.slice p1 n1 d1),(25,.pointer (some ⟨X,1,none⟩)),(26,.slice rg Kn rc)]:List (Tmp × Value)).lookup t).getD undef
theorem jt3 {w2:World}{b X C N ac n1 d1 Kn rc:Nat}{ag rg p1:Option Addr}{ps:List (TT 6)}{regs:List Int}{Q R:Nat→Prop}(x1:w2.cell? ⟨X,1,none⟩=some (.slice rg Kn rc)) (x2:w2.cell? ⟨X,2,none⟩=some (.slice ag N ac)) (e1:w2.cell? ⟨C,1,none⟩=some (.slice p1 n1 d1)) (HK:Hid (regs.length=Kn)) (HN1:Hid (ps.length=n1)) (hn1:n1≤1000) (HR:Hid (intsL.In w2 Q regs [.slice rg Kn rc])) (HP:Hid (LIn w2 R ps p1)) (HC:Hid (∀ x∈ps,x.count≤2000)){Q:Exit→Act→World→Prop}
 (a:Act) (m:Nat) (hn:a.tmps.size=m) (hn':29≤m) (h0:a.tmps.getD 0 undef=.pointer (some ⟨b,0,none⟩)) (h3:a.tmps.getD 3 undef=.pointer (some ⟨X,0,none⟩)) (h4:a.tmps.getD 4 undef=.pointer (some ⟨C,0,none⟩))
 (hend:∀ ops vs w',vs 22=.slice ag N ac→vs 20=.pointer (some ⟨b,0,none⟩)→(fun v w=>∃ g,v=.slice (some ⟨g,0,none⟩) n1 n1∧w2.heap.size≤g∧Qcp w g n1 (ps.map (Qaf regs))) (vs 27) w'→Below w2.heap.size w2 w'→wpList Tryz.prog ops Q (Qid 8 ((Tryz.f91.body.bind (QF 3)).getD .skip)) (Z3 a vs [20,21,22,23,24,25,26,27]) w') :
 Code.wp Tryz.prog ((Tryz.f91.body.bind (QF 3)).getD .skip) Q a w2:=by
 conv=>arg 2;whnf
 refine QZ 8 (QlA w2 b X C N ac n1 d1 Kn rc ag rg p1 ps regs) (fun w=>Below w2.heap.size w2 w) (fun w w'=>Below w.heap.size w w') (outs:=[0,3,4]) (gs:=[]) (bs:=[true,true,true,true,true,true,true,true]) (by kernel_rfl) (n:=29) hn hn' (by kernel_rfl) (by kernel_rfl) ?hR ?hG (ZW (Below.refl _ _) 1) ⟨h0,h3,h4,trivial⟩ ?hA ?hend
 case hR =>
  intro t v w w' hr h;unfold QlA at h ⊢;split at h
  ·rename_i p hp
   simp only[List.lookup_cons,List.lookup_nil] at hp
   split at hp
   ·cases hp;exact(by obtain⟨g,e,h1,h2⟩:=h;exact⟨g,e,h1,h2.below hr⟩)
   ·cases hp
  ·exact h
 case hG=>exact trivial
 case hend=>exact fun ops vs w' hW hk=>hend ops vs w' (hk 22 (by kernel_rfl)) (hk 20 (by kernel_rfl)) (hk 27 (by kernel_rfl)) hW
 case hA =>
  refine⟨fun a w hW hk K hK=>?_,?_⟩
  ·obtain⟨k0,-⟩:=hk
   have k0:a.tmps.getD 0 undef=.pointer (some ⟨b,0,none⟩):=k0;go_simp;exact hK _ _ (Below.refl _ _) hW rfl
  refine⟨fun a w hW hk K hK=>?_,?_⟩
  ·obtain⟨k0,-⟩:=hk
   have k0:a.tmps.getD 3 undef=.pointer (some ⟨X,0,none⟩):=k0;go_simp;exact hK _ _ (Below.refl _ _) hW rfl
  refine⟨fun a w hW hk K hK=>?_,?_⟩
  ·obtain⟨k0,-⟩:=hk
   have k0:a.tmps.getD 21 undef=.pointer (some ⟨X,2,none⟩):=k0;have c0:=QY x2 hW;go_simp;exact hK _ _ (Below.refl _ _) hW rfl
  refine⟨fun a w hW hk K hK=>?_,?_⟩
  ·obtain⟨k0,-⟩:=hk
   have k0:a.tmps.getD 4 undef=.pointer (some ⟨C,0,none⟩):=k0;go_simp;exact hK _ _ (Below.refl _ _) hW rfl
  refine⟨fun a w hW hk K hK=>?_,?_⟩
  ·obtain⟨k0,-⟩:=hk
   have k0:a.tmps.getD 23 undef=.pointer (some ⟨C,1,none⟩):=k0;have c0:=QY e1 hW;go_simp;exact hK _ _ (Below.refl _ _) hW rfl
  refine⟨fun a w hW hk K hK=>?_,?_⟩
  ·obtain⟨k0,-⟩:=hk
   have k0:a.tmps.getD 3 undef=.pointer (some ⟨X,0,none⟩):=k0;go_simp;exact hK _ _ (Below.refl _ _) hW rfl
  refine⟨fun a w hW hk K hK=>?_,?_⟩
  ·obtain⟨k0,-⟩:=hk
   have k0:a.tmps.getD 25 undef=.pointer (some ⟨X,1,none⟩):=k0;have c0:=QY x1 hW;go_simp;exact hK _ _ (Below.refl _ _) hW rfl
  refine⟨fun a w hW hk K hK=>?_,?_⟩
  ·obtain⟨k0,k1,-⟩:=hk
   have k0:a.tmps.getD 24 undef=.slice p1 n1 d1:=k0;have k1:a.tmps.getD 26 undef=.slice rg Kn rc:=k1;go_simp;refine Calls.mono (QaP HK.out HN1.out hn1 (Lay.below HR.out hW) (HP.out.below hW) HC.out) ?_;rintro r7 w7 ⟨g7,rfl,hg7,hm7,b7⟩;go_simp;exact hK _ _ b7 (hW.trans (b7.mono hW.size)) ⟨g7,rfl,Nat.le_trans hW.size hg7,hm7⟩
  trivial
theorem QbV {w:World}{b:Nat}{O A Q:Nat→Prop}{s:JSt}{x:MTo}{rg ag:Option Addr}{rc ac:Nat}(hJ:JOk s) (hO:∀ k,O k→k<w.heap.size) (h:SAt w b O A s) (hregs:intsL.In w Q x.regs [.slice rg x.regs.length rc]) (hargs:intsL.In w Q x.args [.slice ag x.args.length ac]) (hr16:x.regs.length≤16) (ha8:x.args.length≤8) (hbl:0≤x.block∧x.block<s.f.blocks.length) :
 Calls Tryz.prog 91 #[.pointer (some ⟨b,0,none⟩),toV x rg ag rc ac] w fun e w'=>ZG (s.to x) VNone e∧Below w.heap.size w w':=by
 have HJ:=Qa hJ;have HO:=Qa hO;have hL:=hJ.vals;obtain⟨xb,xr,xs⟩:=x
 simp only at hregs hargs hr16 ha8 hbl
 obtain⟨k,rfl⟩:=Int.eq_ofNat_of_zero_le hbl.1
 have hkb:k<s.f.blocks.length:=by omega
 have hgk:s.f.blocks[k]?=some s.f.blocks[k]:=List.getElem?_eq_getElem hkb;generalize s.f.blocks[k]=g at hgk;have b1:=QQ w (.cells #[.int .i64 (k:Int),.slice rg xr.length rc,.slice ag xs.length ac] 56);have hblk:=Qu w #[.int .i64 (k:Int),.slice rg xr.length rc,.slice ag xs.length ac] 56;have K1:=Qa (h.below b1);have HR1:Hid (intsL.In (w.alloc (.cells #[.int .i64 (k:Int),.slice rg xr.length rc,.slice ag xs.length ac] 56)) Q xr [.slice rg xr.length rc]):=Lay.below hregs b1;have HA1:Hid (intsL.In (w.alloc (.cells #[.int .i64 (k:Int),.slice rg xr.length rc,.slice ag xs.length ac] 56)) Q xs [.slice ag xs.length ac]):=Lay.below hargs b1;have HB1:=Qa b1;have HK1:=Qa hblk;clear h hregs hargs b1 hblk hJ hO;go_enter Tryz.func91,Tryz.ntmps91
 go_upto_region 1 with fail
 obtain⟨X,hX⟩:∃ X,w.heap.size=X:=⟨_,rfl⟩
 generalize hw1:w.alloc (.cells #[.int .i64 (k:Int),.slice rg xr.length rc,.slice ag xs.length ac] 56)=w1 at K1 HR1 HA1 HB1 HK1 ⊢;rw[hX] at HK1
 rw[hX]
 clear hw1 hX;have x0:=Qb HK1.out 0 _ rfl;have x1:=Qb HK1.out 1 _ rfl;have x2:=Qb HK1.out 2 _ rfl;obtain⟨pm,cm,hh,a1,c1,a2,c2,a3,c3,aL,cL,R⟩:=K1.out.read
 obtain⟨-,-,-,-,-,q5,-⟩:=R.cells
 obtain⟨fa,fc,fb,fd,fe,ff,ecs,-,-,hbs,-⟩:=Qac R.fn
 simp only[List.cons.injEq,Value.slice.injEq,and_true,true_and] at ecs
 obtain⟨-,-,rfl,rfl⟩:=ecs
 obtain⟨mg,mo,p1,d1,es,rfl,hrange,hes,hpar,hone⟩:=Qbf hbs hgk
 have HRG:=Qa hrange;have HPA:Hid ((Qh 6).In w1 (fun g=>¬ A g) g.params [.slice p1 g.params.length d1]):=hpar;have HES:Hid (es.length=10):=hes;have HONE:=Qa hone;have hkn:(k:Int)<s.f.blocks.length:=by omega
 have HFR:=Qa (HJ.out.mod.2 s.f HJ.out.fn);have HGM:Hid (g∈s.f.blocks):=List.mem_of_getElem? hgk;have HBR:=Qa (HFR.out.blocks g HGM.out);have HNG:Hid (¬ Qe.great g):=fun hg=>HJ.out.tiny (.inr ⟨s.f,HJ.out.fn,.inr (.inr (.inr ⟨g,HGM.out,hg⟩))⟩);have HCP:Hid (∀ t∈g.params,t.count≤2000):=fun t ht=>Nat.le_of_not_lt fun hlt=>HNG.out (.inr (.inl (.inr ⟨t,ht,hlt⟩)));have HCV:Hid (∀ t∈s.L,t.count≤100000):=fun t ht=>Nat.le_trans (ZH (HJ.out.types t ht)) (by omega);have E:Hid (s.to ⟨(k:Int),xr,xs⟩=Qw (passC s.H s.f.regs xr g.regs) (s.handC xs (g.params.map (Qaf xr)))):=Qlk hgk HBR.out.params.2;clear R hbs hrange hpar hone hes hgk hbl;generalize hnb:s.f.blocks.length=nb at q5 hkb hkn;refine jt1 q5 x0 HRG (by simp[HES.out]) hkn _ _ rfl (Nat.le_of_ble_eq_true (by kernel_rfl)) rfl rfl ?_;rintro ops vs w5 hv16 ⟨B,hv5,hB,cB,hcB,hBb⟩ b5;show wpList _ ops _ [_] (Z3 _ vs [5,6,7,8,9,10,11,12,13,4]) w5;simp only[Z3,Act.put,List.setIfInBounds_toArray,List.set_cons_zero,List.set_cons_succ,hv16,hv5]
 have hlen12:(Value.int .i64 g.regs::Value.slice p1 g.params.length d1::es).length=12:=by simp[HES.out]
 have TH:Hid (w5.there B 0 (Value.int .i64 g.regs::Value.slice p1 g.params.length d1::es).toArray.size):=by
  intro j hj;rw[List.size_toArray,hlen12] at hj
  rw[Nat.zero_add]
  refine⟨?_,Qo hBb j⟩
  rw[Qb hBb j cB[j] (by simp)];rfl
 have TS:Hid ((Tryz.prog.info? 60).map (·.size)=some (Value.int .i64 g.regs::Value.slice p1 g.params.length d1::es).toArray.size):=by show _=_;rw[List.size_toArray,hlen12];exact sizeBk
 have TO:Hid ((Value.int .i64 g.regs::Value.slice p1 g.params.length d1::es).toArray.all (·.oneCell')=true):=by
  refine all_oneCell_toArray fun v hv=>?_;simp only[List.mem_cons] at hv
  rcases hv with rfl | rfl | hv
  ·rfl
  ·rfl
  ·exact HONE.out v hv
 have B6:Hid (Blk (w5.setCells B 0 (Value.int .i64 g.regs::Value.slice p1 g.params.length d1::es).toArray.toList) B (Value.int .i64 g.regs::Value.slice p1 g.params.length d1::es).toArray 60):=by
  have h0:Blk w5 B ([]++cB.toList).toArray 60:=by rw[List.nil_append,Array.toArray_toList];exact hBb
  have:=Blk.sets (Value.int .i64 g.regs::Value.slice p1 g.params.length d1::es) [] cB.toList w5 (by rw[hlen12];simp[hcB]) h0
  exact this
 have b6:Hid (Below w1.heap.size w1 (w5.setCells B 0 (Value.int .i64 g.regs::Value.slice p1 g.params.length d1::es).toArray.toList)):=by
  have:=Zj.setCells (O:=fun k=>k=B) (O':=fun k=>k=B) (b:=B) rfl (Value.int .i64 g.regs::Value.slice p1 g.params.length d1::es).toArray.toList 0 _ (Zj.refl _ w5)
  exact b5.trans (this.below b5.size (fun k hk=>by omega))
 clear hBb hB hcB b5 hv16 hv5 hlen12;generalize hgr:g.regs=gr at E HBR B6 b6 TH TS TO ⊢;have HGR:Hid (g.regs=gr):=hgr;generalize hn1:g.params.length=n1 at HPA B6 b6 TH TS TO ⊢;have HN1:Hid (g.params.length=n1):=hn1;have hn18:n1≤8:=by rw[← hn1];exact HBR.out.params.1
 have y0:(w5.setCells B 0 (Value.int .i64 gr::Value.slice p1 n1 d1::es).toArray.toList).cell? ⟨B,0,none⟩=some (.int .i64 gr):=Qb B6.out 0 _ rfl;have y1:(w5.setCells B 0 (Value.int .i64 gr::Value.slice p1 n1 d1::es).toArray.toList).cell? ⟨B,1,none⟩=some (.slice p1 n1 d1):=Qb B6.out 1 _ rfl;generalize hds:(Value.int .i64 gr::Value.slice p1 n1 d1::es).toArray=dsA at B6 b6 TH TS TO y0 y1 ⊢;have K6:=Qa (K1.out.below b6.out);have HR6:Hid (intsL.In (w5.setCells B 0 dsA.toList) Q xr [.slice rg xr.length rc]):=Lay.below HR1.out b6.out;have HA6:Hid (intsL.In (w5.setCells B 0 dsA.toList) Q xs [.slice ag xs.length ac]):=Lay.below HA1.out b6.out;have HP6:Hid ((Qh 6).In (w5.setCells B 0 dsA.toList) (fun g=>¬ A g) g.params [.slice p1 n1 d1]):=Lay.below HPA.out b6.out;have BW:Hid (Below w.heap.size w (w5.setCells B 0 dsA.toList)):=HB1.out.trans (b6.out.mono HB1.out.size);have HFG:Hid (s.f.regs≤gr):=by have:=HBR.out.regs.1;rw[HGR.out] at this;exact this
 have x1':=QY x1 b6.out;have x2':=QY x2 b6.out;clear hgr hn1 hds K1 HR1 HA1 HPA HB1 b6 B6 q5 x0 x1 x2 HES HONE HNG HK1 HRG;go_upto_region 2 with (refine wpList_store_mid rfl 60 (.tmp 4) (.tmp 13) rfl B 0 dsA rfl rfl TH.out TS.out TO.out ?_)
 clear TH TS TO;generalize w5.setCells B 0 dsA.toList=w6 at K6 HR6 HA6 HP6 BW x1' x2' y0 y1 ⊢;obtain⟨Kn,hKn⟩:∃ Kn,xr.length=Kn:=⟨_,rfl⟩
 have HK:=Qa hKn;rw[hKn] at x1' HR6 hr16
 clear hKn;obtain⟨N,hN⟩:∃ N,xs.length=N:=⟨_,rfl⟩
 have HN:=Qa hN;rw[hN] at x2' HA6 ha8
 clear hN;have CP:=Qa (Qd5 gr HK.out (by omega) HR6.out HFR.out.regs.1 HFG.out K6.out);go_wp2_with fail
 refine CP.out.mono ?_;rintro e' w7 ⟨hO,b7⟩;have BW7:=Qa (BW.out.trans (b7.mono BW.out.size));rcases hO with ⟨hc,y,rfl,hy⟩|⟨hc,rfl⟩
 rotate_left
 ·exact⟨rfl,.inr ⟨by rw[E.out,Qm hc];exact hc,by rw[E.out,Qm hc]⟩,BW7.out⟩
 subst hy;have E2:Hid (s.to ⟨(k:Int),xr,xs⟩=s.handC xs (g.params.map (Qaf xr))):=by show _=_;rw[E.out,Qz hc]
 have K7:=Qa (K6.out.below b7);have HR7:Hid (intsL.In w7 Q xr [.slice rg Kn rc]):=Lay.below HR6.out b7;have HA7:Hid (intsL.In w7 Q xs [.slice ag N ac]):=Lay.below HA6.out b7;have HP7:=Qa (QL (Lay.below HP6.out b7)).1;have x17:=QY x1' b7;have x27:=QY x2' b7;have y17:=QY y1 b7;clear hc CP E b7 K6 HR6 HA6 HP6 x1' x2' y0 y1 BW;go_upto_region 3 with fail
 refine jt3 x17 x27 y17 HK HN1 (by omega) HR7 HP7 HCP _ _ rfl (Nat.le_of_ble_eq_true (by kernel_rfl)) rfl rfl rfl ?_;rintro ops2 vs2 w8 hv22 hv20 ⟨gP,hv27,hgP,hmP⟩ b8;show wpList _ ops2 _ [_] (Z3 _ vs2 [20,21,22,23,24,25,26,27]) w8;simp only[Z3,Act.put,List.setIfInBounds_toArray,List.set_cons_zero,List.set_cons_succ,hv22,hv20,hv27]
 have BW8:=Qa (BW7.out.trans (b8.mono BW7.out.size))
 have CH:Hid (Calls Tryz.prog 92 #[.pointer (some ⟨b,0,none⟩),.slice ag N ac,.slice (some ⟨gP,0,none⟩) n1 n1] w8 fun e w'=>ZG (s.handC xs (g.params.map (Qaf xr))) VNone e∧Below w8.heap.size w8 w') :=
  Qan HN.out (by omega) (by rw[List.length_map,HN1.out]) (by omega) (Lay.below HA7.out b8) hmP.lin hL HCV.out (fun k hk=>Nat.lt_of_lt_of_le (HO.out k hk) BW8.out.size) (K7.out.below b8)
 clear hmP hgP b8 hv22 hv20 hv27 K7 HR7 HA7 HP7 x17 x27 y17 BW7;go_wp2_with fail
 refine CH.out.mono ?_;rintro e' w9 ⟨hO,b9⟩;have BW9:=Qa (BW8.out.trans (b9.mono BW8.out.size));have FF:Hid (ZG (s.to ⟨(k:Int),xr,xs⟩) VNone e'):=by show ZG _ _ _;rw[E2.out];exact hO
 rcases hO with ⟨hc,y,rfl,hy⟩|⟨hc,rfl⟩
 rotate_left
 ·exact⟨rfl,FF.out,BW9.out⟩
 subst hy;clear hc CH E2 b9;go_wp2
 exact bodyPost_end (v:=.tuple #[]) (by simp[results,Tryz.results91,go_sem]) rfl ⟨FF.out,BW9.out⟩
def Qim (H:List Bool) (regs:Int):Int:=if (Qag H).all (fun r=>decide (r<regs)) then 0 else 12
theorem Qg1 {w:World}{b B:Nat}{O A:Nat→Prop}{s:JSt}(r:Int) (hB:w.cell? ⟨B,0,none⟩=some (.pointer (some ⟨b,0,none⟩))) (h:SAt w b O A s) :
 Calls Tryz.prog 128 #[.int .i64 r,.pointer (some ⟨B,0,none⟩)] w fun e w'=>e=.returned (.bool (decide (r≥s.f.regs)))∧w'=w:=by
 obtain⟨pm,cm,hh,a1,c1,a2,c2,a3,c3,aL,cL,R⟩:=h.read
 obtain⟨-,-,q2,-⟩:=R.cells
 clear R h;generalize s.f.regs=fr at q2 ⊢;go_enter Tryz.func128,Tryz.ntmps128
 go_wp2
 go_ret;exact⟨rfl,rfl⟩
theorem enters_left1:QcU 128:=fun _ _=>by kernel_rfl
theorem QfN {w:World}{b B:Nat}{O A Q:Nat→Prop}{s:JSt}{l:List Int}{p:Option Addr}{N c:Nat}(hN:l.length=N) (hN2:N≤100000) (hl:intsL.In w Q l [.slice p N c]) (hB:w.cell? ⟨B,0,none⟩=some (.pointer (some ⟨b,0,none⟩))) (h:SAt w b O A s) :
 Calls Tryz.prog 145 #[.slice p N c,.func (.func 128) #[] #[.pointer (some ⟨B,0,none⟩)]] w fun e w'=>(∃ i:Int,e=.returned (.int .i64 i)∧(0≤i↔∃ x∈l,s.f.regs≤x))∧w'=w:=by
 have HL:=Qa hl;have HN:=Qa hN;have C:=Qa (fun r=>Qg1 r hB h);have hE:=enters_left1;unfold QcU at hE;clear hl hN h hB;generalize s.f.regs=fr at C ⊢;go_enter Tryz.func145,Tryz.ntmps145
 go_wp2
 go_loop [8] (fun i=>∃ k:Nat,k≤N∧i=.int .i64 k∧∀ (j:Nat) (y:Int),j<k→l[j]?=some y→y<fr) (fun i=>N - (intOf i).toNat)
 case atStart=>exact⟨0,Nat.zero_le _,rfl,fun j y hj=>by omega⟩
 case round =>
  obtain⟨k,hk,rfl,hz⟩:=hrel
  have HZ:=Qa hz;clear hz;by_cases hlt:k<N
  ·have hlt':(k:Int)<N:=by omega
   have hk2:k<l.length:=by rw[HN.out];exact hlt
   obtain⟨g,o,rfl,-,hg,hc0⟩:=Z7 HL.out hk2
   obtain⟨y,hy⟩:∃ y,l[k]?=some y:=⟨_,List.getElem?_eq_getElem hk2⟩
   rw[show l.getD k 0=y by rw[List.getD_eq_getElem?_getD,hy];rfl] at hc0
   have HX:=Qa hy;have CY:=Qa (C.out y);clear hy hk2;by_cases hxy:fr≤y
   ·rw[show decide (y≥fr)=true from decide_eq_true hxy] at CY
    have HM:Hid (∃ x∈l,fr≤x):=⟨y,List.mem_of_getElem? HX.out,hxy⟩;clear hxy;go_wp2_with (go_at_call 128;refine(CY.out).mono ?_;rintro e w' ⟨rfl,hw⟩;have hw:=hw.symm;subst hw)
    go_ret;exact⟨⟨k,rfl,by simp only[HM.out,iff_true];omega⟩,rfl⟩
   ·rw[show decide (y≥fr)=false from decide_eq_false hxy] at CY
    have HXY:=Qa (Int.not_le.1 hxy);clear hxy;go_wp2_with (go_at_call 128;refine(CY.out).mono ?_;rintro e w' ⟨rfl,hw⟩;have hw:=hw.symm;subst hw)
    go_round
    case rel =>
     refine⟨k+1,hlt,by go_num,fun j y' hj hy=>?_⟩
     rcases Nat.lt_or_ge j k with h | h
     ·exact HZ.out j y' h hy
     ·have:j=k:=by omega
      subst this;have e:=HX.out.symm.trans hy;injection e with e
      subst e;exact HXY.out
    case measure=>simp[intOf];omega
  ·have hlt':¬ (k:Int)<N:=by omega
   go_wp2
   go_ret;refine⟨⟨-1,rfl,by omega,fun hm=>?_⟩,rfl⟩
   obtain⟨x,hx,hf⟩:=hm
   obtain⟨j,hj,e⟩:=List.mem_iff_getElem.1 hx
   have:=HZ.out j x (by have:=HN.out;omega) (by rw[List.getElem?_eq_getElem hj,e])
   omega
theorem Qdf {w:World}{b B:Nat}{O A Q:Nat→Prop}{s:JSt}{l:List Int}{p:Option Addr}{N c:Nat}(hN:l.length=N) (hN2:N≤100000) (hl:intsL.In w Q l [.slice p N c]) (hB:w.cell? ⟨B,0,none⟩=some (.pointer (some ⟨b,0,none⟩))) (h:SAt w b O A s) :
 Calls Tryz.prog 129 #[.slice p N c,.func (.func 128) #[] #[.pointer (some ⟨B,0,none⟩)]] w fun e w'=>e=.returned (.bool (!(l.all (fun r=>decide (r<s.f.regs)))))∧w'=w:=by
 have C:=Qa (QfN hN hN2 hl hB h);clear hl hN h hB;go_enter Tryz.func129,Tryz.ntmps129
 go_wp2_with fail
 refine C.out.mono ?_;rintro e w' ⟨⟨i,rfl,hi⟩,hw⟩;have hw:=hw.symm;subst hw
 have E:Hid ((!(l.all (fun r=>decide (r<s.f.regs))))=decide (i≥0)):=by
  show _=_;rw[Bool.eq_iff_iff]
  simp only[Bool.not_eq_true',decide_eq_true_eq,ge_iff_le,hi]
  rw[← Bool.not_eq_true,List.all_eq_true]
  constructor
  ·intro h;exact Classical.byContradiction fun hn=>h (fun x hx=>decide_eq_true (Int.not_le.1 (fun hh=>hn ⟨x,hx,hh⟩)))
  ·rintro ⟨x,hx,hf⟩ h
   have:=of_decide_eq_true (h x hx)
   omega
 clear C hi;go_wp2
 go_ret;exact⟨by rw[E.out];rfl,rfl⟩
theorem QgI {w:World}{b:Nat}{O A:Nat→Prop}{s:JSt}(hH:s.H.length≤16) (h:SAt w b O A s) :
 Calls Tryz.prog 93 #[.pointer (some ⟨b,0,none⟩)] w fun e w'=>ZG (Qim s.H s.f.regs) VNone e∧Below w.heap.size w w':=by
 have hmf:∀ (fn:Fn) (first cap:Array Value) (w:World),(Instr.makeFunc fn first cap).run Tryz.prog w=.ok (.func fn first cap) w:=fun _ _ _ _=>rfl;have b1:=QQ w (.cells #[.pointer (some ⟨b,0,none⟩)] 28);have H:=Qa (h.below b1);have HB:=Qa b1;have hX:=Qu w #[.pointer (some ⟨b,0,none⟩)] 28;have x0:=Qb hX 0 _ rfl;obtain⟨pm,cm,hh,a1,c1,a2,c2,a3,c3,aL,cL,R⟩:=H.out.read
 obtain⟨-,q1,-⟩:=R.cells
 have CL:=Qa (Qhn R.held);clear R h b1 hX;go_enter Tryz.func93,Tryz.ntmps93
 go_upto_region 1 with fail
 generalize w.alloc (.cells #[.pointer (some ⟨b,0,none⟩)] 28)=w1 at H HB x0 q1 CL ⊢;obtain⟨X,hX⟩:∃ X,w.heap.size=X:=⟨_,rfl⟩
 rw[hX] at x0 ⊢
 rw[← hX]
 have HXX:=Qa hX;go_wp2_with fail
 refine CL.out.mono ?_;rintro e' w2 ⟨a,c,rfl,hlist,b2⟩;have H2:=Qa (H.out.below b2);have HB2:=Qa (HB.out.trans (b2.mono HB.out.size));have CF:=Qa (Qdf rfl (by have:=Qie s.H;omega) hlist (QY x0 b2) H2.out);have y0:=QY x0 b2;clear hlist b2 CL x0 q1;generalize (Qag s.H).length=nl at CF ⊢;have E:Hid (Qim s.H s.f.regs=if (Qag s.H).all (fun r=>decide (r<s.f.regs)) then 0 else 12):=rfl;generalize (Qag s.H).all (fun r=>decide (r<s.f.regs))=q at CF E;rw[HXX.out]
 go_wp2_with (go_at_call 129;refine(CF.out).mono ?_;rintro e w' ⟨rfl,hw⟩;have hw:=hw.symm;subst hw)
 refine(QbM _ _ _).mono ?_
 rintro e' w' ⟨hw,⟨hq,rfl⟩|⟨hq,rfl⟩⟩
 rotate_left
 ·exact⟨rfl,ZG.bad (d:=12) (by rw[E.out,show q=false by simpa using hq];rfl) (by decide),by rw[hw];exact HB2.out⟩
 have hw:=hw.symm;subst hw;have E9:Hid (Qim s.H s.f.regs=0):=by show _=_;rw[E.out,show q=true by simpa using hq];rfl
 clear hq;go_wp2
 exact bodyPost_end (v:=.tuple #[]) (by simp[results,Tryz.results93,go_sem]) rfl ⟨ZG.good E9.out rfl,HB2.out⟩
structure EnT (w wc:World) (b X:Nat) (O A Q:Nat→Prop) (s:JSt) (x:MEnd) (e:EP):Prop where
 st:SAt wc b O A s
 box:Blk wc X (Qck x e) 58
 lists:QcP wc Q x e
 bel:Below w.heap.size w wc
theorem EnT.below {w wc w':World}{b X:Nat}{O A Q:Nat→Prop}{s:JSt}{x:MEnd}{e:EP}(h:EnT w wc b X O A Q s x e) (k:Below wc.heap.size wc w'):EnT w w' b X O A Q s x e :=
 ⟨h.st.below k,(k.block X (lt_of_block h.box)).trans h.box,h.lists.below k,h.bel.trans (k.mono h.bel.size)⟩
theorem EnT.cells {w wc:World}{b X:Nat}{O A Q:Nat→Prop}{s:JSt}{x:MEnd}{e:EP}(h:EnT w wc b X O A Q s x e):wc.cell? ⟨X,0,none⟩=some (.int .i64 x.op)∧wc.cell? ⟨X,1,none⟩=some (.int .i64 x.a)∧wc.cell? ⟨X,2,none⟩=some (.int .i64 x.yes.block)∧wc.cell? ⟨X,3,none⟩=some (.slice e.pYR x.yes.regs.length e.cYR)∧wc.cell? ⟨X,4,none⟩=some (.slice e.pYA x.yes.args.length e.cYA)∧wc.cell? ⟨X,5,none⟩=some (.int .i64 x.no.block)∧wc.cell? ⟨X,6,none⟩=some (.slice e.pNR x.no.regs.length e.cNR)∧wc.cell? ⟨X,7,none⟩=some (.slice e.pNA x.no.args.length e.cNA)∧wc.cell? ⟨X,8,none⟩=some (.slice e.pA x.args.length e.cA) :=
 ⟨Qb h.box 0 _ rfl,Qb h.box 1 _ rfl,Qb h.box 2 _ rfl,Qb h.box 3 _ rfl,Qb h.box 4 _ rfl,Qb h.box 5 _ rfl,Qb h.box 6 _ rfl,Qb h.box 7 _ rfl,Qb h.box 8 _ rfl⟩
theorem QjE {w:World}{b:Nat}{O A Q:Nat→Prop}{s:JSt}{x:MEnd}{e:EP}(hJ:JOk s) (hO:∀ k,O k→k<w.heap.size) (h:SAt w b O A s) (hx:QcP w Q x e) (hra:-9223372036854775808≤x.a∧x.a≤9223372036854775807) (hf:x.form s.f.blocks.length=0) :
 Calls Tryz.prog 53 #[.pointer (some ⟨b,0,none⟩),.agg (Qck x e)] w fun r w'=>ZG (s.fin x) VNone r∧Below w.heap.size w w':=by
 have HJ:=Qa hJ;have HO:=Qa hO;have hL:=hJ.vals;have b1:=QQ w (.cells (Qck x e) 58);have S0:Hid (EnT w (w.alloc (.cells (Qck x e) 58)) b w.heap.size O A Q s x e):=⟨h.below b1,Qu w _ _,hx.below b1,b1⟩;have HFR:=Qa (HJ.out.mod.2 s.f HJ.out.fn);have HZ:=Qa (QiU HFR.out.many.2 hf);have HRA:=Qa hra;have HCV:Hid (∀ t∈s.L,t.count≤100000):=fun t ht=>Nat.le_trans (ZH (HJ.out.types t ht)) (by omega);have E1:s.fin x=if x.op=1 then s.to x.yes else if x.op=2 then Qw (s.want x.a 1 false) (Qw (s.to x.yes) (s.to x.no)) else Qw (s.args x.args s.f.results (QkF s.f.regs.toNat)) (if (Qag s.H).all (fun r=>decide (r<s.f.regs)) then 0 else 12):=by rw[JSt.fin,if_neg (by rw[hf];simp)]
 have HE1:=Qa E1;clear h hx b1 hJ hO hra hf E1;go_enter Tryz.func53,Tryz.ntmps53
 go_upto_region 1 with fail
 obtain⟨X,hX⟩:∃ X,w.heap.size=X:=⟨_,rfl⟩
 unfold Qck at S0;generalize hw1:w.alloc (.cells #[.int .i64 x.op,.int .i64 x.a,.int .i64 x.yes.block,.slice e.pYR x.yes.regs.length e.cYR,.slice e.pYA x.yes.args.length e.cYA,.int .i64 x.no.block,.slice e.pNR x.no.regs.length e.cNR,.slice e.pNA x.no.args.length e.cNA,.slice e.pA x.args.length e.cA] 58)=w1 at S0 ⊢;have S:Hid (EnT w w1 b X O A Q s x e):=by rw[← hX];exact S0.out
 rw[hX]
 clear hw1 hX S0;obtain⟨x0,x1,x2,x3,x4,x5,x6,x7,x8⟩:=S.out.cells
 rcases HZ.out.1 with hop | hop | hop
 ·have E2:Hid (s.fin x=s.to x.yes):=by show _=_;rw[HE1.out,if_pos hop]
  have h1:Hid (x.yes.form s.f.blocks.length true=0):=by have:=HZ.out.2.2.2.2.1;rw[hop] at this;exact this
  rw[hop] at x0
  clear HE1;go_wp2_with fail
  refine(QbV (x:=x.yes) HJ.out (fun k hk=>Nat.lt_of_lt_of_le (HO.out k hk) S.out.bel.size) S.out.st S.out.lists.yr S.out.lists.ya (Qam h1.out).2.1 (Qam h1.out).2.2 (Qam h1.out).1).mono ?_
  rintro e9 w9 ⟨hq,b9⟩;have S9:=Qa (S.out.below b9);rcases hq with ⟨hc,y,rfl,hy⟩|⟨hc,rfl⟩
  rotate_left
  ·exact⟨rfl,.inr ⟨by rw[E2.out];exact hc,by rw[E2.out]⟩,S9.out.bel⟩
  subst hy;have E9:Hid (s.fin x=0):=by show _=_;rw[E2.out];exact hc
  clear hc b9;go_wp2
  exact bodyPost_end (v:=.tuple #[]) (by simp[results,Tryz.results53,go_sem]) rfl ⟨ZG.good E9.out rfl,S9.out.bel⟩
 ·have E2:Hid (s.fin x=Qw (s.want x.a 1 false) (Qw (s.to x.yes) (s.to x.no))):=by show _=_;rw[HE1.out,if_neg (by omega),if_pos hop]
  have h1:Hid (x.yes.form s.f.blocks.length true=0):=by have:=HZ.out.2.2.2.2.1;rw[hop] at this;exact this
  have h2:Hid (x.no.form s.f.blocks.length true=0):=by have:=HZ.out.2.2.2.2.2;rw[hop] at this;exact this
  rw[hop] at x0
  have CI:=Qa (fun d=>QbG x.a HRA.out d hL (fun k hk=>Nat.lt_of_lt_of_le (HO.out k hk) S.out.bel.size) S.out.st);clear HE1;go_wp2_with fail
  refine(CI.out _).mono ?_
  rintro e8 w8 ⟨hq,b8⟩;have S8:=Qa (S.out.below b8);rcases hq with ⟨hc,y,rfl,hy⟩|⟨hc,rfl⟩
  rotate_left
  ·exact⟨rfl,.inr ⟨by rw[E2.out,Qm hc];exact hc,by rw[E2.out,Qm hc]⟩,S8.out.bel⟩
  subst hy;have E3:Hid (s.fin x=Qw (s.to x.yes) (s.to x.no)):=by show _=_;rw[E2.out,Qz hc]
  clear hc b8 E2 S CI;have S:=S8;clear S8 x0 x1 x2 x3 x4 x5 x6 x7 x8;obtain⟨x0,x1,x2,x3,x4,x5,x6,x7,x8⟩:=S.out.cells
  go_wp2_with fail
  refine(QbV (x:=x.yes) HJ.out (fun k hk=>Nat.lt_of_lt_of_le (HO.out k hk) S.out.bel.size) S.out.st S.out.lists.yr S.out.lists.ya (Qam h1.out).2.1 (Qam h1.out).2.2 (Qam h1.out).1).mono ?_
  rintro e9 w9 ⟨hq,b9⟩;have S9:=Qa (S.out.below b9);rcases hq with ⟨hc,y,rfl,hy⟩|⟨hc,rfl⟩
  rotate_left
  ·exact⟨rfl,.inr ⟨by rw[E3.out,Qm hc];exact hc,by rw[E3.out,Qm hc]⟩,S9.out.bel⟩
  subst hy;have E4:Hid (s.fin x=s.to x.no):=by show _=_;rw[E3.out,Qz hc]
  clear hc b9 E3 S;have S:=S9;clear S9 x0 x1 x2 x3 x4 x5 x6 x7 x8;obtain⟨x0,x1,x2,x3,x4,x5,x6,x7,x8⟩:=S.out.cells
  go_wp2_with fail
  refine(QbV (x:=x.no) HJ.out (fun k hk=>Nat.lt_of_lt_of_le (HO.out k hk) S.out.bel.size) S.out.st S.out.lists.nr S.out.lists.na (Qam h2.out).2.1 (Qam h2.out).2.2 (Qam h2.out).1).mono ?_
  rintro e9 w9 ⟨hq,b9⟩;have S9:=Qa (S.out.below b9);rcases hq with ⟨hc,y,rfl,hy⟩|⟨hc,rfl⟩
  rotate_left
  ·exact⟨rfl,.inr ⟨by rw[E4.out];exact hc,by rw[E4.out]⟩,S9.out.bel⟩
  subst hy;have E9:Hid (s.fin x=0):=by show _=_;rw[E4.out];exact hc
  clear hc b9;go_wp2
  exact bodyPost_end (v:=.tuple #[]) (by simp[results,Tryz.results53,go_sem]) rfl ⟨ZG.good E9.out rfl,S9.out.bel⟩
 ·have hn0:=HFR.out.regs.1;obtain⟨n,hn⟩:=Int.eq_ofNat_of_zero_le hn0
  have E2:Hid (s.fin x=Qw (s.handC x.args s.f.results) (Qim s.H s.f.regs)):=by show _=_;rw[HE1.out,if_neg (by omega),if_neg (by omega),QkV hn HFR.out.results.2];rfl
  have hal:x.args.length≤8:=HZ.out.2.2.2.1;obtain⟨pm,cm,hh,a1,c1,a2,c2,a3,c3,aL,cL,R⟩:=S.out.st.read
  obtain⟨-,-,-,-,q4,-⟩:=R.cells
  obtain⟨fa,fc,fb,fd,fe,ff,ecs,-,hres,-,-⟩:=Qac R.fn
  simp only[List.cons.injEq,Value.slice.injEq,and_true,true_and] at ecs
  obtain⟨⟨-,-⟩,⟨rfl,rfl⟩,-⟩:=ecs
  have HRL:=Qa (QL hres).1
  have CH:Hid (Calls Tryz.prog 92 #[.pointer (some ⟨b,0,none⟩),.slice e.pA x.args.length e.cA,.slice a2 s.f.results.length c2] w1.drew fun e w'=>ZG (s.handC x.args s.f.results) VNone e∧Below w1.drew.heap.size w1.drew w') :=
   Qan rfl (by omega) rfl (by have:=HFR.out.results.1;omega) (Lay.below S.out.lists.ar (Qb2 (Below.refl _ _))) HRL.out.drew hL HCV.out (fun k hk=>Nat.lt_of_lt_of_le (HO.out k hk) S.out.bel.size) (S.out.st.below (Qb2 (Below.refl _ _)))
  rw[hop] at x0
  clear HE1 R hres HRL hn hn0;generalize s.f.results.length=nr at q4 CH;generalize x.args.length=na at x8 CH hal;go_upto_region 9 with fail
  go_region_with (go_at_call 92;refine(CH.out).mono ?_;rintro e8 w8 ⟨hq,b8⟩;have S8:=Qa (S.out.below (Zu b8));rcases hq with ⟨hc,y,rfl,hy⟩|⟨hc,rfl⟩;rotate_left;exact⟨rfl,.inr ⟨by rw[E2.out,Qm hc];exact hc,by rw[E2.out,Qm hc]⟩,S8.out.bel⟩;subst hy;have E3:Hid (s.fin x=Qim s.H s.f.regs):=(by show _=_;rw[E2.out,Qz hc]);clear hc b8)
  all_goals
   have CV:=Qa (QgI HJ.out.regs S8.out.st);go_wp2_with fail
   refine CV.out.mono ?_;rintro e9 w9 ⟨hq,b9⟩;have S9:=Qa (S8.out.below b9);rcases hq with ⟨hc,y,rfl,hy⟩|⟨hc,rfl⟩
   rotate_left
   ·exact⟨rfl,.inr ⟨by rw[E3.out];exact hc,by rw[E3.out]⟩,S9.out.bel⟩
   subst hy;have E9:Hid (s.fin x=0):=by show _=_;rw[E3.out];exact hc
   clear hc b9;go_wp2
   exact bodyPost_end (v:=.tuple #[]) (by simp[results,Tryz.results53,go_sem]) rfl ⟨ZG.good E9.out rfl,S9.out.bel⟩
theorem Qcl {w:World}{Fb:Nat}(c:Int) (hF:Blk w Fb #[.int .i64 0] 3) :
 CallsD Tryz.prog 64 #[QjL Fb] (.panicking (Qem c)) w fun e u' w' =>
  e=.returned (.tuple #[])∧u'=.panicking [{ v:=.iface 101 (.int .i64 c),recovered:=true }]∧(Blk w' Fb #[.int .i64 c] 3∧Chg Fb w w'):=by
 have hFl:=hF.lt;have yF0:=Qb hF 0 _ rfl;have zF0:=Qo hF 0;have HF:=Qa hF;refine callsD_of_wpS Tryz.func64 rfl fun c₀ cs hu=>?_;apply wpS_seq
 apply wpS_region
 simp[wpOpsS,go_sem,recoverD,hu,Tryz.ntmps64,Exit.thenS]
 rw[show (#[QjL Fb]++((Array.replicate 15 undef).setIfInBounds 3 (Value.iface 101 (.int .i64 c))).setIfInBounds 0 (Value.iface 101 (.int .i64 c)):Array Value)=#[QjL Fb,Value.iface 101 (.int .i64 c),undef,undef,Value.iface 101 (.int .i64 c),undef,undef,undef,undef,undef,undef,undef,undef,undef,undef,undef] from rfl]
 refine wpS_of_wp ?_;have hta:∀ w:World,(Instr.typeAssert (.iface 101 (.int .i64 c)) 20 101 true).run Tryz.prog w=.ok (.tuple #[.int .i64 c,.bool true]) w:=fun _=>by kernel_rfl
 clear hF;go_wp2
 have D2:Blk (w.setCell ⟨Fb,0,none⟩ (.int .i64 c)) Fb #[.int .i64 c] 3:=by
  have:=Qk HF.out 0 (.int .i64 c)
  simpa using this
 have D3:Chg Fb w (w.setCell ⟨Fb,0,none⟩ (.int .i64 c)):=Chg.set w 0 _ hFl;exact(show bodyPostS _ _ _ _ _ _ _ _ _ from ⟨rfl,_,rfl,.tuple #[],by simp[results,Tryz.results64,go_sem],rfl,rfl,D2,D3⟩)
theorem Qfv {w:World}(Fb:Nat) :
 CallsD Tryz.prog 64 #[QjL Fb] .returning w fun e u' w'=>e=.returned (.tuple #[])∧u'=.returning∧w'=w:=by
 refine callsD_of_wpS Tryz.func64 rfl fun c₀ cs hu=>?_;apply wpS_seq
 apply wpS_region
 simp[wpOpsS,go_sem,recoverD,hu,Tryz.ntmps64,Exit.thenS]
 rw[show (#[QjL Fb]++((Array.replicate 15 undef).setIfInBounds 3 (Value.nilIface)).setIfInBounds 0 (Value.nilIface):Array Value)=#[QjL Fb,Value.nilIface,undef,undef,Value.nilIface,undef,undef,undef,undef,undef,undef,undef,undef,undef,undef,undef] from rfl]
 refine wpS_of_wp ?_;go_wp2_with fail
 cases c₀
 simp_all [bodyPostS,results,Tryz.results64]
def QkG (Fb:Nat) (R1:World→Prop) (R2:Int→World→Prop) (en:Ending) (w2:World):Prop :=
 Blk w2 Fb #[.int .i64 0] 3∧((en=.returned (.tuple #[])∧R1 w2)∨(∃ c,en=.panicked (Qem c)∧R2 c w2))
def Qfx (Fb:Nat) (R1:World→Prop) (R2:Int→World→Prop) (en:Ending) (w':World):Prop :=
 (∃ w2,R1 w2∧en=.returned (.int .i64 0)∧Chg Fb w2 w')∨(∃ w2,∃ c:Int,R2 c w2∧en=.returned (.int .i64 c)∧Chg Fb w2 w')
theorem QcB {w:World}(F:Nat) (caps:Array Value) (hE0:QcU F) (R1:World→Prop) (R2:Int→World→Prop) (WORK:Calls Tryz.prog F caps (w.alloc (.cells #[.int .i64 0] 3)) fun en w2=>QkG w.heap.size R1 R2 en w2) :
 Calls Tryz.prog 33 #[.func (.func F) #[] caps] w fun en w'=>Qfx w.heap.size R1 R2 en w':=by
 have hmf:∀ (fn:Fn) (first cap:Array Value) (w:World),(Instr.makeFunc fn first cap).run Tryz.prog w=.ok (.func fn first cap) w:=fun _ _ _ _=>rfl;have hE:=hE0;unfold QcU at hE;have WK:Hid (Calls Tryz.prog F caps (w.alloc (.cells #[.int .i64 0] 3)) fun en w2=>QkG w.heap.size R1 R2 en w2):=WORK;clear WORK hE0;go_enter_defers Tryz.func33,Tryz.ntmps33
 go_wp2_with fail
 refine WK.out.mono ?_;rintro e' w4 ⟨hF,⟨rfl,hR⟩|⟨c,rfl,hR⟩⟩
 ·have F4:=Qa hF;have yF0:=Qb F4.out 0 _ rfl;have zF0:=Qo F4.out 0;have RR:Hid (R1 w4):=hR;clear hF hR WK hE;go_wp2
  have D2:Blk (w4.setCell ⟨w.heap.size,0,none⟩ (.int .i64 0)) w.heap.size #[.int .i64 0] 3:=by
   have:=Qk F4.out 0 (.int .i64 0)
   simpa using this
  have D3:Chg w.heap.size w4 (w4.setCell ⟨w.heap.size,0,none⟩ (.int .i64 0)):=Chg.set w4 0 _ F4.out.lt;clear yF0 zF0;generalize w4.setCell ⟨w.heap.size,0,none⟩ (.int .i64 0)=w5 at D2 D3 ⊢;refine leaves_cons (f:=64) (args:=#[QjL w.heap.size]) (by simp) (by simp[go_sem]) ?_;refine(Qfv w.heap.size).mono ?_
  rintro e1 u1 w6 ⟨rfl,rfl,rfl⟩;have x1:=Qb D2 0 _ rfl;exact⟨.int .i64 0,by simp[results,Tryz.results33,go_sem,x1],.inl ⟨w4,RR.out,rfl,D3⟩⟩
 ·show bodyPostD _ _ _ _ _ _;refine leaves_cons (f:=64) (args:=#[QjL w.heap.size]) (by simp) (by simp[go_sem]) ?_;refine(Qcl c hF).mono ?_
  rintro e1 u1 w5 ⟨rfl,rfl,d2,d3⟩;have x1:=Qb d2 0 _ rfl;exact⟨.int .i64 c,by simp[results,Tryz.results33,go_sem,x1],.inr ⟨w4,c,hR,rfl,d3⟩⟩
end Go.Proofs.YtacjnejckfhpoaeGreat
namespace Go.Proofs.YtacjnejckfhpoaeGreat
open Go.ChangeShapes Go.WideShapes Go.ChangeAt Go.RowKit
set_option linter.unusedVariables false
def Q7 (op:Int):Value:=match Qv op with
 | some (a,b,c,k,n,rg,ar)=>.tuple #[.agg #[.bool a,.bool b,.bool c,.bool k,.bool n,.bool rg,.bool ar],.bool true]
 | none=>.tuple #[.agg #[.bool false,.bool false,.bool false,.bool false,.bool false,.bool false,.bool false],.bool false]
theorem QfY (op:Int):op=1∨op=2∨op=3∨op=4∨op=5∨op=6∨op=7∨op=8∨op=9∨op=10∨op=11∨op=12∨op=13∨op=14∨(op≠1∧op≠2∧op≠3∧op≠4∧op≠5∧op≠6∧op≠7∧op≠8∧op≠9∧op≠10∧op≠11∧op≠12∧op≠13∧op≠14):=by omega
theorem Qcd (op:Int) (w:World) :
 Calls Tryz.prog 118 #[.int .i64 op] w fun e w'=>e=.returned (Q7 op)∧Below w.heap.size w w':=by
 rcases QfY op with rfl | rfl | rfl | rfl | rfl | rfl | rfl | rfl | rfl | rfl | rfl | rfl | rfl | rfl | ⟨n1,n2,n3,n4,n5,n6,n7,n8,n9,n10,n11,n12,n13,n14⟩
 ·rw[show Q7 1=.tuple #[.agg #[.bool false,.bool false,.bool false,.bool false,.bool true,.bool false,.bool false],.bool true] from rfl]
  go_enter Tryz.func118,Tryz.ntmps118
  go_wp2_with fail
  exact bodyPost_ret (v:=.tuple #[.agg #[.bool false,.bool false,.bool false,.bool false,.bool true,.bool false,.bool false],.bool true]) (by simp[results,Tryz.results118,go_sem]) rfl ⟨rfl,by first | exact(Below.refl _ w).alloc (Nat.le_refl _) _ | (repeat (first | exact(Below.refl _ w).alloc (Nat.le_refl _) _ | refine Below.setCell ?_ (by simp) _))⟩
 ·rw[show Q7 2=.tuple #[.agg #[.bool true,.bool true,.bool false,.bool true,.bool false,.bool false,.bool false],.bool true] from rfl]
  go_enter Tryz.func118,Tryz.ntmps118
  go_wp2_with fail
  exact bodyPost_ret (v:=.tuple #[.agg #[.bool true,.bool true,.bool false,.bool true,.bool false,.bool false,.bool false],.bool true]) (by simp[results,Tryz.results118,go_sem]) rfl ⟨rfl,by first | exact(Below.refl _ w).alloc (Nat.le_refl _) _ | (repeat (first | exact(Below.refl _ w).alloc (Nat.le_refl _) _ | refine Below.setCell ?_ (by simp) _))⟩
 ·rw[show Q7 3=.tuple #[.agg #[.bool false,.bool false,.bool false,.bool false,.bool false,.bool false,.bool false],.bool true] from rfl]
  go_enter Tryz.func118,Tryz.ntmps118
  go_wp2_with fail
  exact bodyPost_ret (v:=.tuple #[.agg #[.bool false,.bool false,.bool false,.bool false,.bool false,.bool false,.bool false],.bool true]) (by simp[results,Tryz.results118,go_sem]) rfl ⟨rfl,by first | exact(Below.refl _ w).alloc (Nat.le_refl _) _ | (repeat (first | exact(Below.refl _ w).alloc (Nat.le_refl _) _ | refine Below.setCell ?_ (by simp) _))⟩
 ·rw[show Q7 4=.tuple #[.agg #[.bool true,.bool false,.bool false,.bool false,.bool false,.bool false,.bool false],.bool true] from rfl]
  go_enter Tryz.func118,Tryz.ntmps118
  go_wp2_with fail
  exact bodyPost_ret (v:=.tuple #[.agg #[.bool true,.bool false,.bool false,.bool false,.bool false,.bool false,.bool false],.bool true]) (by simp[results,Tryz.results118,go_sem]) rfl ⟨rfl,by first | exact(Below.refl _ w).alloc (Nat.le_refl _) _ | (repeat (first | exact(Below.refl _ w).alloc (Nat.le_refl _) _ | refine Below.setCell ?_ (by simp) _))⟩
 ·rw[show Q7 5=.tuple #[.agg #[.bool true,.bool false,.bool false,.bool false,.bool false,.bool false,.bool true],.bool true] from rfl]
  go_enter Tryz.func118,Tryz.ntmps118
  go_wp2_with fail
  exact bodyPost_ret (v:=.tuple #[.agg #[.bool true,.bool false,.bool false,.bool false,.bool false,.bool false,.bool true],.bool true]) (by simp[results,Tryz.results118,go_sem]) rfl ⟨rfl,by first | exact(Below.refl _ w).alloc (Nat.le_refl _) _ | (repeat (first | exact(Below.refl _ w).alloc (Nat.le_refl _) _ | refine Below.setCell ?_ (by simp) _))⟩
 ·rw[show Q7 6=.tuple #[.agg #[.bool true,.bool false,.bool false,.bool true,.bool false,.bool false,.bool false],.bool true] from rfl]
  go_enter Tryz.func118,Tryz.ntmps118
  go_wp2_with fail
  exact bodyPost_ret (v:=.tuple #[.agg #[.bool true,.bool false,.bool false,.bool true,.bool false,.bool false,.bool false],.bool true]) (by simp[results,Tryz.results118,go_sem]) rfl ⟨rfl,by first | exact(Below.refl _ w).alloc (Nat.le_refl _) _ | (repeat (first | exact(Below.refl _ w).alloc (Nat.le_refl _) _ | refine Below.setCell ?_ (by simp) _))⟩
 ·rw[show Q7 7=.tuple #[.agg #[.bool true,.bool true,.bool false,.bool true,.bool false,.bool false,.bool false],.bool true] from rfl]
  go_enter Tryz.func118,Tryz.ntmps118
  go_wp2_with fail
  exact bodyPost_ret (v:=.tuple #[.agg #[.bool true,.bool true,.bool false,.bool true,.bool false,.bool false,.bool false],.bool true]) (by simp[results,Tryz.results118,go_sem]) rfl ⟨rfl,by first | exact(Below.refl _ w).alloc (Nat.le_refl _) _ | (repeat (first | exact(Below.refl _ w).alloc (Nat.le_refl _) _ | refine Below.setCell ?_ (by simp) _))⟩
 ·rw[show Q7 8=.tuple #[.agg #[.bool true,.bool true,.bool false,.bool false,.bool false,.bool false,.bool false],.bool true] from rfl]
  go_enter Tryz.func118,Tryz.ntmps118
  go_wp2_with fail
  exact bodyPost_ret (v:=.tuple #[.agg #[.bool true,.bool true,.bool false,.bool false,.bool false,.bool false,.bool false],.bool true]) (by simp[results,Tryz.results118,go_sem]) rfl ⟨rfl,by first | exact(Below.refl _ w).alloc (Nat.le_refl _) _ | (repeat (first | exact(Below.refl _ w).alloc (Nat.le_refl _) _ | refine Below.setCell ?_ (by simp) _))⟩
 ·rw[show Q7 9=.tuple #[.agg #[.bool true,.bool true,.bool false,.bool false,.bool false,.bool false,.bool false],.bool true] from rfl]
  go_enter Tryz.func118,Tryz.ntmps118
  go_wp2_with fail
  exact bodyPost_ret (v:=.tuple #[.agg #[.bool true,.bool true,.bool false,.bool false,.bool false,.bool false,.bool false],.bool true]) (by simp[results,Tryz.results118,go_sem]) rfl ⟨rfl,by first | exact(Below.refl _ w).alloc (Nat.le_refl _) _ | (repeat (first | exact(Below.refl _ w).alloc (Nat.le_refl _) _ | refine Below.setCell ?_ (by simp) _))⟩
 ·rw[show Q7 10=.tuple #[.agg #[.bool true,.bool true,.bool true,.bool false,.bool false,.bool false,.bool false],.bool true] from rfl]
  go_enter Tryz.func118,Tryz.ntmps118
  go_wp2_with fail
  exact bodyPost_ret (v:=.tuple #[.agg #[.bool true,.bool true,.bool true,.bool false,.bool false,.bool false,.bool false],.bool true]) (by simp[results,Tryz.results118,go_sem]) rfl ⟨rfl,by first | exact(Below.refl _ w).alloc (Nat.le_refl _) _ | (repeat (first | exact(Below.refl _ w).alloc (Nat.le_refl _) _ | refine Below.setCell ?_ (by simp) _))⟩
 ·rw[show Q7 11=.tuple #[.agg #[.bool true,.bool false,.bool false,.bool false,.bool false,.bool false,.bool false],.bool true] from rfl]
  go_enter Tryz.func118,Tryz.ntmps118
  go_wp2_with fail
  exact bodyPost_ret (v:=.tuple #[.agg #[.bool true,.bool false,.bool false,.bool false,.bool false,.bool false,.bool false],.bool true]) (by simp[results,Tryz.results118,go_sem]) rfl ⟨rfl,by first | exact(Below.refl _ w).alloc (Nat.le_refl _) _ | (repeat (first | exact(Below.refl _ w).alloc (Nat.le_refl _) _ | refine Below.setCell ?_ (by simp) _))⟩
 ·rw[show Q7 12=.tuple #[.agg #[.bool false,.bool false,.bool false,.bool false,.bool false,.bool false,.bool false],.bool true] from rfl]
  go_enter Tryz.func118,Tryz.ntmps118
  go_wp2_with fail
  exact bodyPost_ret (v:=.tuple #[.agg #[.bool false,.bool false,.bool false,.bool false,.bool false,.bool false,.bool false],.bool true]) (by simp[results,Tryz.results118,go_sem]) rfl ⟨rfl,by first | exact(Below.refl _ w).alloc (Nat.le_refl _) _ | (repeat (first | exact(Below.refl _ w).alloc (Nat.le_refl _) _ | refine Below.setCell ?_ (by simp) _))⟩
 ·rw[show Q7 13=.tuple #[.agg #[.bool true,.bool false,.bool false,.bool false,.bool false,.bool false,.bool false],.bool true] from rfl]
  go_enter Tryz.func118,Tryz.ntmps118
  go_wp2_with fail
  exact bodyPost_ret (v:=.tuple #[.agg #[.bool true,.bool false,.bool false,.bool false,.bool false,.bool false,.bool false],.bool true]) (by simp[results,Tryz.results118,go_sem]) rfl ⟨rfl,by first | exact(Below.refl _ w).alloc (Nat.le_refl _) _ | (repeat (first | exact(Below.refl _ w).alloc (Nat.le_refl _) _ | refine Below.setCell ?_ (by simp) _))⟩
 ·rw[show Q7 14=.tuple #[.agg #[.bool false,.bool false,.bool false,.bool true,.bool false,.bool true,.bool true],.bool true] from rfl]
  go_enter Tryz.func118,Tryz.ntmps118
  go_wp2_with fail
  exact bodyPost_ret (v:=.tuple #[.agg #[.bool false,.bool false,.bool false,.bool true,.bool false,.bool true,.bool true],.bool true]) (by simp[results,Tryz.results118,go_sem]) rfl ⟨rfl,by first | exact(Below.refl _ w).alloc (Nat.le_refl _) _ | (repeat (first | exact(Below.refl _ w).alloc (Nat.le_refl _) _ | refine Below.setCell ?_ (by simp) _))⟩
 ·rw[show Q7 op=.tuple #[.agg #[.bool false,.bool false,.bool false,.bool false,.bool false,.bool false,.bool false],.bool false] by unfold Q7 Qv;simp[n1,n2,n3,n4,n5,n6,n7,n8,n9,n10,n11,n12,n13,n14]]
  have g1:(op==1)=false:=by simpa using n1
  have g2:(op==2)=false:=by simpa using n2
  have g3:(op==3)=false:=by simpa using n3
  have g4:(op==4)=false:=by simpa using n4
  have g5:(op==5)=false:=by simpa using n5
  have g6:(op==6)=false:=by simpa using n6
  have g7:(op==7)=false:=by simpa using n7
  have g8:(op==8)=false:=by simpa using n8
  have g9:(op==9)=false:=by simpa using n9
  have g10:(op==10)=false:=by simpa using n10
  have g11:(op==11)=false:=by simpa using n11
  have g12:(op==12)=false:=by simpa using n12
  have g13:(op==13)=false:=by simpa using n13
  have g14:(op==14)=false:=by simpa using n14
  clear n1 n2 n3 n4 n5 n6 n7 n8 n9 n10 n11 n12 n13 n14;go_enter Tryz.func118,Tryz.ntmps118
  go_wp2_with fail
  exact bodyPost_ret (v:=.tuple #[.agg #[.bool false,.bool false,.bool false,.bool false,.bool false,.bool false,.bool false],.bool false]) (by simp[results,Tryz.results118,go_sem]) rfl ⟨rfl,by first | exact(Below.refl _ w).alloc (Nat.le_refl _) _ | (repeat (first | exact(Below.refl _ w).alloc (Nat.le_refl _) _ | refine Below.setCell ?_ (by simp) _))⟩
def QM (funcs:Nat) (op a b c k n:Int) (rl al:Nat):Int :=
 match Qv op with
 | none=>3
 | some (fa,fb,fc,fk,fn,fr,fs) =>
   if (!fa&&a != 0)||(!fb&&b != 0)||(!fc&&c != 0)||(!fk&&k != 0)||(!fn&&n != 0)||(!fr&&decide (0<rl))||(!fs&&decide (0<al)) then 4
   else if op=2∧(k<1∨9<k) then 1
   else if op=5∧8<al then 2
   else if (op=6∨op=7)∧(k<0∨7<k) then 1
   else if op=14∧(k<0∨(funcs:Int)≤k) then 1
   else if op=14∧(6<rl∨8<al) then 2
   else 0
theorem Qx.form_eq (funcs:Nat) (x:Qx):x.form funcs=QM funcs x.op x.a x.b x.c x.k x.n x.regs.length x.args.length:=by
 unfold Qx.form Qx.formless QM
 cases Qv x.op with
 | none=>rfl
 | some p=>obtain⟨a,b,c,k,n,r,s⟩:=p;rfl
end Go.Proofs.YtacjnejckfhpoaeGreat
namespace Go.Proofs.YtacjnejckfhpoaeGreat
open Go.ChangeShapes Go.WideShapes Go.ChangeAt Go.RowKit
set_option linter.unusedSimpArgs false
set_option linter.unusedVariables false
def rangeC (x l m:Int):Int:=if x<l∨m<x then 1 else 0
def manyC (len:Nat) (m:Int):Int:=if m<len then 2 else 0
def handedC (r:Nat) (m:Int) (s:Nat):Int:=if manyC r m≠0 then manyC r m else manyC s 8
def Qar (a b c k n:Int) (rl al:Nat):Bool:=a==0&&b==0&&c==0&&k==0&&n==0&&(rl:Int)==0&&(al:Int)==0
def Zq (funcs:Nat) (op k:Int) (rl al:Nat):Int :=
 if op=2 then rangeC k 1 9 else if op=6∨op=7 then rangeC k 0 7 else if op=5 then manyC al 8
 else if op=14 then (if rangeC k 0 ((funcs:Int) - 1)=0 then handedC rl 6 al else rangeC k 0 ((funcs:Int) - 1)) else 0
theorem fb (f:Bool) (a:Int):(!f&&a != 0)=!((bif f then 0 else a)==0):=by cases f<;>simp[bne]
theorem fbn (f:Bool) (l:Nat):(!f&&decide (0<l))=!(((bif f then 0 else l:Nat):Int)==0):=by
 cases f
 ·by_cases h:l=0
  ·simp[h]
  ·have:0<l:=by omega
   simp[this,h]
 ·simp
theorem Qh9 (lm:Nat) (op k:Int) (rl al:Nat):(if op=2∧(k<1∨9<k) then 1
 else if op=5∧8<al then 2
 else if (op=6∨op=7)∧(k<0∨7<k) then 1
 else if op=14∧(k<0∨(lm:Int)≤k) then 1
 else if op=14∧(6<rl∨8<al) then 2
 else 0)=Zq lm op k rl al:=by
 unfold Zq;by_cases h2:op=2
 ·subst h2;simp[rangeC]
 ·by_cases h6:op=6∨op=7
  ·have h5:¬ op=5:=by omega
   have h14:¬ op=14:=by omega
   simp[h2,h5,h6,h14,rangeC]
  ·by_cases h5:op=5
   ·subst h5;simp[manyC];split<;>split<;>omega
   ·by_cases h14:op=14
    ·subst h14;simp[rangeC,handedC,manyC]
     repeat' split
     all_goals omega
    ·simp[h2,h5,h6,h14]
theorem QH {lm:Nat}{op a b c k n:Int}{rl al:Nat}{fa fb' fc fk fn fr fs:Bool}(e:Qv op=some (fa,fb',fc,fk,fn,fr,fs)) :
 QM lm op a b c k n rl al=if Qar (bif fa then 0 else a) (bif fb' then 0 else b) (bif fc then 0 else c) (bif fk then 0 else k) (bif fn then 0 else n) (bif fr then 0 else rl) (bif fs then 0 else al)=true then Zq lm op k rl al else 4:=by
 simp only[QM,e,Qh9]
 rw[fb,fb,fb,fb,fb,fbn,fbn]
 unfold Qar;generalize ((bif fa then 0 else a)==0)=q1;generalize ((bif fb' then 0 else b)==0)=q2;generalize ((bif fc then 0 else c)==0)=q3;generalize ((bif fk then 0 else k)==0)=q4;generalize ((bif fn then 0 else n)==0)=q5;generalize (((bif fr then 0 else rl:Nat):Int)==0)=q6;generalize (((bif fs then 0 else al:Nat):Int)==0)=q7
 cases q1<;>cases q2<;>cases q3<;>cases q4<;>cases q5<;>cases q6<;>cases q7<;>rfl
theorem QfC {f:Nat}{w:World}(h:f<1000000):Rd Tryz.prog 97 #[.int .i64 (f:Int)] w (.int .i64 (10000*(f:Int)+9999)):=by
 unfold Rd;skip
 skip
 go_enter Tryz.func97,Tryz.ntmps97
 go_wp2
 go_ret;refine⟨?_,Below.refl _ _⟩
 show Ending.returned (.int .i64 ((f:Int)*10000+9999))=_;congr 2
 omega
theorem QeB {f b:Nat}{w:World}(h:f<1000000∧b<1000000):Rd Tryz.prog 133 #[.int .i64 (f:Int),.int .i64 (b:Int)] w (.int .i64 (10000*(f:Int)+100*(b:Int)+90)):=by
 unfold Rd;have h1:=h.1;have h2:=h.2;skip
 go_enter Tryz.func133,Tryz.ntmps133
 go_wp2
 go_ret;refine⟨?_,Below.refl _ _⟩
 show Ending.returned (.int .i64 ((f:Int)*10000+(b:Int)*100+90))=_;congr 2
 omega
theorem Qdz {f b:Nat}{w:World}(h:f<1000000∧b<1000000):Rd Tryz.prog 78 #[.int .i64 (f:Int),.int .i64 (b:Int)] w (.int .i64 (10000*(f:Int)+100*(b:Int)+91)):=by
 unfold Rd;have h1:=h.1;have h2:=h.2;skip
 go_enter Tryz.func78,Tryz.ntmps78
 go_wp2
 go_ret;refine⟨?_,Below.refl _ _⟩
 show Ending.returned (.int .i64 ((f:Int)*10000+(b:Int)*100+91))=_;congr 2
 omega
theorem Qdw {f b i:Nat}{w:World}(h:f<1000000∧b<1000000∧i<1000000):Rd Tryz.prog 77 #[.int .i64 (f:Int),.int .i64 (b:Int),.int .i64 (i:Int)] w (.int .i64 (10000*(f:Int)+100*(b:Int)+(i:Int))):=by
 unfold Rd;have h1:=h.1;have h2:=h.2;have h3:=h.2.1;have h4:=h.2.2;go_enter Tryz.func77,Tryz.ntmps77
 go_wp2
 go_ret;refine⟨?_,Below.refl _ _⟩
 show Ending.returned (.int .i64 ((f:Int)*10000+(b:Int)*100+(i:Int)))=_;congr 2
 omega
theorem ZE {x l m:Int}{w:World}:Rd Tryz.prog 105 #[.int .i64 x,.int .i64 l,.int .i64 m] w (.int .i64 (rangeC x l m)):=by
 unfold Rd rangeC;by_cases h1:x<l
 ·rw[if_pos (.inl h1)]
  go_enter Tryz.func105,Tryz.ntmps105
  go_wp2
  go_ret;exact⟨rfl,Below.refl _ _⟩
 ·by_cases h2:m<x
  ·rw[if_pos (.inr h2)]
   go_enter Tryz.func105,Tryz.ntmps105
   go_wp2
   go_ret;exact⟨rfl,Below.refl _ _⟩
  ·rw[if_neg (by omega)]
   go_enter Tryz.func105,Tryz.ntmps105
   go_wp2
   go_ret;exact⟨rfl,Below.refl _ _⟩
theorem QaK {p:Option Addr}{len c:Nat}{m:Int}{w:World}:Rd Tryz.prog 106 #[.slice p len c,.int .i64 m] w (.int .i64 (manyC len m)):=by
 unfold Rd manyC;by_cases h1:m<len
 ·rw[if_pos h1]
  go_enter Tryz.func106,Tryz.ntmps106
  go_wp2
  go_ret;exact⟨rfl,Below.refl _ _⟩
 ·rw[if_neg h1]
  go_enter Tryz.func106,Tryz.ntmps106
  go_wp2
  go_ret;exact⟨rfl,Below.refl _ _⟩
theorem Qa8 {p q:Option Addr}{r c s d:Nat}{m:Int}{w:World}:Rd Tryz.prog 107 #[.slice p r c,.int .i64 m,.slice q s d] w (.int .i64 (handedC r m s)):=by
 have C1:Hid (∀ wx:World,Calls Tryz.prog 106 #[.slice p r c,.int .i64 m] wx fun e w'=>e=.returned (.int .i64 (manyC r m))∧Below wx.heap.size wx w'):=fun wx=>QaK;have C2:Hid (∀ wx:World,Calls Tryz.prog 106 #[.slice q s d,.int .i64 8] wx fun e w'=>e=.returned (.int .i64 (manyC s 8))∧Below wx.heap.size wx w'):=fun wx=>QaK;unfold Rd handedC;by_cases h:manyC r m=0
 ·rw[if_neg (by simpa using h)]
  rw[h] at C1
  go_enter Tryz.func107,Tryz.ntmps107
  go_wp2_with fail
  refine(C1.out w).mono ?_
  rintro e w1 ⟨rfl,b1⟩;have B1:Hid (Below w.heap.size w w1):=b1;clear b1 C1;go_wp2_with fail
  refine(C2.out w1).mono ?_
  rintro e w2 ⟨rfl,b2⟩;have B2:Hid (Below w.heap.size w w2):=B1.out.trans (b2.mono B1.out.size);clear b2 C2 B1;go_wp2
  go_ret;exact⟨rfl,B2.out⟩
 ·rw[if_pos h]
  have h':(manyC r m==0)=false:=by simpa using h
  generalize manyC r m=v at C1 h' h ⊢;go_enter Tryz.func107,Tryz.ntmps107
  go_wp2_with fail
  refine(C1.out w).mono ?_
  rintro e w1 ⟨rfl,b1⟩;have B1:Hid (Below w.heap.size w w1):=b1;clear b1 C1 C2;go_wp2
  go_ret;exact⟨rfl,B1.out⟩
theorem QU {xop:Int}{xa xb xc xk xn:Int}{ra aa:Option Addr}{rl rc al ac:Nat}{w:World}:Rd Tryz.prog 62 #[.agg #[.int .i64 xop,.int .i64 xa,.int .i64 xb,.int .i64 xc,.int .i64 xk,.int .i64 xn,.slice ra rl rc,.slice aa al ac]] w (.bool (Qar xa xb xc xk xn rl al)):=by
 unfold Rd
 ·by_cases h0:xa=0
  ·subst h0
   ·by_cases h1:xb=0
    ·subst h1
     ·by_cases h2:xc=0
      ·subst h2
       ·by_cases h3:xk=0
        ·subst h3
         ·by_cases h4:xn=0
          ·subst h4
           ·by_cases h5:rl=0
            ·subst h5
             ·by_cases h6:al=0
              ·subst h6
               ·rw[show Qar 0 0 0 0 0 0 0=true from rfl]
                go_enter Tryz.func62,Tryz.ntmps62
                go_wp2
                go_ret;exact⟨rfl,QQ _ _⟩
              ·have g6:((al:Int)==0)=false:=by simpa using h6
               rw[show Qar 0 0 0 0 0 0 al=false by simp[Qar,g6]]
               go_enter Tryz.func62,Tryz.ntmps62
               go_wp2
               go_ret;exact⟨rfl,QQ _ _⟩
            ·have g5:((rl:Int)==0)=false:=by simpa using h5
             rw[show Qar 0 0 0 0 0 rl al=false by simp[Qar,g5]]
             go_enter Tryz.func62,Tryz.ntmps62
             go_wp2
             go_ret;exact⟨rfl,QQ _ _⟩
          ·have g4:(xn==0)=false:=by simpa using h4
           rw[show Qar 0 0 0 0 xn rl al=false by simp[Qar,g4]]
           go_enter Tryz.func62,Tryz.ntmps62
           go_wp2
           go_ret;exact⟨rfl,QQ _ _⟩
        ·have g3:(xk==0)=false:=by simpa using h3
         rw[show Qar 0 0 0 xk xn rl al=false by simp[Qar,g3]]
         go_enter Tryz.func62,Tryz.ntmps62
         go_wp2
         go_ret;exact⟨rfl,QQ _ _⟩
      ·have g2:(xc==0)=false:=by simpa using h2
       rw[show Qar 0 0 xc xk xn rl al=false by simp[Qar,g2]]
       go_enter Tryz.func62,Tryz.ntmps62
       go_wp2
       go_ret;exact⟨rfl,QQ _ _⟩
    ·have g1:(xb==0)=false:=by simpa using h1
     rw[show Qar 0 xb xc xk xn rl al=false by simp[Qar,g1]]
     go_enter Tryz.func62,Tryz.ntmps62
     go_wp2
     go_ret;exact⟨rfl,QQ _ _⟩
  ·have g0:(xa==0)=false:=by simpa using h0
   rw[show Qar xa xb xc xk xn rl al=false by simp[Qar,g0]]
   go_enter Tryz.func62,Tryz.ntmps62
   go_wp2
   go_ret;exact⟨rfl,QQ _ _⟩
theorem wf1 {xa xb xc xk xn:Int}{ra aa:Option Addr}{rl rc al ac:Nat}{w:World}:Rd Tryz.prog 61 #[.agg #[.int .i64 1,.int .i64 xa,.int .i64 xb,.int .i64 xc,.int .i64 xk,.int .i64 xn,.slice ra rl rc,.slice aa al ac]] w (.tuple #[.agg #[.int .i64 1,.int .i64 xa,.int .i64 xb,.int .i64 xc,.int .i64 xk,.int .i64 0,.slice ra rl rc,.slice aa al ac],.bool true]):=by
 unfold Rd;go_enter Tryz.func61,Tryz.ntmps61
 go_wp2
 exact bodyPost_ret (v:=.tuple #[.agg #[.int .i64 1,.int .i64 xa,.int .i64 xb,.int .i64 xc,.int .i64 xk,.int .i64 0,.slice ra rl rc,.slice aa al ac],.bool true]) (by simp[results,Tryz.results61,go_sem]) rfl ⟨rfl,Qat _ _ _⟩
theorem wf2 {xa xb xc xk xn:Int}{ra aa:Option Addr}{rl rc al ac:Nat}{w:World}:Rd Tryz.prog 61 #[.agg #[.int .i64 2,.int .i64 xa,.int .i64 xb,.int .i64 xc,.int .i64 xk,.int .i64 xn,.slice ra rl rc,.slice aa al ac]] w (.tuple #[.agg #[.int .i64 2,.int .i64 0,.int .i64 0,.int .i64 xc,.int .i64 0,.int .i64 xn,.slice ra rl rc,.slice aa al ac],.bool true]):=by
 unfold Rd;go_enter Tryz.func61,Tryz.ntmps61
 go_wp2
 exact bodyPost_ret (v:=.tuple #[.agg #[.int .i64 2,.int .i64 0,.int .i64 0,.int .i64 xc,.int .i64 0,.int .i64 xn,.slice ra rl rc,.slice aa al ac],.bool true]) (by simp[results,Tryz.results61,go_sem]) rfl ⟨rfl,Qat _ _ _⟩
theorem wf3 {xa xb xc xk xn:Int}{ra aa:Option Addr}{rl rc al ac:Nat}{w:World}:Rd Tryz.prog 61 #[.agg #[.int .i64 3,.int .i64 xa,.int .i64 xb,.int .i64 xc,.int .i64 xk,.int .i64 xn,.slice ra rl rc,.slice aa al ac]] w (.tuple #[.agg #[.int .i64 3,.int .i64 xa,.int .i64 xb,.int .i64 xc,.int .i64 xk,.int .i64 xn,.slice ra rl rc,.slice aa al ac],.bool true]):=by
 unfold Rd;go_enter Tryz.func61,Tryz.ntmps61
 go_wp2
 exact bodyPost_ret (v:=.tuple #[.agg #[.int .i64 3,.int .i64 xa,.int .i64 xb,.int .i64 xc,.int .i64 xk,.int .i64 xn,.slice ra rl rc,.slice aa al ac],.bool true]) (by simp[results,Tryz.results61,go_sem]) rfl ⟨rfl,Qat _ _ _⟩
theorem wf4 {xa xb xc xk xn:Int}{ra aa:Option Addr}{rl rc al ac:Nat}{w:World}:Rd Tryz.prog 61 #[.agg #[.int .i64 4,.int .i64 xa,.int .i64 xb,.int .i64 xc,.int .i64 xk,.int .i64 xn,.slice ra rl rc,.slice aa al ac]] w (.tuple #[.agg #[.int .i64 4,.int .i64 0,.int .i64 xb,.int .i64 xc,.int .i64 xk,.int .i64 xn,.slice ra rl rc,.slice aa al ac],.bool true]):=by
 unfold Rd;go_enter Tryz.func61,Tryz.ntmps61
 go_wp2
 exact bodyPost_ret (v:=.tuple #[.agg #[.int .i64 4,.int .i64 0,.int .i64 xb,.int .i64 xc,.int .i64 xk,.int .i64 xn,.slice ra rl rc,.slice aa al ac],.bool true]) (by simp[results,Tryz.results61,go_sem]) rfl ⟨rfl,Qat _ _ _⟩
theorem wf5 {xa xb xc xk xn:Int}{ra aa:Option Addr}{rl rc al ac:Nat}{w:World}:Rd Tryz.prog 61 #[.agg #[.int .i64 5,.int .i64 xa,.int .i64 xb,.int .i64 xc,.int .i64 xk,.int .i64 xn,.slice ra rl rc,.slice aa al ac]] w (.tuple #[.agg #[.int .i64 5,.int .i64 0,.int .i64 xb,.int .i64 xc,.int .i64 xk,.int .i64 xn,.slice ra rl rc,.slice none 0 0],.bool true]):=by
 unfold Rd;go_enter Tryz.func61,Tryz.ntmps61
 go_wp2
 exact bodyPost_ret (v:=.tuple #[.agg #[.int .i64 5,.int .i64 0,.int .i64 xb,.int .i64 xc,.int .i64 xk,.int .i64 xn,.slice ra rl rc,.slice none 0 0],.bool true]) (by simp[results,Tryz.results61,go_sem]) rfl ⟨rfl,Qat _ _ _⟩
theorem wf6 {xa xb xc xk xn:Int}{ra aa:Option Addr}{rl rc al ac:Nat}{w:World}:Rd Tryz.prog 61 #[.agg #[.int .i64 6,.int .i64 xa,.int .i64 xb,.int .i64 xc,.int .i64 xk,.int .i64 xn,.slice ra rl rc,.slice aa al ac]] w (.tuple #[.agg #[.int .i64 6,.int .i64 0,.int .i64 xb,.int .i64 xc,.int .i64 0,.int .i64 xn,.slice ra rl rc,.slice aa al ac],.bool true]):=by
 unfold Rd;go_enter Tryz.func61,Tryz.ntmps61
 go_wp2
 exact bodyPost_ret (v:=.tuple #[.agg #[.int .i64 6,.int .i64 0,.int .i64 xb,.int .i64 xc,.int .i64 0,.int .i64 xn,.slice ra rl rc,.slice aa al ac],.bool true]) (by simp[results,Tryz.results61,go_sem]) rfl ⟨rfl,Qat _ _ _⟩
theorem wf7 {xa xb xc xk xn:Int}{ra aa:Option Addr}{rl rc al ac:Nat}{w:World}:Rd Tryz.prog 61 #[.agg #[.int .i64 7,.int .i64 xa,.int .i64 xb,.int .i64 xc,.int .i64 xk,.int .i64 xn,.slice ra rl rc,.slice aa al ac]] w (.tuple #[.agg #[.int .i64 7,.int .i64 0,.int .i64 0,.int .i64 xc,.int .i64 0,.int .i64 xn,.slice ra rl rc,.slice aa al ac],.bool true]):=by
 unfold Rd;go_enter Tryz.func61,Tryz.ntmps61
 go_wp2
 exact bodyPost_ret (v:=.tuple #[.agg #[.int .i64 7,.int .i64 0,.int .i64 0,.int .i64 xc,.int .i64 0,.int .i64 xn,.slice ra rl rc,.slice aa al ac],.bool true]) (by simp[results,Tryz.results61,go_sem]) rfl ⟨rfl,Qat _ _ _⟩
theorem wf8 {xa xb xc xk xn:Int}{ra aa:Option Addr}{rl rc al ac:Nat}{w:World}:Rd Tryz.prog 61 #[.agg #[.int .i64 8,.int .i64 xa,.int .i64 xb,.int .i64 xc,.int .i64 xk,.int .i64 xn,.slice ra rl rc,.slice aa al ac]] w (.tuple #[.agg #[.int .i64 8,.int .i64 0,.int .i64 0,.int .i64 xc,.int .i64 xk,.int .i64 xn,.slice ra rl rc,.slice aa al ac],.bool true]):=by
 unfold Rd;go_enter Tryz.func61,Tryz.ntmps61
 go_wp2
 exact bodyPost_ret (v:=.tuple #[.agg #[.int .i64 8,.int .i64 0,.int .i64 0,.int .i64 xc,.int .i64 xk,.int .i64 xn,.slice ra rl rc,.slice aa al ac],.bool true]) (by simp[results,Tryz.results61,go_sem]) rfl ⟨rfl,Qat _ _ _⟩
theorem wf9 {xa xb xc xk xn:Int}{ra aa:Option Addr}{rl rc al ac:Nat}{w:World}:Rd Tryz.prog 61 #[.agg #[.int .i64 9,.int .i64 xa,.int .i64 xb,.int .i64 xc,.int .i64 xk,.int .i64 xn,.slice ra rl rc,.slice aa al ac]] w (.tuple #[.agg #[.int .i64 9,.int .i64 0,.int .i64 0,.int .i64 xc,.int .i64 xk,.int .i64 xn,.slice ra rl rc,.slice aa al ac],.bool true]):=by
 unfold Rd;go_enter Tryz.func61,Tryz.ntmps61
 go_wp2
 exact bodyPost_ret (v:=.tuple #[.agg #[.int .i64 9,.int .i64 0,.int .i64 0,.int .i64 xc,.int .i64 xk,.int .i64 xn,.slice ra rl rc,.slice aa al ac],.bool true]) (by simp[results,Tryz.results61,go_sem]) rfl ⟨rfl,Qat _ _ _⟩
theorem QlK {xa xb xc xk xn:Int}{ra aa:Option Addr}{rl rc al ac:Nat}{w:World}:Rd Tryz.prog 61 #[.agg #[.int .i64 10,.int .i64 xa,.int .i64 xb,.int .i64 xc,.int .i64 xk,.int .i64 xn,.slice ra rl rc,.slice aa al ac]] w (.tuple #[.agg #[.int .i64 10,.int .i64 0,.int .i64 0,.int .i64 0,.int .i64 xk,.int .i64 xn,.slice ra rl rc,.slice aa al ac],.bool true]):=by
 unfold Rd;go_enter Tryz.func61,Tryz.ntmps61
 go_wp2
 exact bodyPost_ret (v:=.tuple #[.agg #[.int .i64 10,.int .i64 0,.int .i64 0,.int .i64 0,.int .i64 xk,.int .i64 xn,.slice ra rl rc,.slice aa al ac],.bool true]) (by simp[results,Tryz.results61,go_sem]) rfl ⟨rfl,Qat _ _ _⟩
theorem QlG {xa xb xc xk xn:Int}{ra aa:Option Addr}{rl rc al ac:Nat}{w:World}:Rd Tryz.prog 61 #[.agg #[.int .i64 11,.int .i64 xa,.int .i64 xb,.int .i64 xc,.int .i64 xk,.int .i64 xn,.slice ra rl rc,.slice aa al ac]] w (.tuple #[.agg #[.int .i64 11,.int .i64 0,.int .i64 xb,.int .i64 xc,.int .i64 xk,.int .i64 xn,.slice ra rl rc,.slice aa al ac],.bool true]):=by
 unfold Rd;go_enter Tryz.func61,Tryz.ntmps61
 go_wp2
 exact bodyPost_ret (v:=.tuple #[.agg #[.int .i64 11,.int .i64 0,.int .i64 xb,.int .i64 xc,.int .i64 xk,.int .i64 xn,.slice ra rl rc,.slice aa al ac],.bool true]) (by simp[results,Tryz.results61,go_sem]) rfl ⟨rfl,Qat _ _ _⟩
theorem QlU {xa xb xc xk xn:Int}{ra aa:Option Addr}{rl rc al ac:Nat}{w:World}:Rd Tryz.prog 61 #[.agg #[.int .i64 12,.int .i64 xa,.int .i64 xb,.int .i64 xc,.int .i64 xk,.int .i64 xn,.slice ra rl rc,.slice aa al ac]] w (.tuple #[.agg #[.int .i64 12,.int .i64 xa,.int .i64 xb,.int .i64 xc,.int .i64 xk,.int .i64 xn,.slice ra rl rc,.slice aa al ac],.bool true]):=by
 unfold Rd;go_enter Tryz.func61,Tryz.ntmps61
 go_wp2
 exact bodyPost_ret (v:=.tuple #[.agg #[.int .i64 12,.int .i64 xa,.int .i64 xb,.int .i64 xc,.int .i64 xk,.int .i64 xn,.slice ra rl rc,.slice aa al ac],.bool true]) (by simp[results,Tryz.results61,go_sem]) rfl ⟨rfl,Qat _ _ _⟩
theorem QlH {xa xb xc xk xn:Int}{ra aa:Option Addr}{rl rc al ac:Nat}{w:World}:Rd Tryz.prog 61 #[.agg #[.int .i64 13,.int .i64 xa,.int .i64 xb,.int .i64 xc,.int .i64 xk,.int .i64 xn,.slice ra rl rc,.slice aa al ac]] w (.tuple #[.agg #[.int .i64 13,.int .i64 0,.int .i64 xb,.int .i64 xc,.int .i64 xk,.int .i64 xn,.slice ra rl rc,.slice aa al ac],.bool true]):=by
 unfold Rd;go_enter Tryz.func61,Tryz.ntmps61
 go_wp2
 exact bodyPost_ret (v:=.tuple #[.agg #[.int .i64 13,.int .i64 0,.int .i64 xb,.int .i64 xc,.int .i64 xk,.int .i64 xn,.slice ra rl rc,.slice aa al ac],.bool true]) (by simp[results,Tryz.results61,go_sem]) rfl ⟨rfl,Qat _ _ _⟩
theorem QlS {xa xb xc xk xn:Int}{ra aa:Option Addr}{rl rc al ac:Nat}{w:World}:Rd Tryz.prog 61 #[.agg #[.int .i64 14,.int .i64 xa,.int .i64 xb,.int .i64 xc,.int .i64 xk,.int .i64 xn,.slice ra rl rc,.slice aa al ac]] w (.tuple #[.agg #[.int .i64 14,.int .i64 xa,.int .i64 xb,.int .i64 xc,.int .i64 0,.int .i64 xn,.slice none 0 0,.slice none 0 0],.bool true]):=by
 unfold Rd;go_enter Tryz.func61,Tryz.ntmps61
 go_wp2
 exact bodyPost_ret (v:=.tuple #[.agg #[.int .i64 14,.int .i64 xa,.int .i64 xb,.int .i64 xc,.int .i64 0,.int .i64 xn,.slice none 0 0,.slice none 0 0],.bool true]) (by simp[results,Tryz.results61,go_sem]) rfl ⟨rfl,Qat _ _ _⟩
theorem QlX {xop:Int}{xa xb xc xk xn:Int}{ra aa:Option Addr}{rl rc al ac:Nat}{w:World}(h:xop≠1∧xop≠2∧xop≠3∧xop≠4∧xop≠5∧xop≠6∧xop≠7∧xop≠8∧xop≠9∧xop≠10∧xop≠11∧xop≠12∧xop≠13∧xop≠14):Rd Tryz.prog 61 #[.agg #[.int .i64 xop,.int .i64 xa,.int .i64 xb,.int .i64 xc,.int .i64 xk,.int .i64 xn,.slice ra rl rc,.slice aa al ac]] w (.tuple #[.agg #[.int .i64 xop,.int .i64 xa,.int .i64 xb,.int .i64 xc,.int .i64 xk,.int .i64 xn,.slice ra rl rc,.slice aa al ac],.bool false]):=by
 obtain⟨h1,h2,h3,h4,h5,h6,h7,h8,h9,h10,h11,h12,h13,h14⟩:=h
 have g1:(xop==1)=false:=by simpa using h1
 have g2:(xop==2)=false:=by simpa using h2
 have g3:(xop==3)=false:=by simpa using h3
 have g4:(xop==4)=false:=by simpa using h4
 have g5:(xop==5)=false:=by simpa using h5
 have g6:(xop==6)=false:=by simpa using h6
 have g7:(xop==7)=false:=by simpa using h7
 have g8:(xop==8)=false:=by simpa using h8
 have g9:(xop==9)=false:=by simpa using h9
 have g10:(xop==10)=false:=by simpa using h10
 have g11:(xop==11)=false:=by simpa using h11
 have g12:(xop==12)=false:=by simpa using h12
 have g13:(xop==13)=false:=by simpa using h13
 have g14:(xop==14)=false:=by simpa using h14
 unfold Rd;go_enter Tryz.func61,Tryz.ntmps61
 go_wp2
 exact bodyPost_ret (v:=.tuple #[.agg #[.int .i64 xop,.int .i64 xa,.int .i64 xb,.int .i64 xc,.int .i64 xk,.int .i64 xn,.slice ra rl rc,.slice aa al ac],.bool false]) (by simp[results,Tryz.results61,go_sem]) rfl ⟨rfl,Qat _ _ _⟩
theorem Qki {xa xb xc xk xn:Int}{ra aa:Option Addr}{rl rc al ac:Nat}{am:Option Addr}{lm cm:Nat}{w:World}:Rd Tryz.prog 63 #[.agg #[.slice am lm cm],.agg #[.int .i64 2,.int .i64 xa,.int .i64 xb,.int .i64 xc,.int .i64 xk,.int .i64 xn,.slice ra rl rc,.slice aa al ac]] w (.int .i64 (Zq lm 2 xk rl al)):=by
 have C:Hid (∀ wx:World,Calls Tryz.prog 105 #[.int .i64 xk,.int .i64 1,.int .i64 9] wx fun e w'=>e=.returned (.int .i64 (rangeC xk 1 9))∧Below wx.heap.size wx w'):=fun wx=>ZE;rw[show Zq lm 2 xk rl al=rangeC xk 1 9 from rfl]
 generalize rangeC xk 1 9=v at C ⊢;unfold Rd;go_enter Tryz.func63,Tryz.ntmps63
 go_wp2_with fail
 refine(C.out _).mono ?_
 rintro e w2 ⟨rfl,b2⟩;have B2:Hid (Below w.heap.size w w2):=(Qat _ _ _).trans (b2.mono (Qat w _ _).size);clear b2 C;go_wp2
 go_ret;exact⟨rfl,B2.out⟩
theorem Qke {xa xb xc xk xn:Int}{ra aa:Option Addr}{rl rc al ac:Nat}{am:Option Addr}{lm cm:Nat}{w:World}:Rd Tryz.prog 63 #[.agg #[.slice am lm cm],.agg #[.int .i64 6,.int .i64 xa,.int .i64 xb,.int .i64 xc,.int .i64 xk,.int .i64 xn,.slice ra rl rc,.slice aa al ac]] w (.int .i64 (Zq lm 6 xk rl al)):=by
 have C:Hid (∀ wx:World,Calls Tryz.prog 105 #[.int .i64 xk,.int .i64 0,.int .i64 7] wx fun e w'=>e=.returned (.int .i64 (rangeC xk 0 7))∧Below wx.heap.size wx w'):=fun wx=>ZE;rw[show Zq lm 6 xk rl al=rangeC xk 0 7 from rfl]
 generalize rangeC xk 0 7=v at C ⊢;unfold Rd;go_enter Tryz.func63,Tryz.ntmps63
 go_wp2_with fail
 refine(C.out _).mono ?_
 rintro e w2 ⟨rfl,b2⟩;have B2:Hid (Below w.heap.size w w2):=(Qat _ _ _).trans (b2.mono (Qat w _ _).size);clear b2 C;go_wp2
 go_ret;exact⟨rfl,B2.out⟩
theorem Qks {xa xb xc xk xn:Int}{ra aa:Option Addr}{rl rc al ac:Nat}{am:Option Addr}{lm cm:Nat}{w:World}:Rd Tryz.prog 63 #[.agg #[.slice am lm cm],.agg #[.int .i64 7,.int .i64 xa,.int .i64 xb,.int .i64 xc,.int .i64 xk,.int .i64 xn,.slice ra rl rc,.slice aa al ac]] w (.int .i64 (Zq lm 7 xk rl al)):=by
 have C:Hid (∀ wx:World,Calls Tryz.prog 105 #[.int .i64 xk,.int .i64 0,.int .i64 7] wx fun e w'=>e=.returned (.int .i64 (rangeC xk 0 7))∧Below wx.heap.size wx w'):=fun wx=>ZE;rw[show Zq lm 7 xk rl al=rangeC xk 0 7 from rfl]
 generalize rangeC xk 0 7=v at C ⊢;unfold Rd;go_enter Tryz.func63,Tryz.ntmps63
 go_wp2_with fail
 refine(C.out _).mono ?_
 rintro e w2 ⟨rfl,b2⟩;have B2:Hid (Below w.heap.size w w2):=(Qat _ _ _).trans (b2.mono (Qat w _ _).size);clear b2 C;go_wp2
 go_ret;exact⟨rfl,B2.out⟩
theorem Qkw {xa xb xc xk xn:Int}{ra aa:Option Addr}{rl rc al ac:Nat}{am:Option Addr}{lm cm:Nat}{w:World}:Rd Tryz.prog 63 #[.agg #[.slice am lm cm],.agg #[.int .i64 5,.int .i64 xa,.int .i64 xb,.int .i64 xc,.int .i64 xk,.int .i64 xn,.slice ra rl rc,.slice aa al ac]] w (.int .i64 (Zq lm 5 xk rl al)):=by
 have C:Hid (∀ wx:World,Calls Tryz.prog 106 #[.slice aa al ac,.int .i64 8] wx fun e w'=>e=.returned (.int .i64 (manyC al 8))∧Below wx.heap.size wx w'):=fun wx=>QaK;rw[show Zq lm 5 xk rl al=manyC al 8 from rfl]
 generalize manyC al 8=v at C ⊢;unfold Rd;go_enter Tryz.func63,Tryz.ntmps63
 go_wp2_with fail
 refine(C.out _).mono ?_
 rintro e w2 ⟨rfl,b2⟩;have B2:Hid (Below w.heap.size w w2):=(Qat _ _ _).trans (b2.mono (Qat w _ _).size);clear b2 C;go_wp2
 go_ret;exact⟨rfl,B2.out⟩
theorem Qjv {xa xb xc xk xn:Int}{ra aa:Option Addr}{rl rc al ac:Nat}{am:Option Addr}{lm cm:Nat}{w:World}(hlm:lm<2305843009213693952):Rd Tryz.prog 63 #[.agg #[.slice am lm cm],.agg #[.int .i64 14,.int .i64 xa,.int .i64 xb,.int .i64 xc,.int .i64 xk,.int .i64 xn,.slice ra rl rc,.slice aa al ac]] w (.int .i64 (Zq lm 14 xk rl al)):=by
 have C:Hid (∀ wx:World,Calls Tryz.prog 105 #[.int .i64 xk,.int .i64 0,.int .i64 ((lm:Int) - 1)] wx fun e w'=>e=.returned (.int .i64 (rangeC xk 0 ((lm:Int) - 1)))∧Below wx.heap.size wx w'):=fun wx=>ZE;have C2:Hid (∀ wx:World,Calls Tryz.prog 107 #[.slice ra rl rc,.int .i64 6,.slice aa al ac] wx fun e w'=>e=.returned (.int .i64 (handedC rl 6 al))∧Below wx.heap.size wx w'):=fun wx=>Qa8;rw[show Zq lm 14 xk rl al=if rangeC xk 0 ((lm:Int) - 1)=0 then handedC rl 6 al else rangeC xk 0 ((lm:Int) - 1) from rfl]
 generalize rangeC xk 0 ((lm:Int) - 1)=v at C ⊢;generalize handedC rl 6 al=u at C2 ⊢;have X2:Blk ((w.alloc (.cells #[.slice am lm cm] 24)).alloc (.cells #[.int .i64 14,.int .i64 xa,.int .i64 xb,.int .i64 xc,.int .i64 xk,.int .i64 xn,.slice ra rl rc,.slice aa al ac] 46)) (w.heap.size+1) #[.int .i64 14,.int .i64 xa,.int .i64 xb,.int .i64 xc,.int .i64 xk,.int .i64 xn,.slice ra rl rc,.slice aa al ac] 46:=Blk.new2 _ _ _ _;have B1:Hid (Below w.heap.size w ((w.alloc (.cells #[.slice am lm cm] 24)).alloc (.cells #[.int .i64 14,.int .i64 xa,.int .i64 xb,.int .i64 xc,.int .i64 xk,.int .i64 xn,.slice ra rl rc,.slice aa al ac] 46))):=Qat _ _ _;unfold Rd;by_cases hv:v=0
 ·subst hv;rw[if_pos rfl]
  go_enter Tryz.func63,Tryz.ntmps63
  go_wp2_with fail
  generalize ((w.alloc (.cells #[.slice am lm cm] 24)).alloc (.cells #[.int .i64 14,.int .i64 xa,.int .i64 xb,.int .i64 xc,.int .i64 xk,.int .i64 xn,.slice ra rl rc,.slice aa al ac] 46))=w1 at X2 B1 ⊢;refine(C.out _).mono ?_
  rintro e w2 ⟨rfl,b2⟩;have X3:=(b2.block _ (lt_of_block X2)).trans X2;have B2:Hid (Below w.heap.size w w2):=B1.out.trans (b2.mono B1.out.size);have c6:=Qb X3 6 _ rfl;have c7:=Qb X3 7 _ rfl;clear b2 C X2 B1 X3;go_wp2_with fail
  refine(C2.out _).mono ?_
  rintro e w3 ⟨rfl,b3⟩;have B3:Hid (Below w.heap.size w w3):=B2.out.trans (b3.mono B2.out.size);clear b3 C2 B2;go_wp2
  go_ret;exact⟨rfl,B3.out⟩
 ·rw[if_neg hv]
  have hv':(v==0)=false:=by simpa using hv
  go_enter Tryz.func63,Tryz.ntmps63
  go_wp2_with fail
  generalize ((w.alloc (.cells #[.slice am lm cm] 24)).alloc (.cells #[.int .i64 14,.int .i64 xa,.int .i64 xb,.int .i64 xc,.int .i64 xk,.int .i64 xn,.slice ra rl rc,.slice aa al ac] 46))=w1 at X2 B1 ⊢;refine(C.out _).mono ?_
  rintro e w2 ⟨rfl,b2⟩;have B2:Hid (Below w.heap.size w w2):=B1.out.trans (b2.mono B1.out.size);clear b2 C C2 X2 B1;go_wp2
  go_ret;exact⟨rfl,B2.out⟩
theorem ZL {xop:Int}{xa xb xc xk xn:Int}{ra aa:Option Addr}{rl rc al ac:Nat}{am:Option Addr}{lm cm:Nat}{w:World}(h:xop≠2∧xop≠6∧xop≠7∧xop≠5∧xop≠14):Rd Tryz.prog 63 #[.agg #[.slice am lm cm],.agg #[.int .i64 xop,.int .i64 xa,.int .i64 xb,.int .i64 xc,.int .i64 xk,.int .i64 xn,.slice ra rl rc,.slice aa al ac]] w (.int .i64 (Zq lm xop xk rl al)):=by
 obtain⟨h2,h6,h7,h5,h14⟩:=h
 rw[show Zq lm xop xk rl al=0 by simp[Zq,h2,h6,h7,h5,h14]]
 have g2:(xop==2)=false:=by simpa using h2
 have g6:(xop==6)=false:=by simpa using h6
 have g7:(xop==7)=false:=by simpa using h7
 have g5:(xop==5)=false:=by simpa using h5
 have g14:(xop==14)=false:=by simpa using h14
 unfold Rd;go_enter Tryz.func63,Tryz.ntmps63
 go_wp2
 go_ret;exact⟨rfl,Qat _ _ _⟩
theorem Zf {xop:Int}{xa xb xc xk xn:Int}{ra aa:Option Addr}{rl rc al ac:Nat}{ya yb yc yk yn:Int}{yra yaa:Option Addr}{yrl yrc yal yac:Nat}{am:Option Addr}{lm cm:Nat}{w:World}{ok bare:Bool}{v:Int}
 (CW:Hid (∀ wx:World,Calls Tryz.prog 61 #[.agg #[.int .i64 xop,.int .i64 xa,.int .i64 xb,.int .i64 xc,.int .i64 xk,.int .i64 xn,.slice ra rl rc,.slice aa al ac]] wx fun e w'=>e=.returned (.tuple #[.agg #[.int .i64 xop,.int .i64 ya,.int .i64 yb,.int .i64 yc,.int .i64 yk,.int .i64 yn,.slice yra yrl yrc,.slice yaa yal yac],.bool ok])∧Below wx.heap.size wx w'))
 (CB:Hid (∀ wx:World,Calls Tryz.prog 62 #[.agg #[.int .i64 xop,.int .i64 ya,.int .i64 yb,.int .i64 yc,.int .i64 yk,.int .i64 yn,.slice yra yrl yrc,.slice yaa yal yac]] wx fun e w'=>e=.returned (.bool bare)∧Below wx.heap.size wx w'))
 (CD:Hid (∀ wx:World,Calls Tryz.prog 63 #[.agg #[.slice am lm cm],.agg #[.int .i64 xop,.int .i64 xa,.int .i64 xb,.int .i64 xc,.int .i64 xk,.int .i64 xn,.slice ra rl rc,.slice aa al ac]] wx fun e w'=>e=.returned (.int .i64 v)∧Below wx.heap.size wx w')) :
 Rd Tryz.prog 32 #[.agg #[.slice am lm cm],.agg #[.int .i64 xop,.int .i64 xa,.int .i64 xb,.int .i64 xc,.int .i64 xk,.int .i64 xn,.slice ra rl rc,.slice aa al ac]] w (.int .i64 (if ok=false then 3 else if bare=true then v else 4)):=by
 have X1:Blk ((w.alloc (.cells #[.slice am lm cm] 24)).alloc (.cells #[.int .i64 xop,.int .i64 xa,.int .i64 xb,.int .i64 xc,.int .i64 xk,.int .i64 xn,.slice ra rl rc,.slice aa al ac] 46)) w.heap.size #[.slice am lm cm] 24:=Blk.new1 _ _ _ _ _;have X2:Blk ((w.alloc (.cells #[.slice am lm cm] 24)).alloc (.cells #[.int .i64 xop,.int .i64 xa,.int .i64 xb,.int .i64 xc,.int .i64 xk,.int .i64 xn,.slice ra rl rc,.slice aa al ac] 46)) (w.heap.size+1) #[.int .i64 xop,.int .i64 xa,.int .i64 xb,.int .i64 xc,.int .i64 xk,.int .i64 xn,.slice ra rl rc,.slice aa al ac] 46:=Blk.new2 _ _ _ _;have B1:Hid (Below w.heap.size w ((w.alloc (.cells #[.slice am lm cm] 24)).alloc (.cells #[.int .i64 xop,.int .i64 xa,.int .i64 xb,.int .i64 xc,.int .i64 xk,.int .i64 xn,.slice ra rl rc,.slice aa al ac] 46))):=Qat _ _ _;unfold Rd;go_enter Tryz.func32,Tryz.ntmps32
 go_wp2_with fail
 generalize ((w.alloc (.cells #[.slice am lm cm] 24)).alloc (.cells #[.int .i64 xop,.int .i64 xa,.int .i64 xb,.int .i64 xc,.int .i64 xk,.int .i64 xn,.slice ra rl rc,.slice aa al ac] 46))=w1 at X1 X2 B1 ⊢;refine(CW.out _).mono ?_
 rintro e w2 ⟨rfl,b2⟩;replace X1:=(b2.block _ (lt_of_block X1)).trans X1;replace X2:=(b2.block _ (lt_of_block X2)).trans X2;have B2:Hid (Below w.heap.size w w2):=B1.out.trans (b2.mono B1.out.size);clear b2 B1 CW
 cases ok with
 | false =>
   have B3:Hid (Below w.heap.size w (w2.alloc (.cells #[.int .i64 xop,.int .i64 ya,.int .i64 yb,.int .i64 yc,.int .i64 yk,.int .i64 yn,.slice yra yrl yrc,.slice yaa yal yac] 46))):=B2.out.trans ((QQ _ _).mono B2.out.size);clear CB CD X1 X2 B2;go_wp2
   go_ret;exact⟨rfl,B3.out⟩
 | true =>
   replace X1:=((QQ w2 (.cells #[.int .i64 xop,.int .i64 ya,.int .i64 yb,.int .i64 yc,.int .i64 yk,.int .i64 yn,.slice yra yrl yrc,.slice yaa yal yac] 46)).block _ (lt_of_block X1)).trans X1;replace X2:=((QQ w2 (.cells #[.int .i64 xop,.int .i64 ya,.int .i64 yb,.int .i64 yc,.int .i64 yk,.int .i64 yn,.slice yra yrl yrc,.slice yaa yal yac] 46)).block _ (lt_of_block X2)).trans X2;have B3:Hid (Below w.heap.size w (w2.alloc (.cells #[.int .i64 xop,.int .i64 ya,.int .i64 yb,.int .i64 yc,.int .i64 yk,.int .i64 yn,.slice yra yrl yrc,.slice yaa yal yac] 46))):=B2.out.trans ((QQ _ _).mono B2.out.size);go_wp2_with fail
   clear B2;generalize w2.alloc (.cells #[.int .i64 xop,.int .i64 ya,.int .i64 yb,.int .i64 yc,.int .i64 yk,.int .i64 yn,.slice yra yrl yrc,.slice yaa yal yac] 46)=w3 at X1 X2 B3 ⊢;refine(CB.out _).mono ?_
   rintro e w4 ⟨rfl,b4⟩;replace X1:=(b4.block _ (lt_of_block X1)).trans X1;replace X2:=(b4.block _ (lt_of_block X2)).trans X2;have B4:Hid (Below w.heap.size w w4):=B3.out.trans (b4.mono B3.out.size);clear b4 B3 CB
   cases bare with
   | false =>
     clear CD X1 X2;go_wp2
     go_ret;exact⟨rfl,B4.out⟩
   | true =>
     have d:=Qb X1 0 _ rfl;have d0:=Qb X2 0 _ rfl;have d1:=Qb X2 1 _ rfl;have d2:=Qb X2 2 _ rfl;have d3:=Qb X2 3 _ rfl;have d4:=Qb X2 4 _ rfl;have d5:=Qb X2 5 _ rfl;have d6:=Qb X2 6 _ rfl;have d7:=Qb X2 7 _ rfl;clear X1 X2;go_wp2_with fail
     refine(CD.out _).mono ?_
     rintro e w5 ⟨rfl,b5⟩;have B5:Hid (Below w.heap.size w w5):=B4.out.trans (b5.mono B4.out.size);clear b5 B4 CD;go_wp2
     go_ret;exact⟨rfl,B5.out⟩
theorem Qgd (funcs:Nat) (x:Qx) (i:IP) (am:Option Addr) (cm:Nat) (w:World) (hf:funcs<2305843009213693952) :
 Rd Tryz.prog 32 #[.agg #[.slice am funcs cm],.agg #[.int .i64 x.op,.int .i64 x.a,.int .i64 x.b,.int .i64 x.c,.int .i64 x.k,.int .i64 x.n,.slice i.pR x.regs.length i.cR,.slice i.pA x.args.length i.cA]] w (.int .i64 (x.form funcs)):=by
 rw[Qx.form_eq]
 have hno:=QfY x.op;generalize x.op=op at hno ⊢;rcases hno with rfl | rfl | rfl | rfl | rfl | rfl | rfl | rfl | rfl | rfl | rfl | rfl | rfl | rfl | h
 ·rw[QH (show Qv 1=some (false,false,false,false,true,false,false) from rfl)]
  exact Zf (ok:=true) (fun _=>wf1) (fun _=>QU) (fun _=>ZL (by decide))
 ·rw[QH (show Qv 2=some (true,true,false,true,false,false,false) from rfl)]
  exact Zf (ok:=true) (fun _=>wf2) (fun _=>QU) (fun _=>Qki)
 ·rw[QH (show Qv 3=some (false,false,false,false,false,false,false) from rfl)]
  exact Zf (ok:=true) (fun _=>wf3) (fun _=>QU) (fun _=>ZL (by decide))
 ·rw[QH (show Qv 4=some (true,false,false,false,false,false,false) from rfl)]
  exact Zf (ok:=true) (fun _=>wf4) (fun _=>QU) (fun _=>ZL (by decide))
 ·rw[QH (show Qv 5=some (true,false,false,false,false,false,true) from rfl)]
  exact Zf (ok:=true) (fun _=>wf5) (fun _=>QU) (fun _=>Qkw)
 ·rw[QH (show Qv 6=some (true,false,false,true,false,false,false) from rfl)]
  exact Zf (ok:=true) (fun _=>wf6) (fun _=>QU) (fun _=>Qke)
 ·rw[QH (show Qv 7=some (true,true,false,true,false,false,false) from rfl)]
  exact Zf (ok:=true) (fun _=>wf7) (fun _=>QU) (fun _=>Qks)
 ·rw[QH (show Qv 8=some (true,true,false,false,false,false,false) from rfl)]
  exact Zf (ok:=true) (fun _=>wf8) (fun _=>QU) (fun _=>ZL (by decide))
 ·rw[QH (show Qv 9=some (true,true,false,false,false,false,false) from rfl)]
  exact Zf (ok:=true) (fun _=>wf9) (fun _=>QU) (fun _=>ZL (by decide))
 ·rw[QH (show Qv 10=some (true,true,true,false,false,false,false) from rfl)]
  exact Zf (ok:=true) (fun _=>QlK) (fun _=>QU) (fun _=>ZL (by decide))
 ·rw[QH (show Qv 11=some (true,false,false,false,false,false,false) from rfl)]
  exact Zf (ok:=true) (fun _=>QlG) (fun _=>QU) (fun _=>ZL (by decide))
 ·rw[QH (show Qv 12=some (false,false,false,false,false,false,false) from rfl)]
  exact Zf (ok:=true) (fun _=>QlU) (fun _=>QU) (fun _=>ZL (by decide))
 ·rw[QH (show Qv 13=some (true,false,false,false,false,false,false) from rfl)]
  exact Zf (ok:=true) (fun _=>QlH) (fun _=>QU) (fun _=>ZL (by decide))
 ·rw[QH (show Qv 14=some (false,false,false,true,false,true,true) from rfl)]
  exact Zf (ok:=true) (fun _=>QlS) (fun _=>QU) (fun _=>Qjv hf)
 ·have e:Qv op=none:=by
   unfold Qv;obtain⟨h1,h2,h3,h4,h5,h6,h7,h8,h9,h10,h11,h12,h13,h14⟩:=h
   simp[h1,h2,h3,h4,h5,h6,h7,h8,h9,h10,h11,h12,h13,h14]
  rw[show QM funcs op x.a x.b x.c x.k x.n x.regs.length x.args.length=3 by unfold QM;rw[e]]
  exact Zf (ok:=false) (bare:=Qar x.a x.b x.c x.k x.n x.regs.length x.args.length) (fun _=>QlX h) (fun _=>QU) (fun _=>ZL ⟨h.2.1,h.2.2.2.2.2.1,h.2.2.2.2.2.2.1,h.2.2.2.2.1,h.2.2.2.2.2.2.2.2.2.2.2.2.2⟩)
theorem Qiu (x:MTo) (bl:Nat):x.form bl true=if rangeC x.block 0 ((bl:Int) - 1)=0 then handedC x.regs.length 16 x.args.length else rangeC x.block 0 ((bl:Int) - 1):=by
 unfold MTo.form rangeC handedC manyC;simp only[Bool.true_eq_false,if_false]
 repeat' split
 all_goals omega
theorem Qh4 (x:MTo) (bl:Nat):x.form bl false=if x.block=0∧x.regs.length=0∧x.args.length=0 then 0 else 4:=by
 unfold MTo.form;simp only[if_true]
 repeat' split
 all_goals omega
theorem QgY (e:MEnd) (bl:Nat):e.form bl=if e.op<1∨3<e.op then 3 else if (e.op≠2∧e.a≠0)∨(e.op≠3∧0<e.args.length) then 4 else if 8<e.args.length then 2
 else if e.yes.form bl (e.op != 3)=0 then e.no.form bl (e.op==2) else e.yes.form bl (e.op != 3):=by
 unfold MEnd.form;have h1:decide (e.op≠3)=(e.op != 3):=by by_cases h:e.op=3<;>simp[h]
 have h2:decide (e.op=2)=(e.op==2):=by by_cases h:e.op=2<;>simp[h]
 rw[h1,h2]
 by_cases c1:e.op<1∨3<e.op
 ·simp[c1]
 ·rw[if_neg c1,if_neg c1]
  by_cases c2:(e.op≠2∧e.a≠0)∨(e.op≠3∧0<e.args.length)
  ·rw[if_pos c2,if_pos (c2.imp (fun h=>⟨h.2,h.1⟩) (fun h=>⟨h.2,h.1⟩))]
  ·rw[if_neg c2,if_neg (fun h=>c2 (h.imp (fun h=>⟨h.2,h.1⟩) (fun h=>⟨h.2,h.1⟩)))]
   by_cases c3:8<e.args.length
   ·simp[c3]
   ·rw[if_neg c3,if_neg c3]
    by_cases c4:e.yes.form bl (e.op != 3)=0
    ·simp[c4]
    ·simp[c4]
theorem QjV {tb:Int}{pR pA:Option Addr}{n1 cR n2 cA:Nat}{fr:Int}{fp fq fb:Option Addr}{fl fc fm fd bl fe:Nat}{w:World}:Rd Tryz.prog 90 #[.agg #[.int .i64 fr,.slice fp fl fc,.slice fq fm fd,.slice fb bl fe],.agg #[.int .i64 tb,.slice pR n1 cR,.slice pA n2 cA],.bool false] w (.int .i64 (if tb=0∧n1=0∧n2=0 then 0 else 4)):=by
 unfold Rd;by_cases h1:tb=0
 ·subst h1;by_cases h2:n1=0
  ·subst h2;by_cases h3:n2=0
   ·subst h3;rw[if_pos ⟨rfl,rfl,rfl⟩]
    go_enter Tryz.func90,Tryz.ntmps90
    go_wp2
    go_ret;exact⟨rfl,Qat _ _ _⟩
   ·have g:(0:Int)<n2:=by omega
    rw[if_neg (by omega)]
    go_enter Tryz.func90,Tryz.ntmps90
    go_wp2
    go_ret;exact⟨rfl,Qat _ _ _⟩
  ·have g:(0:Int)<n1:=by omega
   rw[if_neg (by omega)]
   go_enter Tryz.func90,Tryz.ntmps90
   go_wp2
   go_ret;exact⟨rfl,Qat _ _ _⟩
 ·have g:(tb==0)=false:=by simpa using h1
  rw[if_neg (by omega)]
  go_enter Tryz.func90,Tryz.ntmps90
  go_wp2
  go_ret;exact⟨rfl,Qat _ _ _⟩
theorem QkB {tb:Int}{pR pA:Option Addr}{n1 cR n2 cA:Nat}{fr:Int}{fp fq fb:Option Addr}{fl fc fm fd bl fe:Nat}{w:World}(hbl:bl<2305843009213693952):Rd Tryz.prog 90 #[.agg #[.int .i64 fr,.slice fp fl fc,.slice fq fm fd,.slice fb bl fe],.agg #[.int .i64 tb,.slice pR n1 cR,.slice pA n2 cA],.bool true] w (.int .i64 (if rangeC tb 0 ((bl:Int) - 1)=0 then handedC n1 16 n2 else rangeC tb 0 ((bl:Int) - 1))):=by
 have C:Hid (∀ wx:World,Calls Tryz.prog 105 #[.int .i64 tb,.int .i64 0,.int .i64 ((bl:Int) - 1)] wx fun e w'=>e=.returned (.int .i64 (rangeC tb 0 ((bl:Int) - 1)))∧Below wx.heap.size wx w'):=fun wx=>ZE;have C2:Hid (∀ wx:World,Calls Tryz.prog 107 #[.slice pR n1 cR,.int .i64 16,.slice pA n2 cA] wx fun e w'=>e=.returned (.int .i64 (handedC n1 16 n2))∧Below wx.heap.size wx w'):=fun wx=>Qa8;generalize rangeC tb 0 ((bl:Int) - 1)=v at C ⊢;generalize handedC n1 16 n2=u at C2 ⊢;have X2:Blk ((w.alloc (.cells #[.int .i64 fr,.slice fp fl fc,.slice fq fm fd,.slice fb bl fe] 40)).alloc (.cells #[.int .i64 tb,.slice pR n1 cR,.slice pA n2 cA] 56)) (w.heap.size+1) #[.int .i64 tb,.slice pR n1 cR,.slice pA n2 cA] 56:=Blk.new2 _ _ _ _;have B1:Hid (Below w.heap.size w ((w.alloc (.cells #[.int .i64 fr,.slice fp fl fc,.slice fq fm fd,.slice fb bl fe] 40)).alloc (.cells #[.int .i64 tb,.slice pR n1 cR,.slice pA n2 cA] 56))):=Qat _ _ _;unfold Rd;by_cases hv:v=0
 ·subst hv;rw[if_pos rfl]
  go_enter Tryz.func90,Tryz.ntmps90
  go_wp2_with fail
  generalize ((w.alloc (.cells #[.int .i64 fr,.slice fp fl fc,.slice fq fm fd,.slice fb bl fe] 40)).alloc (.cells #[.int .i64 tb,.slice pR n1 cR,.slice pA n2 cA] 56))=w1 at X2 B1 ⊢;refine(C.out _).mono ?_
  rintro e w2 ⟨rfl,b2⟩;have X3:=(b2.block _ (lt_of_block X2)).trans X2;have B2:Hid (Below w.heap.size w w2):=B1.out.trans (b2.mono B1.out.size);have c6:=Qb X3 1 _ rfl;have c7:=Qb X3 2 _ rfl;clear b2 C X2 B1 X3;go_wp2_with fail
  refine(C2.out _).mono ?_
  rintro e w3 ⟨rfl,b3⟩;have B3:Hid (Below w.heap.size w w3):=B2.out.trans (b3.mono B2.out.size);clear b3 C2 B2;go_wp2
  go_ret;exact⟨rfl,B3.out⟩
 ·rw[if_neg hv]
  have hv':(v==0)=false:=by simpa using hv
  go_enter Tryz.func90,Tryz.ntmps90
  go_wp2_with fail
  generalize ((w.alloc (.cells #[.int .i64 fr,.slice fp fl fc,.slice fq fm fd,.slice fb bl fe] 40)).alloc (.cells #[.int .i64 tb,.slice pR n1 cR,.slice pA n2 cA] 56))=w1 at X2 B1 ⊢;refine(C.out _).mono ?_
  rintro e w2 ⟨rfl,b2⟩;have B2:Hid (Below w.heap.size w w2):=B1.out.trans (b2.mono B1.out.size);clear b2 C C2 X2 B1;go_wp2
  go_ret;exact⟨rfl,B2.out⟩
theorem Qdu {x:MTo}{pR pA:Option Addr}{cR cA:Nat}{fr:Int}{fp fq fb:Option Addr}{fl fc fm fd bl fe:Nat}(has:Bool){w:World}(hbl:bl<2305843009213693952) :
 Rd Tryz.prog 90 #[.agg #[.int .i64 fr,.slice fp fl fc,.slice fq fm fd,.slice fb bl fe],.agg #[.int .i64 x.block,.slice pR x.regs.length cR,.slice pA x.args.length cA],.bool has] w (.int .i64 (x.form bl has)):=by
 cases has
 ·rw[Qh4];exact QjV
 ·rw[Qiu];exact QkB hbl
theorem QiV {eo ea yb nb:Int}{pyr pya pnr pna pe:Option Addr}{nyr cyr nya cya nnr cnr nna cna ne ce:Nat}{fr:Int}{fp fq fb:Option Addr}{fl fc fm fd bl fe:Nat}{w:World}{vy vn:Int}(h1:¬ (eo<1∨3<eo)) (h2:¬ ((eo≠2∧ea≠0)∨(eo≠3∧0<ne))) (h3:¬ 8<ne)
 (CY:Hid (∀ wx:World,Calls Tryz.prog 90 #[.agg #[.int .i64 fr,.slice fp fl fc,.slice fq fm fd,.slice fb bl fe],.agg #[.int .i64 yb,.slice pyr nyr cyr,.slice pya nya cya],.bool (eo != 3)] wx fun e w'=>e=.returned (.int .i64 vy)∧Below wx.heap.size wx w'))
 (CN:Hid (∀ wx:World,Calls Tryz.prog 90 #[.agg #[.int .i64 fr,.slice fp fl fc,.slice fq fm fd,.slice fb bl fe],.agg #[.int .i64 nb,.slice pnr nnr cnr,.slice pna nna cna],.bool (eo==2)] wx fun e w'=>e=.returned (.int .i64 vn)∧Below wx.heap.size wx w')) :
 Rd Tryz.prog 51 #[.agg #[.int .i64 fr,.slice fp fl fc,.slice fq fm fd,.slice fb bl fe],.agg #[.int .i64 eo,.int .i64 ea,.int .i64 yb,.slice pyr nyr cyr,.slice pya nya cya,.int .i64 nb,.slice pnr nnr cnr,.slice pna nna cna,.slice pe ne ce]] w (.int .i64 (if vy=0 then vn else vy)):=by
 have X1:Blk ((w.alloc (.cells #[.int .i64 fr,.slice fp fl fc,.slice fq fm fd,.slice fb bl fe] 40)).alloc (.cells #[.int .i64 eo,.int .i64 ea,.int .i64 yb,.slice pyr nyr cyr,.slice pya nya cya,.int .i64 nb,.slice pnr nnr cnr,.slice pna nna cna,.slice pe ne ce] 58)) w.heap.size #[.int .i64 fr,.slice fp fl fc,.slice fq fm fd,.slice fb bl fe] 40:=Blk.new1 _ _ _ _ _;have X2:Blk ((w.alloc (.cells #[.int .i64 fr,.slice fp fl fc,.slice fq fm fd,.slice fb bl fe] 40)).alloc (.cells #[.int .i64 eo,.int .i64 ea,.int .i64 yb,.slice pyr nyr cyr,.slice pya nya cya,.int .i64 nb,.slice pnr nnr cnr,.slice pna nna cna,.slice pe ne ce] 58)) (w.heap.size+1) #[.int .i64 eo,.int .i64 ea,.int .i64 yb,.slice pyr nyr cyr,.slice pya nya cya,.int .i64 nb,.slice pnr nnr cnr,.slice pna nna cna,.slice pe ne ce] 58:=Blk.new2 _ _ _ _;have B1:Hid (Below w.heap.size w ((w.alloc (.cells #[.int .i64 fr,.slice fp fl fc,.slice fq fm fd,.slice fb bl fe] 40)).alloc (.cells #[.int .i64 eo,.int .i64 ea,.int .i64 yb,.slice pyr nyr cyr,.slice pya nya cya,.int .i64 nb,.slice pnr nnr cnr,.slice pna nna cna,.slice pe ne ce] 58))):=Qat _ _ _;unfold Rd;have key:∀ {o:Int},eo=o→¬ (o≠2∧ea≠0)→¬ (o≠3∧0<ne)→(o=1∨o=2∨o=3):=fun h _ _=>by omega
 rcases (show eo=1∨eo=2∨eo=3 by omega) with rfl | rfl | rfl
 ·obtain rfl:ea=0:=by omega
  obtain rfl:ne=0:=by omega
  clear h1 h2 h3 key;go_enter Tryz.func51,Tryz.ntmps51
  go_wp2_with fail
  generalize ((w.alloc (.cells #[.int .i64 fr,.slice fp fl fc,.slice fq fm fd,.slice fb bl fe] 40)).alloc (.cells #[.int .i64 1,.int .i64 0,.int .i64 yb,.slice pyr nyr cyr,.slice pya nya cya,.int .i64 nb,.slice pnr nnr cnr,.slice pna nna cna,.slice pe 0 ce] 58))=w1 at X1 X2 B1 ⊢;refine(CY.out _).mono ?_
  rintro e w2 ⟨rfl,b2⟩;replace X1:=(b2.block _ (lt_of_block X1)).trans X1;replace X2:=(b2.block _ (lt_of_block X2)).trans X2;have B2:Hid (Below w.heap.size w w2):=B1.out.trans (b2.mono B1.out.size);clear b2 CY B1;by_cases hv:vy=0
  ·subst hv;have c0:=Qb X1 0 _ rfl;have c1:=Qb X1 1 _ rfl;have c2:=Qb X1 2 _ rfl;have c3:=Qb X1 3 _ rfl;have d0:=Qb X2 0 _ rfl;have d5:=Qb X2 5 _ rfl;have d6:=Qb X2 6 _ rfl;have d7:=Qb X2 7 _ rfl;clear X1 X2;go_wp2_with fail
   refine(CN.out _).mono ?_
   rintro e w3 ⟨rfl,b3⟩;have B3:Hid (Below w.heap.size w w3):=B2.out.trans (b3.mono B2.out.size);clear b3 CN B2;go_wp2
   go_ret;exact⟨rfl,B3.out⟩
  ·have hv':(vy==0)=false:=by simpa using hv
   clear CN X1 X2;go_wp2
   go_ret;exact⟨rfl,B2.out⟩
 ·obtain rfl:ne=0:=by omega
  clear h1 h2 h3 key;go_enter Tryz.func51,Tryz.ntmps51
  go_wp2_with fail
  generalize ((w.alloc (.cells #[.int .i64 fr,.slice fp fl fc,.slice fq fm fd,.slice fb bl fe] 40)).alloc (.cells #[.int .i64 2,.int .i64 ea,.int .i64 yb,.slice pyr nyr cyr,.slice pya nya cya,.int .i64 nb,.slice pnr nnr cnr,.slice pna nna cna,.slice pe 0 ce] 58))=w1 at X1 X2 B1 ⊢;refine(CY.out _).mono ?_
  rintro e w2 ⟨rfl,b2⟩;replace X1:=(b2.block _ (lt_of_block X1)).trans X1;replace X2:=(b2.block _ (lt_of_block X2)).trans X2;have B2:Hid (Below w.heap.size w w2):=B1.out.trans (b2.mono B1.out.size);clear b2 CY B1;by_cases hv:vy=0
  ·subst hv;have c0:=Qb X1 0 _ rfl;have c1:=Qb X1 1 _ rfl;have c2:=Qb X1 2 _ rfl;have c3:=Qb X1 3 _ rfl;have d0:=Qb X2 0 _ rfl;have d5:=Qb X2 5 _ rfl;have d6:=Qb X2 6 _ rfl;have d7:=Qb X2 7 _ rfl;clear X1 X2;go_wp2_with fail
   refine(CN.out _).mono ?_
   rintro e w3 ⟨rfl,b3⟩;have B3:Hid (Below w.heap.size w w3):=B2.out.trans (b3.mono B2.out.size);clear b3 CN B2;go_wp2
   go_ret;exact⟨rfl,B3.out⟩
  ·have hv':(vy==0)=false:=by simpa using hv
   clear CN X1 X2;go_wp2
   go_ret;exact⟨rfl,B2.out⟩
 ·obtain rfl:ea=0:=by omega
  have g8:¬ (8:Int)<ne:=by omega
  clear h1 h2 h3 key;go_enter Tryz.func51,Tryz.ntmps51
  go_wp2_with fail
  generalize ((w.alloc (.cells #[.int .i64 fr,.slice fp fl fc,.slice fq fm fd,.slice fb bl fe] 40)).alloc (.cells #[.int .i64 3,.int .i64 0,.int .i64 yb,.slice pyr nyr cyr,.slice pya nya cya,.int .i64 nb,.slice pnr nnr cnr,.slice pna nna cna,.slice pe ne ce] 58))=w1 at X1 X2 B1 ⊢;refine(CY.out _).mono ?_
  rintro e w2 ⟨rfl,b2⟩;replace X1:=(b2.block _ (lt_of_block X1)).trans X1;replace X2:=(b2.block _ (lt_of_block X2)).trans X2;have B2:Hid (Below w.heap.size w w2):=B1.out.trans (b2.mono B1.out.size);clear b2 CY B1;by_cases hv:vy=0
  ·subst hv;have c0:=Qb X1 0 _ rfl;have c1:=Qb X1 1 _ rfl;have c2:=Qb X1 2 _ rfl;have c3:=Qb X1 3 _ rfl;have d0:=Qb X2 0 _ rfl;have d5:=Qb X2 5 _ rfl;have d6:=Qb X2 6 _ rfl;have d7:=Qb X2 7 _ rfl;clear X1 X2;go_wp2_with fail
   refine(CN.out _).mono ?_
   rintro e w3 ⟨rfl,b3⟩;have B3:Hid (Below w.heap.size w w3):=B2.out.trans (b3.mono B2.out.size);clear b3 CN B2;go_wp2
   go_ret;exact⟨rfl,B3.out⟩
  ·have hv':(vy==0)=false:=by simpa using hv
   clear CN X1 X2;go_wp2
   go_ret;exact⟨rfl,B2.out⟩
theorem Qe8 {eo ea yb nb:Int}{pyr pya pnr pna pe:Option Addr}{nyr cyr nya cya nnr cnr nna cna ne ce:Nat}{fr:Int}{fp fq fb:Option Addr}{fl fc fm fd bl fe:Nat}{w:World}{v:Int}(h:(v=3∧(eo<1∨3<eo))∨(v=4∧¬ (eo<1∨3<eo)∧((eo≠2∧ea≠0)∨(eo≠3∧0<ne)))∨(v=2∧¬ (eo<1∨3<eo)∧¬ ((eo≠2∧ea≠0)∨(eo≠3∧0<ne))∧8<ne)) :
 Rd Tryz.prog 51 #[.agg #[.int .i64 fr,.slice fp fl fc,.slice fq fm fd,.slice fb bl fe],.agg #[.int .i64 eo,.int .i64 ea,.int .i64 yb,.slice pyr nyr cyr,.slice pya nya cya,.int .i64 nb,.slice pnr nnr cnr,.slice pna nna cna,.slice pe ne ce]] w (.int .i64 v):=by
 unfold Rd;rcases h with ⟨rfl,h | h⟩|⟨rfl,h1,h⟩|⟨rfl,h1,h2,h3⟩
 ·go_enter Tryz.func51,Tryz.ntmps51
  go_wp2
  go_ret;exact⟨rfl,Qat _ _ _⟩
 ·have g:¬ eo<1:=by omega
  go_enter Tryz.func51,Tryz.ntmps51
  go_wp2
  go_ret;exact⟨rfl,Qat _ _ _⟩
 ·rcases (show eo=1∨eo=2∨eo=3 by omega) with rfl | rfl | rfl
  ·by_cases ha:ea=0
   ·subst ha;have g:(0:Int)<ne:=by omega
    clear h h1;go_enter Tryz.func51,Tryz.ntmps51
    go_wp2
    go_ret;exact⟨rfl,Qat _ _ _⟩
   ·have g:(ea==0)=false:=by simpa using ha
    clear h h1;go_enter Tryz.func51,Tryz.ntmps51
    go_wp2
    go_ret;exact⟨rfl,Qat _ _ _⟩
  ·have g:(0:Int)<ne:=by omega
   clear h h1;go_enter Tryz.func51,Tryz.ntmps51
   go_wp2
   go_ret;exact⟨rfl,Qat _ _ _⟩
  ·have g:(ea==0)=false:=by simp;omega
   clear h h1;go_enter Tryz.func51,Tryz.ntmps51
   go_wp2
   go_ret;exact⟨rfl,Qat _ _ _⟩
 ·obtain rfl:eo=3:=by omega
  obtain rfl:ea=0:=by omega
  have g:(8:Int)<ne:=by omega
  clear h1 h2 h3;go_enter Tryz.func51,Tryz.ntmps51
  go_wp2
  go_ret;exact⟨rfl,Qat _ _ _⟩
theorem Qga {x:MEnd}{e:EP}{fr:Int}{fp fq fb:Option Addr}{fl fc fm fd bl fe:Nat}{w:World}(hs:x.yes.regs.length<2305843009213693952∧x.yes.args.length<2305843009213693952∧x.no.regs.length<2305843009213693952∧x.no.args.length<2305843009213693952) (hbl:bl<2305843009213693952):Rd Tryz.prog 51 #[.agg #[.int .i64 fr,.slice fp fl fc,.slice fq fm fd,.slice fb bl fe],.agg #[.int .i64 x.op,.int .i64 x.a,.int .i64 x.yes.block,.slice e.pYR x.yes.regs.length e.cYR,.slice e.pYA x.yes.args.length e.cYA,.int .i64 x.no.block,.slice e.pNR x.no.regs.length e.cNR,.slice e.pNA x.no.args.length e.cNA,.slice e.pA x.args.length e.cA]] w (.int .i64 (x.form bl)):=by
 rw[QgY]
 by_cases c1:x.op<1∨3<x.op
 ·rw[if_pos c1];exact Qe8 (.inl ⟨rfl,c1⟩)
 rw[if_neg c1]
 by_cases c2:(x.op≠2∧x.a≠0)∨(x.op≠3∧0<x.args.length)
 ·rw[if_pos c2];exact Qe8 (.inr (.inl ⟨rfl,c1,c2⟩))
 rw[if_neg c2]
 by_cases c3:8<x.args.length
 ·rw[if_pos c3];exact Qe8 (.inr (.inr ⟨rfl,c1,c2,c3⟩))
 rw[if_neg c3]
 exact QiV c1 c2 c3 (fun _=>Qdu _ hbl) (fun _=>Qdu _ hbl)
end Go.Proofs.YtacjnejckfhpoaeGreat
