import Derived.Test.YtalfbnllodhkiacGreatDoorP1
import Derived.Shelf.Strconv.Itoa4
import Derived.Shelf.Strconv.Clone
import Derived.Shelf.Strconv.ErrVarParseInt
set_option maxHeartbeats 16000000
set_option maxRecDepth 100000
namespace Go.Proofs.YtalfbnllodhkiacGreatDoor
open Go.RowKit
set_option linter.unusedSimpArgs false
set_option linter.unusedVariables false
theorem wp_puts {P : Program} {c : Code} {a : Act} {w : World} {Q : Exit → Act → World → Prop} (ds : List Tmp) (V : (Tmp → Value) → World → Prop)
    (h:Code.wp P c (fun e a' w'=>e=.normal∧∃ vs,a'=puts a vs ds∧V vs w') a w) (k:∀ vs w',V vs w'→Q .normal (puts a vs ds) w'):Code.wp P c Q a w:=by
  refine Code.wp_mono ?_ h;rintro e a' w' ⟨rfl,vs,rfl,hv⟩;exact k vs w' hv
section
variable (E : Tmp → Value → World → Prop) (W : (Nat → Bool) → World → Prop) (R : World → World → Prop) (P : Program) (l : List Oper)
def StepOnS (i : Nat) (o : Oper) : Prop :=
  ∀ (S:Nat→Bool) a w,S i=false→Deps o S→Closed l S→W S w→Known E a w (opTmps o)→∀ K:Act→World→Prop,(∀ v w',R w w'→W (plus i S) w'→EO E o.dst v w'→K (a.put o.dst v) w')→o.wp P a w K (fun _ _ _=>False)
def StepOffS (i : Nat) (o : Oper) : Prop := ∀ (S : Nat → Bool) w, S i = false → Deps o S → Closed l S → W S w → W (plus i S) w ∧ EO E o.dst undef w
def AllOkS : Nat → List Oper → List Bool → Prop
  | i,o::r,true::bs=>StepOnS E W R P l i o∧AllOkS (i+1) r bs
  | i,o::r,false::bs=>StepOffS E W l i o∧AllOkS (i+1) r bs
  | _,_,_=>True
def GuardOkS (ops : Array Oper) : List (Nat × Option Bool) → Prop
  | []=>True
  | (g,c)::r=>(∀ t,(ops[g]?).bind (·.dst)=some t→∀ v w,E t v w→match c with | some b=>v=.bool b | none=>v=undef)∧GuardOkS ops r
structure CalmS (outs : List Tmp) (a0 : Act) (listed : Array Bool) (a : Act) (w : World) : Prop where
  world:W (fun j=>listed.getD j false) w
  closed:Closed l (fun j=>listed.getD j false)
  defers:a.defers=a0.defers
  size:a.tmps.size=a0.tmps.size
  outer:∀ t,t ∉ dstsOf l→a.tmps[t]?=a0.tmps[t]?
  outs:∀ t∈outs,t ∉ dstsOf l→E t (a.tmps.getD t undef) w
  known:∀ j o t,l[j]?=some o→o.dst=some t→listed.getD j false=true→E t (a.tmps.getD t undef) w
end
section
variable {P : Program} {E : Tmp → Value → World → Prop} {W : (Nat → Bool) → World → Prop} {R : World → World → Prop}
theorem guardS_mem {ops : Array Oper} : ∀ (gs : List (Nat × Option Bool)), GuardOkS E ops gs → ∀ g c, gs.lookup g = some c → ∀ t, (ops[g]?).bind (·.dst) = some t → ∀ v w, E t v w → match c with | some b => v = .bool b | none => v = undef
  | [],_,_,_,h=>by simp at h
  | (g',c')::r,h,g,c,hl=>by
    by_cases e:g=g'
    · subst e;simp at hl;subst hl;exact h.1
    · have e':(g==g')=false:=by simpa using e
      simp [List.lookup_cons,e'] at hl;exact guardS_mem r h.2 g c hl
theorem allS_at {l0 : List Oper} (gs : List (Nat × Option Bool)) : ∀ (l : List Oper) (k : Nat) (bs : List Bool), onsB gs l bs = true → AllOkS E W R P l0 k l bs → ∀ (i : Nat) (o : Oper), l[i]? = some o → (onB gs o true = true ∧ StepOnS E W R P l0 (k + i) o) ∨ (onB gs o false = true ∧ StepOffS E W l0 (k + i) o)
  | [],_,_,_,_,_,_,h=>by simp at h
  | _::_,_,[],h,_,_,_,_=>by simp [onsB] at h
  | x::l,k,b::bs,h,ha,i,o,ho=>by
    simp only [onsB,Bool.and_eq_true] at h
    cases i with
    | zero =>
      simp at ho;subst ho
      cases b with
      | true=>exact .inl ⟨h.1,ha.1⟩
      | false=>exact .inr ⟨h.1,ha.1⟩
    | succ i =>
      simp at ho
      have e:k+(i+1)=k+1+i:=by omega
      rw [e]
      cases b with
      | true=>exact allS_at gs l (k+1) bs h.2 ha.2 i o ho
      | false=>exact allS_at gs l (k+1) bs h.2 ha.2 i o ho
theorem wpAny_stage {l : List Oper} {outs : List Tmp} {gs : List (Nat × Option Bool)} {bs : List Bool} {a0 : Act} {Q : Exit → Act → World → Prop}
    (hB:calmB l a0.tmps.size outs gs bs=true) (hR:∀ t v w w',R w w'→E t v w→E t v w') (hG:GuardOkS E l.toArray gs) (hA:AllOkS E W R P l 0 l bs)
    (hend:∀ (vs:Tmp→Value) (S:Nat→Bool) w',(∀ j,j<l.length→S j=true)→W S w'→(∀ t,(dstsOf l).contains t=true→E t (vs t) w')→Q .normal (puts a0 vs (dstsOf l)) w') :
    ∀ (fuel:Nat) (listed:Array Bool) (a:Act) (w:World),listed.size=l.length→(listed.toList.filter (·==false)).length≤fuel→CalmS E W l outs a0 listed a w →
      wpAny P .any l.toArray Q fuel listed a w:=by
  simp only [calmB,Bool.and_eq_true] at hB;obtain ⟨⟨⟨⟨⟨hgd,hnd⟩,hsz⟩,hlk⟩,hon⟩,hbk⟩:=hB
  have fin:∀ (listed:Array Bool) (a:Act) (w:World),listed.size=l.length→Region.ready .any l.toArray listed=[]→CalmS E W l outs a0 listed a w→Q .normal a w:=by
    intro listed a w hs hr hc
    have hall:∀ j,j<l.length→listed.getD j false=true:=by
      intro j
      induction j using Nat.strongRecOn with
      | _ j ih =>
        intro hj
        cases hb:listed.getD j false with
        | true=>rfl
        | false =>
          exfalso
          have:j∈Region.ready .any l.toArray listed:=by
            unfold Region.ready;refine List.mem_filter.2 ⟨by simpa using hj,?_⟩
            have e1:listed.getD j true=false:=by
              have hj':j<listed.size:=by omega
              simp [Array.getD,hj'] at hb ⊢;exact hb
            have e2:l.toArray[j]?=some l[j]:=by simp [hj]
            rw [e1,e2];simp only [Bool.not_false,Bool.true_and,Option.map_some,Option.getD_some];rw [Array.all_eq_true_iff_forall_mem];intro e he
            cases hbd:Region.binds .any e with
            | false=>rfl
            | true =>
              have:=back_at l 0 j l[j] hbk (by simp [hj]) e he hbd
              simp only [Bool.not_true,Bool.false_or];exact ih e.on (by omega) (by omega)
          rw [hr] at this
          cases this
    have hmem:∀ t∈dstsOf l,E t (a.tmps.getD t undef) w∧t<a0.tmps.size:=by
      intro t ht;obtain ⟨o,ho,hd⟩:=List.mem_filterMap.1 ht;obtain ⟨j,hj⟩:=List.getElem?_of_mem ho
      have hlt:j<l.length:=by
        rcases Nat.lt_or_ge j l.length with h | h
        · exact h
        · rw [List.getElem?_eq_none h] at hj;cases hj
      exact ⟨hc.known j o t hj hd (hall j hlt),by simpa using List.all_eq_true.1 hsz t ht⟩
    have he:a=puts a0 (fun t=>a.tmps.getD t undef) (dstsOf l):=by
      have e1:a.tmps=(puts a0 (fun t=>a.tmps.getD t undef) (dstsOf l)).tmps:=by
        refine Array.ext (by rw [puts_size,hc.size]) fun t h1 h2=>?_;have h3:t<a0.tmps.size:=by rw [← hc.size];exact h1
        have:=puts_at (fun t=>a.tmps.getD t undef) (dstsOf l) a0 t h3
        rw [Array.getElem?_eq_getElem h2] at this;by_cases hm:t∈dstsOf l
        · rw [if_pos hm] at this;simp only [Option.some.injEq] at this;rw [this];simp [Array.getD,h1]
        · rw [if_neg hm,← hc.outer t hm,Array.getElem?_eq_getElem h1] at this;exact (Option.some.inj this).symm
      have e2:a.defers=(puts a0 (fun t=>a.tmps.getD t undef) (dstsOf l)).defers:=by rw [puts_defers,hc.defers]
      cases a with
      | mk t d =>
        simp only at e1 e2
        generalize hp:puts a0 (fun x=>t.getD x undef) (dstsOf l)=p at e1 e2 ⊢
        cases p;simp only at e1 e2;rw [e1,e2]
    rw [he];exact hend _ _ _ hall hc.world fun t ht=>(hmem t (by simpa using ht)).1
  intro fuel
  induction fuel with
  | zero =>
    intro listed a w hs hf hc
    have hr:Region.ready .any l.toArray listed=[]:=by
      rw [List.eq_nil_iff_forall_not_mem];intro i hi;obtain ⟨h1,h2⟩:=List.mem_filter.1 hi;have hlt:i<l.length:=by simpa using h1
      simp only [Bool.and_eq_true,Bool.not_eq_true'] at h2
      have:listed[i]'(by omega)=false:=by
        have:=h2.1;simp [Array.getD,show i<listed.size by omega] at this;exact this
      have hm:false∈listed.toList.filter (·==false):=List.mem_filter.2 ⟨by rw [← this];simp,by simp⟩
      have:=List.length_pos_of_mem hm
      omega
    exact ⟨hr,fin listed a w hs hr hc⟩
  | succ fuel ih =>
    intro listed a w hs hf hc;refine ⟨fun hr=>fin listed a w hs hr hc,fun i hi=>?_⟩;obtain ⟨h1,h2⟩:=List.mem_filter.1 hi;have hlt:i<l.length:=by simpa using h1
    simp only [Bool.and_eq_true,Bool.not_eq_true'] at h2;obtain ⟨hun,hdone⟩:=h2;have hil:i<listed.size:=by omega
    have hun':listed[i]=false:=by simp [Array.getD,hil] at hun;exact hun
    have ho:l.toArray[i]?=some l[i]:=by simp [hlt]
    have ho':l[i]?=some l[i]:=by simp [hlt]
    generalize hoo:l[i]=o at ho ho';rw [ho] at hdone;simp only [Option.map_some,Option.getD_some] at hdone;rw [Array.all_eq_true_iff_forall_mem] at hdone
    have hlooks:∀ t∈o.looksAt l.toArray,E t (a.tmps.getD t undef) w:=by
      intro t ht
      have:=List.all_eq_true.1 (List.all_eq_true.1 hlk o (List.mem_of_getElem? ho')) t ht
      rw [Bool.or_eq_true] at this;rcases this with h | h
      · simp only [Bool.and_eq_true,Bool.not_eq_true'] at h;exact hc.outs t (by simpa using h.1) (by simpa using h.2)
      · obtain ⟨k,hk,h⟩:=Array.any_eq_true.1 h;simp only [Bool.and_eq_true,beq_iff_eq] at h;obtain ⟨hb,hd⟩:=h;have hl:=hdone _ (Array.getElem_mem hk);rw [hb] at hl;simp only [Bool.not_true,Bool.false_or] at hl;generalize o.after[k]=e at *;obtain ⟨oj,hoj,hdj⟩:=Option.bind_eq_some_iff.1 hd;exact hc.known e.on oj t (by simpa using hoj) hdj hl
    have hkn:Known E a w (opTmps o):=known_of _ fun t ht=>hlooks t (by
      unfold Oper.looksAt;exact List.mem_append_left _ ht)
    have hw:∀ b,onB gs o b=true→Region.wanted o (yielded l.toArray a.tmps)=b:=by
      intro b hb;unfold onB at hb;unfold Region.wanted
      cases hg:o.guard with
      | none=>rw [hg] at hb;simp only at hb ⊢;exact hb.symm
      | some gw =>
        obtain ⟨g,want⟩:=gw;rw [hg] at hb;simp only at hb ⊢
        cases hl:gs.lookup g with
        | none=>rw [hl] at hb;cases hb
        | some c =>
          rw [hl] at hb;simp only [beq_iff_eq] at hb
          have hy:yielded l.toArray a.tmps g=c:=by
            unfold yielded;have hmg:(g,c)∈gs:=mem_of_lookup gs g c hl;have hsome:=List.all_eq_true.1 hgd _ hmg
            cases hd:(l.toArray[g]?).bind (·.dst) with
            | none=>rw [hd] at hsome;cases hsome
            | some t =>
              have hE:=hlooks t (by unfold Oper.looksAt;rw [hg];simp only [hd];simp);have hv:=guardS_mem gs hG g c hl t hd _ _ hE;obtain ⟨og,hog,hdg⟩:=Option.bind_eq_some_iff.1 hd
              have htl:t<a.tmps.size:=by
                rw [hc.size]
                have:=List.all_eq_true.1 hsz t (List.mem_filterMap.2 ⟨og,List.mem_of_getElem? (by simpa using hog),hdg⟩)
                simpa using this
              have ht:a.tmps[t]?=some (a.tmps.getD t undef):=by simp [Array.getD,htl]
              simp only [Option.bind_some,ht]
              cases c with
              | none=>simp only at hv;rw [hv];rfl
              | some b=>simp only at hv;rw [hv]
          rw [hy,hb]
    have hlen:((listed.setIfInBounds i true).toList.filter (·==false)).length≤fuel:=by
      have h3:=filter_set listed.toList i (by simpa using hil) (by simpa using hun');rw [Array.toList_setIfInBounds];omega
    have hfun:(fun j=>(listed.setIfInBounds i true).getD j false)=plus i (fun j=>listed.getD j false):=by
      funext j
      unfold plus;by_cases e:j=i
      · subst e;simp [Array.getD,hil]
      · have hne:i≠j:=fun x=>e x.symm;rw [Array.getD_eq_getD_getElem?,Array.getElem?_setIfInBounds_ne hne,← Array.getD_eq_getD_getElem?];simp [e]
    have hdep:Deps o (fun j=>listed.getD j false):=fun e he hb=>by
      have:=hdone e he
      rw [hb] at this;simpa using this
    have hi0:(fun j=>listed.getD j false) i=false:=by simp [Array.getD,hil,hun']
    have next:∀ v w',W (plus i (fun j=>listed.getD j false)) w'→(∀ t v,E t v w→E t v w')→EO E o.dst v w'→CalmS E W l outs a0 (listed.setIfInBounds i true) (a.put o.dst v) w':=by
      intro v w' hw' hst hv
      have hput:∀ t,o.dst≠some t→(a.put o.dst v).tmps[t]?=a.tmps[t]?:=by
        intro t ht
        cases hd:o.dst with
        | none=>rfl
        | some d =>
          have:d≠t:=fun e=>ht (by rw [hd,e])
          simp [Act.put,this]
      have hgetD:∀ (b c:Array Value) (t:Nat),b[t]?=c[t]?→b.getD t undef=c.getD t undef:=by
        intro b c t h;rw [Array.getD_eq_getD_getElem?,Array.getD_eq_getD_getElem?,h]
      refine ⟨by rw [hfun];exact hw',?_,?_,?_,?_,?_,?_⟩
      · rw [hfun];intro j oj hj hS e he hbd;unfold plus at hS ⊢;by_cases e':j=i
        · subst e';rw [ho'] at hj;obtain rfl:=Option.some.inj hj
          have:=hdep e he hbd
          simp only at this
          simp [this]
        · have:(j==i)=false:=by simpa using e'
          rw [this,Bool.false_or] at hS
          have:=hc.closed j oj hj hS e he hbd
          simp only at this
          simp [this]
      · rw [← hc.defers];cases o.dst <;> rfl
      · rw [← hc.size];cases o.dst <;> simp [Act.put]
      · intro t ht;rw [hput t (fun e=>ht (List.mem_filterMap.2 ⟨o,List.mem_of_getElem? ho',e⟩)),hc.outer t ht]
      · intro t ht hn;rw [hgetD _ _ t (hput t (fun e=>hn (List.mem_filterMap.2 ⟨o,List.mem_of_getElem? ho',e⟩)))];exact hst _ _ (hc.outs t ht hn)
      · intro j oj t hj hd hlj;by_cases hji:j=i
        · subst hji;rw [ho'] at hj;obtain rfl:=Option.some.inj hj
          have htl:t<a.tmps.size:=by
            rw [hc.size]
            have:=List.all_eq_true.1 hsz t (List.mem_filterMap.2 ⟨o,List.mem_of_getElem? ho',hd⟩)
            simpa using this
          rw [hd] at hv ⊢
          have:(a.put (some t) v).tmps.getD t undef=v:=by simp [Act.put,Array.getD,htl]
          rw [this];exact hv
        · have hne:o.dst≠some t:=fun e=>hji (nodup_apart l j i oj o t hnd hj ho' hd e);rw [hgetD _ _ t (hput t hne)];refine hst _ _ (hc.known j oj t hj hd ?_);have hne':i≠j:=fun e=>hji e.symm;rw [Array.getD_eq_getD_getElem?,Array.getElem?_setIfInBounds_ne hne'] at hlj;rw [Array.getD_eq_getD_getElem?];exact hlj
    unfold wpOp;rw [ho];simp only
    rcases allS_at gs l 0 bs hon hA i o ho' with ⟨h,hst⟩ | ⟨h,hst⟩
    · rw [hw true h,if_pos rfl];refine .inl (wpq (fun a' w' hh=>hh) ((Nat.zero_add i ▸ hst) (fun j=>listed.getD j false) a w hi0 hdep hc.closed hc.world hkn _ fun v w' hr hw' hv=>?_));exact ih _ _ _ (by simpa using hs) hlen (next v w' hw' (fun t v he=>hR t v w w' hr he) hv)
    · rw [hw false h];simp only [Bool.false_eq_true,if_false];exact ih _ _ _ (by simpa using hs) hlen (next undef w ((Nat.zero_add i ▸ hst) (fun j=>listed.getD j false) w hi0 hdep hc.closed hc.world).1 (fun _ _ h=>h) ((Nat.zero_add i ▸ hst) (fun j=>listed.getD j false) w hi0 hdep hc.closed hc.world).2)
theorem wp_region_stage {id : Nat} {l : List Oper} {outs : List Tmp} {gs : List (Nat × Option Bool)} {bs : List Bool} {a : Act} {w : World} {Q : Exit → Act → World → Prop}
    (E:Tmp→Value→World→Prop) (W:(Nat→Bool)→World→Prop) (R:World→World→Prop)
    (hm:P.follows .mixedOrders=true) {n m:Nat} (hn:a.tmps.size=m) (hnm:n≤m) (hB:calmB l n outs gs bs=true)
    (hR:∀ t v w w',R w w'→E t v w→E t v w') (hG:GuardOkS E l.toArray gs) (hW:W (fun _=>false) w.drew) (hO:OutsOk E a w.drew outs)
    (hA:AllOkS E W R P l 0 l bs)
    (hend:∀ (vs:Tmp→Value) (S:Nat→Bool) w',(∀ j,j<l.length→S j=true)→W S w'→(∀ t,(dstsOf l).contains t=true→E t (vs t) w')→Q .normal (puts a vs (dstsOf l)) w') :
    (Code.region id l.toArray true).wp P Q a w:=by
  refine wp_region_any hm ?_
  have e0:(fun j=>(Array.replicate l.length false).getD j false)=fun _=>false:=by
    funext j
    rw [Array.getD_eq_getD_getElem?,Array.getElem?_replicate];split <;> rfl
  have e1:l.toArray.size=l.length:=by simp
  rw [e1];refine wpAny_stage (calmB_mono (hn ▸ hnm) hB) hR hG hA hend _ _ _ _ (by simp) ?_ ⟨by rw [e0];exact hW,(by rw [e0];intro j o _ h;cases h),rfl,rfl,fun _ _=>rfl,fun t ht _=>outs_mem outs hO t ht,?_⟩
  · simp only [Array.toList_replicate];exact Nat.le_trans (List.length_filter_le _ _) (by simp)
  · intro j o t hj hd hl;simp [Array.getD] at hl
end
end Go.Proofs.YtalfbnllodhkiacGreatDoor
namespace Go.Proofs.YtalfbnllodhkiacGreatDoor
open Go.ChangeShapes Go.WideShapes Go.ChangeAt Go.RowKit Go.Shelf
set_option linter.unusedSimpArgs false
set_option linter.unusedVariables false
theorem join_three (a b c sep : List UInt8) : Lib.join [a, b, c] sep = a ++ (sep ++ (b ++ (sep ++ c))) := by simp [Lib.join_cons, Lib.joinTail]
theorem ints_len {w : World} {O : Nat → Prop} {l : List Int} {cs : List Value} (b f : UInt8) (h : intsL.In w O l cs) (hn : l.length ≤ 300) : (intsT b f l).length ≤ 7000 := by
  have h1:=cat_len (t:=Lib.itoa) (k:=21) (l:=l) (fun x hx=>Lib.itoa_length_le x (ints_i64 h x hx).1 (ints_i64 h x hx).2);simp only [intsT,List.length_cons,List.length_append,List.length_nil];omega
theorem spacedB (xs : List (List UInt8)) (k : Nat) (hk : xs.length = k) (hN : k ≤ 100) (hlen : (Lib.join xs [32]).length ≤ 1000000000) (h : Nat) (w : World) (hb : Blk w h (xs.map (fun s => Value.string (str s))).toArray 9) :
    Calls Tryz.prog 150 #[.slice (some ⟨h,0,none⟩) k k] w fun e w'=>e=.returned (.string (str (Lib.join xs [32])))∧Below w.heap.size w w':=by
  subst hk;exact spaced_any h 0 xs.length xs _ (fun j x hx=>by rw [Nat.zero_add];exact cellOf hb j _ (by simp [hx])) (lt_of_block hb) (by omega) (Nat.le_refl _) (by omega)
theorem toText_any (t : MTo) (cs : List Value) (w : World) (h0 : toL.In w All t cs) (hp0 : Pows w) (hs : t.small) :
    Calls Tryz.prog 194 #[.agg cs.toArray] w fun e w'=>e=.returned (.string (str t.txt))∧Below w.heap.size w w':=by
  obtain ⟨a,c,b,d,rfl,h1,h2,h3⟩:=to_form h0;obtain ⟨s1,s2⟩:=hs;have l1:=ints_len 60 62 h1 s1;have l2:=ints_len 40 41 h2 s2;have l0:=Lib.itoa_length_le _ h3.1 h3.2
  have T:Hid (t.txt=Lib.join [Lib.itoa t.block,intsT 60 62 t.regs,intsT 40 41 t.args] [32]):=by
    show _=_;rw [join_three];simp [MTo.txt]
  have C0:Hid (∀ wx,Below w.heap.size w wx→Calls Tryz.prog 120 #[.int .i64 t.block] wx fun e w'=>e=.returned (.string (str (Lib.itoa t.block)))∧Below wx.heap.size wx w'):=fun wx hb=>number_any _ h3 wx (hp0.below hb);have C1:Hid (∀ wx,Below w.heap.size w wx→Calls Tryz.prog 193 #[.slice a t.regs.length c] wx fun e w'=>e=.returned (.string (str (intsT 60 62 t.regs)))∧Below wx.heap.size wx w'):=fun wx hb=>regs_any _ _ _ wx (Lay.below h1 hb) (hp0.below hb) s1;have C2:Hid (∀ wx,Below w.heap.size w wx→Calls Tryz.prog 192 #[.slice b t.args.length d] wx fun e w'=>e=.returned (.string (str (intsT 40 41 t.args)))∧Below wx.heap.size wx w'):=fun wx hb=>args_any _ _ _ wx (Lay.below h2 hb) (hp0.below hb) s2
  have D:Hid (∀ (h:Nat) (wx:World),Blk wx h #[.string (str (Lib.itoa t.block)),.string (str (intsT 60 62 t.regs)),.string (str (intsT 40 41 t.args))] 9→Calls Tryz.prog 150 #[.slice (some ⟨h,0,none⟩) 3 3] wx fun e w'=>e=.returned (.string (str t.txt))∧Below wx.heap.size wx w'):=fun h wx hb=>by
    rw [T.out];exact spacedB [Lib.itoa t.block,intsT 60 62 t.regs,intsT 40 41 t.args] 3 rfl (by decide) (by rw [join_three];simp;omega) h wx hb
  clear T h0 h1 h2 h3 hp0 s1 s2 l0 l1 l2;generalize t.txt=res at D ⊢;generalize Lib.itoa t.block=z0 at C0 D;generalize intsT 60 62 t.regs=z1 at C1 D;generalize intsT 40 41 t.args=z2 at C2 D;generalize t.block=k0 at C0 ⊢;generalize t.regs.length=k1 at C1 ⊢;generalize t.args.length=k2 at C2 ⊢;have X1:Hid (Blk (w.alloc (.cells #[.int .i64 k0,.slice a k1 c,.slice b k2 d] 48)) w.heap.size #[.int .i64 k0,.slice a k1 c,.slice b k2 d] 48):=Blk.new _ _ _;have X1l:Hid (w.heap.size<(w.alloc (.cells #[.int .i64 k0,.slice a k1 c,.slice b k2 d] 48)).heap.size):=by show _<_;simp
  have B1:Hid (Below w.heap.size w (w.alloc (.cells #[.int .i64 k0,.slice a k1 c,.slice b k2 d] 48))):=bel1 _ _;replace C0:Hid (∀ wx,Below (w.alloc (.cells #[.int .i64 k0,.slice a k1 c,.slice b k2 d] 48)).heap.size (w.alloc (.cells #[.int .i64 k0,.slice a k1 c,.slice b k2 d] 48)) wx→Calls Tryz.prog 120 #[.int .i64 k0] wx fun e w'=>e=.returned (.string (str z0))∧Below wx.heap.size wx w'):=fun wx hb=>C0.out wx (B1.out.trans (hb.mono B1.out.size));replace C1:Hid (∀ wx,Below (w.alloc (.cells #[.int .i64 k0,.slice a k1 c,.slice b k2 d] 48)).heap.size (w.alloc (.cells #[.int .i64 k0,.slice a k1 c,.slice b k2 d] 48)) wx→Calls Tryz.prog 193 #[.slice a k1 c] wx fun e w'=>e=.returned (.string (str z1))∧Below wx.heap.size wx w'):=fun wx hb=>C1.out wx (B1.out.trans (hb.mono B1.out.size));replace C2:Hid (∀ wx,Below (w.alloc (.cells #[.int .i64 k0,.slice a k1 c,.slice b k2 d] 48)).heap.size (w.alloc (.cells #[.int .i64 k0,.slice a k1 c,.slice b k2 d] 48)) wx→Calls Tryz.prog 192 #[.slice b k2 d] wx fun e w'=>e=.returned (.string (str z2))∧Below wx.heap.size wx w'):=fun wx hb=>C2.out wx (B1.out.trans (hb.mono B1.out.size));go_enter Tryz.func194,Tryz.ntmps194
  go_wp2_with fail
  generalize w.alloc (.cells #[.int .i64 k0,.slice a k1 c,.slice b k2 d] 48)=w1 at X1 X1l B1 C0 C1 C2 ⊢;refine wp_puts [3,4,5,6,7,8,9,10,11,12,13,2] (fun vs w'=>vs 2=.string (str res)∧Below w1.heap.size w1 w') ?_ ?_
  · refine wp_region_calm (PTab.E ([(1,fun v _=>v=.pointer (some ⟨w.heap.size,0,none⟩)),(3,fun v _=>v=.pointer (some ⟨w.heap.size,0,none⟩)),(4,fun v _=>v=.int .i64 k0),(5,fun v _=>v=.string (str z0)),(6,fun v _=>v=.pointer (some ⟨w.heap.size,1,none⟩)),(7,fun v _=>v=.slice a k1 c),(8,fun v _=>v=.string (str z1)),(9,fun v _=>v=.pointer (some ⟨w.heap.size,2,none⟩)),(10,fun v _=>v=.slice b k2 d),(11,fun v _=>v=.string (str z2)),(13,fun v _=>v=.string (str res)),(2,fun v _=>v=.string (str res)),(12,fun v w=>∃ h,v=.slice (some ⟨h,0,none⟩) 3 3∧Blk w h #[.string (str z0),.string (str z1),.string (str z2)] 9)]:PTab)) (fun wx=>Below w1.heap.size w1 wx) (fun w w'=>Below w.heap.size w w') (outs:=[1]) (gs:=[]) (bs:=[true,true,true,true,true,true,true,true,true,true,true,true]) (by kernel_rfl) (n:=14) rfl (Nat.le_refl _) (by kernel_rfl) (PTab_stable _ ⟨fun _ _ _ _ h=>h,fun _ _ _ _ h=>h,fun _ _ _ _ h=>h,fun _ _ _ _ h=>h,fun _ _ _ _ h=>h,fun _ _ _ _ h=>h,fun _ _ _ _ h=>h,fun _ _ _ _ h=>h,fun _ _ _ _ h=>h,fun _ _ _ _ h=>h,fun _ _ _ _ h=>h,fun _ _ _ _ h=>h,fun v w w' hr ⟨h,e,hb⟩=>⟨h,e,(hr.block h (lt_of_block hb)).trans hb⟩,trivial⟩) ?hG (drewN_below (m:=1) (Below.refl _ _)) ⟨rfl,trivial⟩ ?hA ?hend
    case hG=>exact trivial
    case hend=>exact fun vs w' hW hk=>⟨rfl,vs,rfl,hk 2 (by kernel_rfl),hW⟩
    case hA =>
      refine ⟨fun ac wc hW hk K hK=>?_,?_⟩
      · obtain ⟨q0,-⟩:=hk;have q0:ac.tmps.getD 1 undef=.pointer (some ⟨w.heap.size,0,none⟩):=q0;go_simp;exact hK _ _ (Below.refl _ _) hW rfl
      refine ⟨fun ac wc hW hk K hK=>?_,?_⟩
      · obtain ⟨q0,-⟩:=hk;have q0:ac.tmps.getD 3 undef=.pointer (some ⟨w.heap.size,0,none⟩):=q0;have c0:=cellOf ((hW.block _ X1l.out).trans X1.out) 0 _ rfl;go_simp;exact hK _ _ (Below.refl _ _) hW rfl
      refine ⟨fun ac wc hW hk K hK=>?_,?_⟩
      · obtain ⟨q0,-⟩:=hk;have q0:ac.tmps.getD 4 undef=.int .i64 k0:=q0;go_simp;refine (C0.out wc hW).mono ?_;rintro r7 w7 ⟨rfl,b7⟩;go_simp;exact hK _ _ b7 (hW.trans (b7.mono hW.size)) rfl
      refine ⟨fun ac wc hW hk K hK=>?_,?_⟩
      · obtain ⟨q0,-⟩:=hk;have q0:ac.tmps.getD 1 undef=.pointer (some ⟨w.heap.size,0,none⟩):=q0;go_simp;exact hK _ _ (Below.refl _ _) hW rfl
      refine ⟨fun ac wc hW hk K hK=>?_,?_⟩
      · obtain ⟨q0,-⟩:=hk;have q0:ac.tmps.getD 6 undef=.pointer (some ⟨w.heap.size,1,none⟩):=q0;have c0:=cellOf ((hW.block _ X1l.out).trans X1.out) 1 _ rfl;go_simp;exact hK _ _ (Below.refl _ _) hW rfl
      refine ⟨fun ac wc hW hk K hK=>?_,?_⟩
      · obtain ⟨q0,-⟩:=hk;have q0:ac.tmps.getD 7 undef=.slice a k1 c:=q0;go_simp;refine (C1.out wc hW).mono ?_;rintro r7 w7 ⟨rfl,b7⟩;go_simp;exact hK _ _ b7 (hW.trans (b7.mono hW.size)) rfl
      refine ⟨fun ac wc hW hk K hK=>?_,?_⟩
      · obtain ⟨q0,-⟩:=hk;have q0:ac.tmps.getD 1 undef=.pointer (some ⟨w.heap.size,0,none⟩):=q0;go_simp;exact hK _ _ (Below.refl _ _) hW rfl
      refine ⟨fun ac wc hW hk K hK=>?_,?_⟩
      · obtain ⟨q0,-⟩:=hk;have q0:ac.tmps.getD 9 undef=.pointer (some ⟨w.heap.size,2,none⟩):=q0;have c0:=cellOf ((hW.block _ X1l.out).trans X1.out) 2 _ rfl;go_simp;exact hK _ _ (Below.refl _ _) hW rfl
      refine ⟨fun ac wc hW hk K hK=>?_,?_⟩
      · obtain ⟨q0,-⟩:=hk;have q0:ac.tmps.getD 10 undef=.slice b k2 d:=q0;go_simp;refine (C2.out wc hW).mono ?_;rintro r7 w7 ⟨rfl,b7⟩;go_simp;exact hK _ _ b7 (hW.trans (b7.mono hW.size)) rfl
      refine ⟨fun ac wc hW hk K hK=>?_,?_⟩
      · obtain ⟨q0,q1,q2,-⟩:=hk;have q0:ac.tmps.getD 5 undef=.string (str z0):=q0;have q1:ac.tmps.getD 8 undef=.string (str z1):=q1;have q2:ac.tmps.getD 11 undef=.string (str z2):=q2;simp only [Array.getD_eq_getD_getElem?] at q0 q1 q2;go_simp;exact hK _ _ (bel1 _ _) (hW.trans ((bel1 _ _).mono hW.size)) ⟨_,rfl,Blk.new _ _ _⟩
      refine ⟨fun ac wc hW hk K hK=>?_,?_⟩
      · obtain ⟨q0,-⟩:=hk;have q0:(fun v w=>∃ h,v=.slice (some ⟨h,0,none⟩) 3 3∧Blk w h #[.string (str z0),.string (str z1),.string (str z2)] 9) (ac.tmps.getD 12 undef) wc:=q0;generalize q0e:ac.tmps.getD 12 undef=uq0 at q0;obtain ⟨h,rfl,hb⟩:=q0;go_simp;refine (D.out h wc hb).mono ?_;rintro r7 w7 ⟨rfl,b7⟩;go_simp;exact hK _ _ b7 (hW.trans (b7.mono hW.size)) rfl
      refine ⟨fun ac wc hW hk K hK=>?_,?_⟩
      · obtain ⟨q0,-⟩:=hk;have q0:ac.tmps.getD 13 undef=.string (str res):=q0;go_simp;exact hK _ _ (Below.refl _ _) hW rfl
      trivial
  rintro vs wx ⟨hv0,hb⟩;simp only [puts,Act.put,List.setIfInBounds_toArray,List.set_cons_zero,List.set_cons_succ,hv0];have B2:Hid (Below w.heap.size w wx):=B1.out.trans (hb.mono B1.out.size);clear hb;go_wp2
  go_ret;exact ⟨rfl,B2.out⟩
end Go.Proofs.YtalfbnllodhkiacGreatDoor
namespace Go.Proofs.YtalfbnllodhkiacGreatDoor
open Go.ChangeShapes Go.WideShapes Go.ChangeAt Go.RowKit
set_option linter.unusedSimpArgs false
set_option linter.unusedVariables false
theorem wordAt_low {l : List (List UInt8)} {k : Int} (h : k < 0) : wordAt l k = [] := by rw [wordAt, if_pos (by omega)]
theorem wordAt_high {l : List (List UInt8)} {k : Int} (h : ¬ k < (([] : List UInt8) :: l).length) : wordAt l k = [] := by
  simp at h
  rw [wordAt,if_neg (by omega),List.getD_eq_getElem?_getD,List.getElem?_eq_none (by omega)];rfl
theorem wordAt_mid {l : List (List UInt8)} {k : Int} {n : Nat} (h : k = n) (hn : n < (([] : List UInt8) :: l).length) : (([] : List UInt8) :: l)[n]? = some (wordAt l k) := by
  subst h
  cases n with
  | zero=>rfl
  | succ n =>
    simp at hn
    rw [wordAt,if_neg (by omega)];simp [List.getElem?_eq_getElem hn,hn]
def StrRow (w : World) (B : Nat) (ws : List (List UInt8)) : Prop := ∀ i t, ws[i]? = some t → w.cell? ⟨B, i, none⟩ = some (.string (str t))
theorem pwordAt_any {w : World} {B N : Nat} {l : List (List UInt8)} (k : Int) (hr : StrRow w B ([] :: l)) (hN : (([] : List UInt8) :: l).length = N) (hsm : N ≤ 1000) :
    Calls Tryz.prog 35 #[.int .i64 k,.slice (some ⟨B,0,none⟩) N N] w fun en w'=>en=.returned (.string (str (wordAt l k)))∧w'=w:=by
  by_cases h0:k<0
  · rw [wordAt_low h0];clear hr hN;go_enter Tryz.func35,Tryz.ntmps35
    go_wp2
    go_ret;exact ⟨rfl,rfl⟩
  · by_cases h1:k<N
    · obtain ⟨n,rfl⟩:∃ n:Nat,k=n:=⟨k.toNat,by omega⟩;have hc:=hr n _ (wordAt_mid (l:=l) rfl (by omega));generalize wordAt l (n:Int)=t at hc;clear hr hN;go_enter Tryz.func35,Tryz.ntmps35
      go_wp2
      go_ret;exact ⟨rfl,rfl⟩
    · rw [wordAt_high (by rw [hN];exact h1)];clear hr hN;go_enter Tryz.func35,Tryz.ntmps35
      go_wp2
      go_ret;exact ⟨rfl,rfl⟩
def WordFn (F : Nat) (ws : List (List UInt8)) : Prop := ∀ (k : Int) (w : World), Calls Tryz.prog F #[.int .i64 k] w fun en w' => en = .returned (.string (str (wordAt ws k))) ∧ Below w.heap.size w w'
theorem strRow_of {w : World} {B : Nat} {ws : List (List UInt8)} {c : Array Value} {t : TypeId} (h : Blk w B c t) (hc : c.toList = ws.map (fun s => .string (str s))) : StrRow w B ws := by
  intro i s hs;refine cellOf h i _ ?_;rw [← Array.getElem?_toList,hc,List.getElem?_map,hs];rfl
theorem pOp_any : WordFn 12 opWords := by
  intro k w;go_enter Tryz.func12,Tryz.ntmps12
  go_wp2_with fail
  refine (pwordAt_any (l:=opWords) k (strRow_of (Blk.new _ _ _) rfl) rfl (by decide)).mono ?_;rintro e' w2 ⟨rfl,rfl⟩;go_wp2
  go_ret;exact ⟨rfl,bel1 _ _⟩
theorem pKind_any : WordFn 14 kindWords := by
  intro k w;go_enter Tryz.func14,Tryz.ntmps14
  go_wp2_with fail
  refine (pwordAt_any (l:=kindWords) k (strRow_of (Blk.new _ _ _) rfl) rfl (by decide)).mono ?_;rintro e' w2 ⟨rfl,rfl⟩;go_wp2
  go_ret;exact ⟨rfl,bel1 _ _⟩
end Go.Proofs.YtalfbnllodhkiacGreatDoor
namespace Go.Proofs
open Go.Shelf
def Tryz.laysM173_ren : Go.Shelf.Ren := ⟨fun | 173 => 111 | 246 => 146 | 283 => 184 | 284 => 185 | 285 => 186 | 286 => 187 | 129 => 215 | 317 => 214 | 318 => 216 | 319 => 217 | 320 => 218 | 337 => 225 | 338 => 226 | n => n, fun | 2 => 2 | 3 => 3 | 9 => 9 | 4 => 4 | 171 => 196 | 0 => 0 | 53 => 189 | 37 => 86 | 5 => 5 | 173 => 199 | 212 => 216 | 51 => 217 | 20 => 20 | 213 => 218 | 46 => 192 | 232 => 229 | 233 => 230 | n => n, fun | 17 => 2 | 18 => 4 | 19 => 5 | n => n⟩
theorem Tryz.laysM173 : Go.Proofs.LaysM.n173 Tryz.prog Tryz.laysM173_ren := {
  mixed:=by kernel_rfl
  f129:=Tryz.func215.trans (congrArg some (by kernel_rfl))
  f173:=Tryz.func111.trans (congrArg some (by kernel_rfl))
  f246:=Tryz.func146.trans (congrArg some (by kernel_rfl))
  f283:=Tryz.func184.trans (congrArg some (by kernel_rfl))
  f284:=Tryz.func185.trans (congrArg some (by kernel_rfl))
  f285:=Tryz.func186.trans (congrArg some (by kernel_rfl))
  f286:=Tryz.func187.trans (congrArg some (by kernel_rfl))
  f317:=Tryz.func214.trans (congrArg some (by kernel_rfl))
  f318:=Tryz.func216.trans (congrArg some (by kernel_rfl))
  f319:=Tryz.func217.trans (congrArg some (by kernel_rfl))
  f320:=Tryz.func218.trans (congrArg some (by kernel_rfl))
  f337:=Tryz.func225.trans (congrArg some (by kernel_rfl))
  f338:=Tryz.func226.trans (congrArg some (by kernel_rfl))
  t0:=Tryz.underlying0
  a0:=Tryz.isAgg0
  z0:=Tryz.sizeOf0
  v0:=Tryz.zeroValue0
  t2:=Tryz.underlying2
  a2:=Tryz.isAgg2
  z2:=Tryz.sizeOf2
  v2:=Tryz.zeroValue2
  t3:=Tryz.underlying3
  a3:=Tryz.isAgg3
  z3:=Tryz.sizeOf3
  v3:=Tryz.zeroValue3
  t4:=Tryz.underlying4
  a4:=Tryz.isAgg4
  z4:=Tryz.sizeOf4
  v4:=Tryz.zeroValue4
  t5:=Tryz.underlying5
  a5:=Tryz.isAgg5
  z5:=Tryz.sizeOf5
  v5:=Tryz.zeroValue5
  t9:=Tryz.underlying9
  a9:=Tryz.isAgg9
  z9:=Tryz.sizeOf9
  v9:=Tryz.zeroValue9
  t20:=Tryz.underlying20
  a20:=Tryz.isAgg20
  z20:=Tryz.sizeOf20
  v20:=Tryz.zeroValue20
  t37:=Tryz.underlying86
  a37:=Tryz.isAgg86
  z37:=Tryz.sizeOf86
  v37:=Tryz.zeroValue86
  t46:=Tryz.underlying192
  a46:=Tryz.isAgg192
  z46:=Tryz.sizeOf192
  v46:=Tryz.zeroValue192
  t51:=Tryz.underlying217
  a51:=Tryz.isAgg217
  z51:=Tryz.sizeOf217
  v51:=Tryz.zeroValue217
  t53:=Tryz.underlying189
  a53:=Tryz.isAgg189
  z53:=Tryz.sizeOf189
  v53:=Tryz.zeroValue189
  t171:=Tryz.underlying196
  a171:=Tryz.isAgg196
  z171:=Tryz.sizeOf196
  v171:=Tryz.zeroValue196
  t173:=Tryz.underlying199
  a173:=Tryz.isAgg199
  z173:=Tryz.sizeOf199
  v173:=Tryz.zeroValue199
  t212:=Tryz.underlying216
  a212:=Tryz.isAgg216
  z212:=Tryz.sizeOf216
  v212:=Tryz.zeroValue216
  t213:=Tryz.underlying218
  a213:=Tryz.isAgg218
  z213:=Tryz.sizeOf218
  t232:=Tryz.underlying229
  a232:=Tryz.isAgg229
  z232:=Tryz.sizeOf229
  v232:=Tryz.zeroValue229
  t233:=Tryz.underlying230
  a233:=Tryz.isAgg230
  z233:=Tryz.sizeOf230
  v233:=Tryz.zeroValue230
  g17:=by kernel_rfl
  g18:=by kernel_rfl
  g19:=by kernel_rfl
  i0:=by kernel_rfl
  i2:=by kernel_rfl
  i3:=by kernel_rfl
  i4:=by kernel_rfl
  i5:=by kernel_rfl
  i9:=by kernel_rfl
  i20:=by kernel_rfl
  i37:=by kernel_rfl
  i46:=by kernel_rfl
  i51:=by kernel_rfl
  i53:=by kernel_rfl
  i171:=by kernel_rfl
  i173:=by kernel_rfl
  i212:=by kernel_rfl
  i232:=by kernel_rfl
  i233:=by kernel_rfl
  m17:=by kernel_rfl
  m18:=by kernel_rfl
  m19:=by kernel_rfl }
end Go.Proofs
namespace Go.Proofs.YtalfbnllodhkiacGreatDoor
open Go.ChangeShapes Go.WideShapes Go.ChangeAt Go.RowKit Go.Shelf
set_option linter.unusedSimpArgs false
set_option linter.unusedVariables false
theorem fmt_any (n : Int) (h0 : -9223372036854775808 ≤ n ∧ n ≤ 9223372036854775807) (w : World) (hw : Pows w) :
    Calls Tryz.prog 111 #[.int .i64 n,.int .i64 10] w fun e w'=>e=.returned (.string (str (Lib.itoa n)))∧Below w.heap.size w w' :=
  (Any.strconv_FormatInt_10 Tryz.laysM173 n h0.1 h0.2 w hw).mono fun e w' h=>⟨h.1,by
    obtain ⟨k,os,rfl⟩:=h.2;exact Lib.below_grow _ w (Nat.le_refl _) k os⟩
theorem ints_blk {w : World} {h : Nat} {l : List Int} (hb : Blk w h (l.map (fun x => Value.int .i64 x)).toArray 3) (hI : ∀ x ∈ l, -9223372036854775808 ≤ x ∧ x ≤ 9223372036854775807) (c : Nat) : intsL.In w All l [.slice (some ⟨h, 0, none⟩) l.length c] :=
  ⟨_,_,rfl,fun i x hx=>⟨h,0,[.int .i64 x],rfl,trivial,lt_of_block hb,fun j hj=>by
    have hj':j<1:=hj;obtain rfl:j=0:=by omega
    have hs:Lay.int.size=1:=rfl;rw [hs,Nat.mul_one,Nat.zero_add,Nat.add_zero];exact cellOf hb i _ (by simp [hx]),rfl,hI x (List.mem_of_getElem? hx)⟩⟩
theorem numberedB (s : List UInt8) (l : List Int) (k : Nat) (hk : l.length = k) (hN : k ≤ 10) (hs : s.length ≤ 1000) (hI : ∀ x ∈ l, -9223372036854775808 ≤ x ∧ x ≤ 9223372036854775807) (h : Nat) (w : World) (hp : Pows w) (hb : Blk w h (l.map (fun x => Value.int .i64 x)).toArray 3) :
    Calls Tryz.prog 191 #[.string (str s),.slice (some ⟨h,0,none⟩) k k] w fun e w'=>e=.returned (.string (str (s++l.flatMap nT)))∧Below w.heap.size w w':=by
  subst hk;exact numbered_any s l h l.length w (ints_blk hb hI _) hp hN hs
theorem word_len (l : List (List UInt8)) (h : ∀ x ∈ l, x.length ≤ 6) (k : Int) : (wordAt l k).length ≤ 6 := by
  unfold wordAt;split
  · simp
  · rw [List.getD_eq_getElem?_getD]
    cases hx:l[k.toNat - 1]? with
    | none=>simp
    | some y=>exact h y (List.mem_of_getElem? hx)
theorem op_len (k : Int) : (wordAt opWords k).length ≤ 6 := word_len _ (by decide) k
theorem kind_len (k : Int) : (wordAt kindWords k).length ≤ 6 := word_len _ (by decide) k
def InsTx (x : MIns) : Prop := ∀ (cs : List Value) (w : World), insL.In w All x cs → Pows w → x.small → Calls Tryz.prog 157 #[.agg cs.toArray] w fun e w' => e = .returned (.string (str x.txt)) ∧ Below w.heap.size w w'
theorem insText_none (x : MIns) (hx : x.op = 3 ∨ x.op = 12) : InsTx x := by
  intro cs w h0 hp0 hs;obtain ⟨pr,cr,pa,ca,rfl,h1,h2,r0,ra,rb,rc,rk,rn⟩:=ins_form h0;obtain ⟨s1,s2⟩:=hs;have hwl:=op_len x.op;have CO:Hid (∀ wx:World,Calls Tryz.prog 12 #[.int .i64 x.op] wx fun e w'=>e=.returned (.string (str (wordAt opWords x.op)))∧Below wx.heap.size wx w'):=fun wx=>pOp_any x.op wx
  have T:Hid (x.txt=wordAt opWords x.op):=by
    show _=_;rcases hx with hx | hx <;> simp [MIns.txt,MIns.rest,hx]
  clear h0 h1 h2 hp0 s1 s2 hwl r0 ra rb rc rk rn;generalize x.txt=res at T ⊢;generalize wordAt opWords x.op=wd at *;generalize x.op=o at *;generalize x.a=ka at *;generalize x.b=kb at *;generalize x.c=kc at *;generalize x.k=kk at *;generalize x.n=kn at *;generalize x.regs.length=nr at *;generalize x.args.length=na at *;clear x;obtain ⟨w1,e1⟩:∃ w1,w.alloc (.cells #[.int .i64 o,.int .i64 ka,.int .i64 kb,.int .i64 kc,.int .i64 kk,.int .i64 kn,.slice pr nr cr,.slice pa na ca] 45)=w1:=⟨_,rfl⟩;have X1:Blk w1 w.heap.size #[.int .i64 o,.int .i64 ka,.int .i64 kb,.int .i64 kc,.int .i64 kk,.int .i64 kn,.slice pr nr cr,.slice pa na ca] 45:=e1 ▸ Blk.new _ _ _;have B1:Hid (Below w.heap.size w w1):=e1 ▸ bel1 _ _;have E1:Hid (w.alloc (.cells #[.int .i64 o,.int .i64 ka,.int .i64 kb,.int .i64 kc,.int .i64 kk,.int .i64 kn,.slice pr nr cr,.slice pa na ca] 45)=w1):=e1;clear e1;rcases hx with rfl | rfl
  all_goals
    go_enter Tryz.func157,Tryz.ntmps157
    go_wp2_with fail
    rw [E1.out];refine (CO.out w1).mono ?_;rintro e w2 ⟨rfl,b2⟩;have X2:=(b2.block _ (lt_of_block X1)).trans X1;have B2:Hid (Below w.heap.size w w2):=B1.out.trans (b2.mono B1.out.size);clear b2 X1 B1 CO E1;have c0:=cellOf X2 0 _ rfl;go_wp2
    go_ret;exact ⟨by rw [T.out];rfl,B2.out⟩
theorem insText_a (x : MIns) (hx : x.op = 4 ∨ x.op = 11 ∨ x.op = 13) : InsTx x := by
  intro cs w h0 hp0 hs;obtain ⟨pr,cr,pa,ca,rfl,h1,h2,r0,ra,rb,rc,rk,rn⟩:=ins_form h0;obtain ⟨s1,s2⟩:=hs;have hwl:=op_len x.op;have CO:Hid (∀ wx:World,Calls Tryz.prog 12 #[.int .i64 x.op] wx fun e w'=>e=.returned (.string (str (wordAt opWords x.op)))∧Below wx.heap.size wx w'):=fun wx=>pOp_any x.op wx;have N1:Hid (∀ (h:Nat) (wx:World),Below w.heap.size w wx→Blk wx h #[.int .i64 x.a] 3→Calls Tryz.prog 191 #[.string (str (wordAt opWords x.op)),.slice (some ⟨h,0,none⟩) 1 1] wx fun e w'=>e=.returned (.string (str ((wordAt opWords x.op)++[x.a].flatMap nT)))∧Below wx.heap.size wx w'):=fun h wx hb hB=>numberedB (wordAt opWords x.op) [x.a] 1 rfl (by decide) (by first | omega | (rw [join_two];have:=kind_len x.k;simp;omega)) (by intro y hy;simp at hy;rcases hy with rfl <;> assumption) h wx (hp0.below hb) hB
  have T:Hid (wordAt opWords x.op++[x.a].flatMap nT=x.txt):=by
    show _=_;rcases hx with hx | hx | hx <;> simp [MIns.txt,MIns.rest,hx]
  rw [T.out] at N1;clear T;clear h0 h1 h2 hp0 s1 s2 hwl r0 ra rb rc rk rn;generalize x.txt=res at N1 ⊢;generalize wordAt opWords x.op=wd at *;generalize x.op=o at *;generalize x.a=ka at *;generalize x.b=kb at *;generalize x.c=kc at *;generalize x.k=kk at *;generalize x.n=kn at *;generalize x.regs.length=nr at *;generalize x.args.length=na at *;clear x;obtain ⟨w1,e1⟩:∃ w1,w.alloc (.cells #[.int .i64 o,.int .i64 ka,.int .i64 kb,.int .i64 kc,.int .i64 kk,.int .i64 kn,.slice pr nr cr,.slice pa na ca] 45)=w1:=⟨_,rfl⟩;have X1:Blk w1 w.heap.size #[.int .i64 o,.int .i64 ka,.int .i64 kb,.int .i64 kc,.int .i64 kk,.int .i64 kn,.slice pr nr cr,.slice pa na ca] 45:=e1 ▸ Blk.new _ _ _;have B1:Hid (Below w.heap.size w w1):=e1 ▸ bel1 _ _;have E1:Hid (w.alloc (.cells #[.int .i64 o,.int .i64 ka,.int .i64 kb,.int .i64 kc,.int .i64 kk,.int .i64 kn,.slice pr nr cr,.slice pa na ca] 45)=w1):=e1;clear e1;rcases hx with rfl | rfl | rfl
  all_goals
    go_enter Tryz.func157,Tryz.ntmps157
    go_wp2_with fail
    rw [E1.out];refine (CO.out w1).mono ?_;rintro e w2 ⟨rfl,b2⟩;have X2:=(b2.block _ (lt_of_block X1)).trans X1;have B2:Hid (Below w.heap.size w w2):=B1.out.trans (b2.mono B1.out.size);clear b2 X1 B1 CO E1;have c0:=cellOf X2 0 _ rfl;have c1:=cellOf X2 1 _ rfl;clear X2;go_wp2_with fail
    refine (N1.out _ _ (B2.out.trans ((bel1 _ _).mono B2.out.size)) (Blk.new _ _ _)).mono ?_;rintro e w3 ⟨rfl,b3⟩;have BZ:Hid (Below w.heap.size w w3):=B2.out.trans (((bel1 _ _).trans (b3.mono (by simp))).mono B2.out.size);clear b3 N1 B2;go_wp2
    go_ret;exact ⟨rfl,BZ.out⟩
theorem insText_ak (x : MIns) (hx : x.op = 6) : InsTx x := by
  intro cs w h0 hp0 hs;obtain ⟨pr,cr,pa,ca,rfl,h1,h2,r0,ra,rb,rc,rk,rn⟩:=ins_form h0;obtain ⟨s1,s2⟩:=hs;have hwl:=op_len x.op;have CO:Hid (∀ wx:World,Calls Tryz.prog 12 #[.int .i64 x.op] wx fun e w'=>e=.returned (.string (str (wordAt opWords x.op)))∧Below wx.heap.size wx w'):=fun wx=>pOp_any x.op wx;have N1:Hid (∀ (h:Nat) (wx:World),Below w.heap.size w wx→Blk wx h #[.int .i64 x.a,.int .i64 x.k] 3→Calls Tryz.prog 191 #[.string (str (wordAt opWords x.op)),.slice (some ⟨h,0,none⟩) 2 2] wx fun e w'=>e=.returned (.string (str ((wordAt opWords x.op)++[x.a,x.k].flatMap nT)))∧Below wx.heap.size wx w'):=fun h wx hb hB=>numberedB (wordAt opWords x.op) [x.a,x.k] 2 rfl (by decide) (by first | omega | (rw [join_two];have:=kind_len x.k;simp;omega)) (by intro y hy;simp at hy;rcases hy with rfl | rfl <;> assumption) h wx (hp0.below hb) hB
  have T:Hid (wordAt opWords x.op++[x.a,x.k].flatMap nT=x.txt):=by
    show _=_;simp [MIns.txt,MIns.rest,hx]
  rw [T.out] at N1;clear T;clear h0 h1 h2 hp0 s1 s2 hwl r0 ra rb rc rk rn;generalize x.txt=res at N1 ⊢;generalize wordAt opWords x.op=wd at *;generalize x.op=o at *;generalize x.a=ka at *;generalize x.b=kb at *;generalize x.c=kc at *;generalize x.k=kk at *;generalize x.n=kn at *;generalize x.regs.length=nr at *;generalize x.args.length=na at *;clear x;obtain ⟨w1,e1⟩:∃ w1,w.alloc (.cells #[.int .i64 o,.int .i64 ka,.int .i64 kb,.int .i64 kc,.int .i64 kk,.int .i64 kn,.slice pr nr cr,.slice pa na ca] 45)=w1:=⟨_,rfl⟩;have X1:Blk w1 w.heap.size #[.int .i64 o,.int .i64 ka,.int .i64 kb,.int .i64 kc,.int .i64 kk,.int .i64 kn,.slice pr nr cr,.slice pa na ca] 45:=e1 ▸ Blk.new _ _ _;have B1:Hid (Below w.heap.size w w1):=e1 ▸ bel1 _ _;have E1:Hid (w.alloc (.cells #[.int .i64 o,.int .i64 ka,.int .i64 kb,.int .i64 kc,.int .i64 kk,.int .i64 kn,.slice pr nr cr,.slice pa na ca] 45)=w1):=e1;clear e1;rcases hx with rfl
  all_goals
    go_enter Tryz.func157,Tryz.ntmps157
    go_wp2_with fail
    rw [E1.out];refine (CO.out w1).mono ?_;rintro e w2 ⟨rfl,b2⟩;have X2:=(b2.block _ (lt_of_block X1)).trans X1;have B2:Hid (Below w.heap.size w w2):=B1.out.trans (b2.mono B1.out.size);clear b2 X1 B1 CO E1;have c0:=cellOf X2 0 _ rfl;have c1:=cellOf X2 1 _ rfl;have c4:=cellOf X2 4 _ rfl;clear X2;go_wp2_with fail
    refine (N1.out _ _ (B2.out.trans ((bel1 _ _).mono B2.out.size)) (Blk.new _ _ _)).mono ?_;rintro e w3 ⟨rfl,b3⟩;have BZ:Hid (Below w.heap.size w w3):=B2.out.trans (((bel1 _ _).trans (b3.mono (by simp))).mono B2.out.size);clear b3 N1 B2;go_wp2
    go_ret;exact ⟨rfl,BZ.out⟩
theorem insText_akb (x : MIns) (hx : x.op = 7) : InsTx x := by
  intro cs w h0 hp0 hs;obtain ⟨pr,cr,pa,ca,rfl,h1,h2,r0,ra,rb,rc,rk,rn⟩:=ins_form h0;obtain ⟨s1,s2⟩:=hs;have hwl:=op_len x.op;have CO:Hid (∀ wx:World,Calls Tryz.prog 12 #[.int .i64 x.op] wx fun e w'=>e=.returned (.string (str (wordAt opWords x.op)))∧Below wx.heap.size wx w'):=fun wx=>pOp_any x.op wx;have N1:Hid (∀ (h:Nat) (wx:World),Below w.heap.size w wx→Blk wx h #[.int .i64 x.a,.int .i64 x.k,.int .i64 x.b] 3→Calls Tryz.prog 191 #[.string (str (wordAt opWords x.op)),.slice (some ⟨h,0,none⟩) 3 3] wx fun e w'=>e=.returned (.string (str ((wordAt opWords x.op)++[x.a,x.k,x.b].flatMap nT)))∧Below wx.heap.size wx w'):=fun h wx hb hB=>numberedB (wordAt opWords x.op) [x.a,x.k,x.b] 3 rfl (by decide) (by first | omega | (rw [join_two];have:=kind_len x.k;simp;omega)) (by intro y hy;simp at hy;rcases hy with rfl | rfl | rfl <;> assumption) h wx (hp0.below hb) hB
  have T:Hid (wordAt opWords x.op++[x.a,x.k,x.b].flatMap nT=x.txt):=by
    show _=_;simp [MIns.txt,MIns.rest,hx]
  rw [T.out] at N1;clear T;clear h0 h1 h2 hp0 s1 s2 hwl r0 ra rb rc rk rn;generalize x.txt=res at N1 ⊢;generalize wordAt opWords x.op=wd at *;generalize x.op=o at *;generalize x.a=ka at *;generalize x.b=kb at *;generalize x.c=kc at *;generalize x.k=kk at *;generalize x.n=kn at *;generalize x.regs.length=nr at *;generalize x.args.length=na at *;clear x;obtain ⟨w1,e1⟩:∃ w1,w.alloc (.cells #[.int .i64 o,.int .i64 ka,.int .i64 kb,.int .i64 kc,.int .i64 kk,.int .i64 kn,.slice pr nr cr,.slice pa na ca] 45)=w1:=⟨_,rfl⟩;have X1:Blk w1 w.heap.size #[.int .i64 o,.int .i64 ka,.int .i64 kb,.int .i64 kc,.int .i64 kk,.int .i64 kn,.slice pr nr cr,.slice pa na ca] 45:=e1 ▸ Blk.new _ _ _;have B1:Hid (Below w.heap.size w w1):=e1 ▸ bel1 _ _;have E1:Hid (w.alloc (.cells #[.int .i64 o,.int .i64 ka,.int .i64 kb,.int .i64 kc,.int .i64 kk,.int .i64 kn,.slice pr nr cr,.slice pa na ca] 45)=w1):=e1;clear e1;rcases hx with rfl
  all_goals
    go_enter Tryz.func157,Tryz.ntmps157
    go_wp2_with fail
    rw [E1.out];refine (CO.out w1).mono ?_;rintro e w2 ⟨rfl,b2⟩;have X2:=(b2.block _ (lt_of_block X1)).trans X1;have B2:Hid (Below w.heap.size w w2):=B1.out.trans (b2.mono B1.out.size);clear b2 X1 B1 CO E1;have c0:=cellOf X2 0 _ rfl;have c1:=cellOf X2 1 _ rfl;have c4:=cellOf X2 4 _ rfl;have c2:=cellOf X2 2 _ rfl;clear X2;go_wp2_with fail
    refine (N1.out _ _ (B2.out.trans ((bel1 _ _).mono B2.out.size)) (Blk.new _ _ _)).mono ?_;rintro e w3 ⟨rfl,b3⟩;have BZ:Hid (Below w.heap.size w w3):=B2.out.trans (((bel1 _ _).trans (b3.mono (by simp))).mono B2.out.size);clear b3 N1 B2;go_wp2
    go_ret;exact ⟨rfl,BZ.out⟩
theorem insText_ab (x : MIns) (hx : x.op = 8 ∨ x.op = 9) : InsTx x := by
  intro cs w h0 hp0 hs;obtain ⟨pr,cr,pa,ca,rfl,h1,h2,r0,ra,rb,rc,rk,rn⟩:=ins_form h0;obtain ⟨s1,s2⟩:=hs;have hwl:=op_len x.op;have CO:Hid (∀ wx:World,Calls Tryz.prog 12 #[.int .i64 x.op] wx fun e w'=>e=.returned (.string (str (wordAt opWords x.op)))∧Below wx.heap.size wx w'):=fun wx=>pOp_any x.op wx;have N1:Hid (∀ (h:Nat) (wx:World),Below w.heap.size w wx→Blk wx h #[.int .i64 x.a,.int .i64 x.b] 3→Calls Tryz.prog 191 #[.string (str (wordAt opWords x.op)),.slice (some ⟨h,0,none⟩) 2 2] wx fun e w'=>e=.returned (.string (str ((wordAt opWords x.op)++[x.a,x.b].flatMap nT)))∧Below wx.heap.size wx w'):=fun h wx hb hB=>numberedB (wordAt opWords x.op) [x.a,x.b] 2 rfl (by decide) (by first | omega | (rw [join_two];have:=kind_len x.k;simp;omega)) (by intro y hy;simp at hy;rcases hy with rfl | rfl <;> assumption) h wx (hp0.below hb) hB
  have T:Hid (wordAt opWords x.op++[x.a,x.b].flatMap nT=x.txt):=by
    show _=_;rcases hx with hx | hx <;> simp [MIns.txt,MIns.rest,hx]
  rw [T.out] at N1;clear T;clear h0 h1 h2 hp0 s1 s2 hwl r0 ra rb rc rk rn;generalize x.txt=res at N1 ⊢;generalize wordAt opWords x.op=wd at *;generalize x.op=o at *;generalize x.a=ka at *;generalize x.b=kb at *;generalize x.c=kc at *;generalize x.k=kk at *;generalize x.n=kn at *;generalize x.regs.length=nr at *;generalize x.args.length=na at *;clear x;obtain ⟨w1,e1⟩:∃ w1,w.alloc (.cells #[.int .i64 o,.int .i64 ka,.int .i64 kb,.int .i64 kc,.int .i64 kk,.int .i64 kn,.slice pr nr cr,.slice pa na ca] 45)=w1:=⟨_,rfl⟩;have X1:Blk w1 w.heap.size #[.int .i64 o,.int .i64 ka,.int .i64 kb,.int .i64 kc,.int .i64 kk,.int .i64 kn,.slice pr nr cr,.slice pa na ca] 45:=e1 ▸ Blk.new _ _ _;have B1:Hid (Below w.heap.size w w1):=e1 ▸ bel1 _ _;have E1:Hid (w.alloc (.cells #[.int .i64 o,.int .i64 ka,.int .i64 kb,.int .i64 kc,.int .i64 kk,.int .i64 kn,.slice pr nr cr,.slice pa na ca] 45)=w1):=e1;clear e1;rcases hx with rfl | rfl
  all_goals
    go_enter Tryz.func157,Tryz.ntmps157
    go_wp2_with fail
    rw [E1.out];refine (CO.out w1).mono ?_;rintro e w2 ⟨rfl,b2⟩;have X2:=(b2.block _ (lt_of_block X1)).trans X1;have B2:Hid (Below w.heap.size w w2):=B1.out.trans (b2.mono B1.out.size);clear b2 X1 B1 CO E1;have c0:=cellOf X2 0 _ rfl;have c1:=cellOf X2 1 _ rfl;have c2:=cellOf X2 2 _ rfl;clear X2;go_wp2_with fail
    refine (N1.out _ _ (B2.out.trans ((bel1 _ _).mono B2.out.size)) (Blk.new _ _ _)).mono ?_;rintro e w3 ⟨rfl,b3⟩;have BZ:Hid (Below w.heap.size w w3):=B2.out.trans (((bel1 _ _).trans (b3.mono (by simp))).mono B2.out.size);clear b3 N1 B2;go_wp2
    go_ret;exact ⟨rfl,BZ.out⟩
theorem insText_abc (x : MIns) (hx : x.op = 10) : InsTx x := by
  intro cs w h0 hp0 hs;obtain ⟨pr,cr,pa,ca,rfl,h1,h2,r0,ra,rb,rc,rk,rn⟩:=ins_form h0;obtain ⟨s1,s2⟩:=hs;have hwl:=op_len x.op;have CO:Hid (∀ wx:World,Calls Tryz.prog 12 #[.int .i64 x.op] wx fun e w'=>e=.returned (.string (str (wordAt opWords x.op)))∧Below wx.heap.size wx w'):=fun wx=>pOp_any x.op wx;have N1:Hid (∀ (h:Nat) (wx:World),Below w.heap.size w wx→Blk wx h #[.int .i64 x.a,.int .i64 x.b,.int .i64 x.c] 3→Calls Tryz.prog 191 #[.string (str (wordAt opWords x.op)),.slice (some ⟨h,0,none⟩) 3 3] wx fun e w'=>e=.returned (.string (str ((wordAt opWords x.op)++[x.a,x.b,x.c].flatMap nT)))∧Below wx.heap.size wx w'):=fun h wx hb hB=>numberedB (wordAt opWords x.op) [x.a,x.b,x.c] 3 rfl (by decide) (by first | omega | (rw [join_two];have:=kind_len x.k;simp;omega)) (by intro y hy;simp at hy;rcases hy with rfl | rfl | rfl <;> assumption) h wx (hp0.below hb) hB
  have T:Hid (wordAt opWords x.op++[x.a,x.b,x.c].flatMap nT=x.txt):=by
    show _=_;simp [MIns.txt,MIns.rest,hx]
  rw [T.out] at N1;clear T;clear h0 h1 h2 hp0 s1 s2 hwl r0 ra rb rc rk rn;generalize x.txt=res at N1 ⊢;generalize wordAt opWords x.op=wd at *;generalize x.op=o at *;generalize x.a=ka at *;generalize x.b=kb at *;generalize x.c=kc at *;generalize x.k=kk at *;generalize x.n=kn at *;generalize x.regs.length=nr at *;generalize x.args.length=na at *;clear x;obtain ⟨w1,e1⟩:∃ w1,w.alloc (.cells #[.int .i64 o,.int .i64 ka,.int .i64 kb,.int .i64 kc,.int .i64 kk,.int .i64 kn,.slice pr nr cr,.slice pa na ca] 45)=w1:=⟨_,rfl⟩;have X1:Blk w1 w.heap.size #[.int .i64 o,.int .i64 ka,.int .i64 kb,.int .i64 kc,.int .i64 kk,.int .i64 kn,.slice pr nr cr,.slice pa na ca] 45:=e1 ▸ Blk.new _ _ _;have B1:Hid (Below w.heap.size w w1):=e1 ▸ bel1 _ _;have E1:Hid (w.alloc (.cells #[.int .i64 o,.int .i64 ka,.int .i64 kb,.int .i64 kc,.int .i64 kk,.int .i64 kn,.slice pr nr cr,.slice pa na ca] 45)=w1):=e1;clear e1;rcases hx with rfl
  all_goals
    go_enter Tryz.func157,Tryz.ntmps157
    go_wp2_with fail
    rw [E1.out];refine (CO.out w1).mono ?_;rintro e w2 ⟨rfl,b2⟩;have X2:=(b2.block _ (lt_of_block X1)).trans X1;have B2:Hid (Below w.heap.size w w2):=B1.out.trans (b2.mono B1.out.size);clear b2 X1 B1 CO E1;have c0:=cellOf X2 0 _ rfl;have c1:=cellOf X2 1 _ rfl;have c2:=cellOf X2 2 _ rfl;have c3:=cellOf X2 3 _ rfl;clear X2;go_wp2_with fail
    refine (N1.out _ _ (B2.out.trans ((bel1 _ _).mono B2.out.size)) (Blk.new _ _ _)).mono ?_;rintro e w3 ⟨rfl,b3⟩;have BZ:Hid (Below w.heap.size w w3):=B2.out.trans (((bel1 _ _).trans (b3.mono (by simp))).mono B2.out.size);clear b3 N1 B2;go_wp2
    go_ret;exact ⟨rfl,BZ.out⟩
theorem insText_1 (x : MIns) (hx : x.op = 1) : InsTx x := by
  intro cs w h0 hp0 hs;obtain ⟨pr,cr,pa,ca,rfl,h1,h2,r0,ra,rb,rc,rk,rn⟩:=ins_form h0;obtain ⟨s1,s2⟩:=hs;have hwl:=op_len x.op;have CO:Hid (∀ wx:World,Calls Tryz.prog 12 #[.int .i64 x.op] wx fun e w'=>e=.returned (.string (str (wordAt opWords x.op)))∧Below wx.heap.size wx w'):=fun wx=>pOp_any x.op wx;have CF:Hid (∀ wx,Below w.heap.size w wx→Calls Tryz.prog 111 #[.int .i64 x.n,.int .i64 10] wx fun e w'=>e=.returned (.string (str (Lib.itoa x.n)))∧Below wx.heap.size wx w'):=fun wx hb=>fmt_any _ rn wx (hp0.below hb)
  have D:Hid (∀ (h:Nat) (wx:World),Blk wx h #[.string (str (wordAt opWords x.op)),.string (str (Lib.itoa x.n))] 9→Calls Tryz.prog 150 #[.slice (some ⟨h,0,none⟩) 2 2] wx fun e w'=>e=.returned (.string (str x.txt))∧Below wx.heap.size wx w'):=fun h wx hb=>by
    have e:x.txt=Lib.join [wordAt opWords x.op,Lib.itoa x.n] [32]:=by rw [join_two];simp [MIns.txt,MIns.rest,hx,nT]
    have l0:=Lib.itoa_length_le _ rn.1 rn.2;rw [e];exact spacedB [wordAt opWords x.op,Lib.itoa x.n] 2 rfl (by decide) (by rw [join_two];simp;omega) h wx hb
  clear h0 h1 h2 hp0 s1 s2 hwl r0 ra rb rc rk rn;generalize x.txt=res at D ⊢;generalize Lib.itoa x.n=zn at CF D;generalize wordAt opWords x.op=wd at *;rw [hx] at CO ⊢;clear hx;generalize x.a=ka at *;generalize x.b=kb at *;generalize x.c=kc at *;generalize x.k=kk at *;generalize x.n=kn at *;generalize x.regs.length=nr at *;generalize x.args.length=na at *;clear x;have X1:Blk (w.alloc (.cells #[.int .i64 1,.int .i64 ka,.int .i64 kb,.int .i64 kc,.int .i64 kk,.int .i64 kn,.slice pr nr cr,.slice pa na ca] 45)) w.heap.size #[.int .i64 1,.int .i64 ka,.int .i64 kb,.int .i64 kc,.int .i64 kk,.int .i64 kn,.slice pr nr cr,.slice pa na ca] 45:=Blk.new _ _ _;have B1:Hid (Below w.heap.size w (w.alloc (.cells #[.int .i64 1,.int .i64 ka,.int .i64 kb,.int .i64 kc,.int .i64 kk,.int .i64 kn,.slice pr nr cr,.slice pa na ca] 45))):=bel1 _ _;go_enter Tryz.func157,Tryz.ntmps157
  go_wp2_with fail
  generalize w.alloc (.cells #[.int .i64 1,.int .i64 ka,.int .i64 kb,.int .i64 kc,.int .i64 kk,.int .i64 kn,.slice pr nr cr,.slice pa na ca] 45)=w1 at X1 B1 ⊢;refine (CO.out w1).mono ?_;rintro e w2 ⟨rfl,b2⟩;have X2:=(b2.block _ (lt_of_block X1)).trans X1;have B2:Hid (Below w.heap.size w w2):=B1.out.trans (b2.mono B1.out.size);clear b2 X1 B1 CO w1;have c0:=cellOf X2 0 _ rfl;have c5:=cellOf X2 5 _ rfl;clear X2;go_wp2_with fail
  refine (CF.out w2 B2.out).mono ?_;rintro e w3 ⟨rfl,b3⟩;have B3:Hid (Below w.heap.size w w3):=B2.out.trans (b3.mono B2.out.size);clear b3 CF B2;go_wp2_with fail
  refine (D.out _ _ (Blk.new _ _ _)).mono ?_;rintro e w4 ⟨rfl,b4⟩;have BZ:Hid (Below w.heap.size w w4):=B3.out.trans (((bel1 _ _).trans (b4.mono (by simp))).mono B3.out.size);clear b4 D B3;go_wp2
  go_ret;exact ⟨rfl,BZ.out⟩
theorem insText_2 (x : MIns) (hx : x.op = 2) : InsTx x := by
  intro cs w h0 hp0 hs;obtain ⟨pr,cr,pa,ca,rfl,h1,h2,r0,ra,rb,rc,rk,rn⟩:=ins_form h0;obtain ⟨s1,s2⟩:=hs;have hwl:=op_len x.op;have CO:Hid (∀ wx:World,Calls Tryz.prog 12 #[.int .i64 x.op] wx fun e w'=>e=.returned (.string (str (wordAt opWords x.op)))∧Below wx.heap.size wx w'):=fun wx=>pOp_any x.op wx;have CK:Hid (∀ wx,Below w.heap.size w wx→Calls Tryz.prog 14 #[.int .i64 x.k] wx fun e w'=>e=.returned (.string (str (wordAt kindWords x.k)))∧Below wx.heap.size wx w'):=fun wx _=>pKind_any x.k wx
  have D:Hid (∀ (h:Nat) (wx:World),Blk wx h #[.string (str (wordAt opWords x.op)),.string (str (wordAt kindWords x.k))] 9→Calls Tryz.prog 150 #[.slice (some ⟨h,0,none⟩) 2 2] wx fun e w'=>e=.returned (.string (str (Lib.join [wordAt opWords x.op,wordAt kindWords x.k] [32])))∧Below wx.heap.size wx w'):=fun h wx hb=>by
    have l1:=kind_len x.k;exact spacedB [wordAt opWords x.op,wordAt kindWords x.k] 2 rfl (by decide) (by rw [join_two];simp;omega) h wx hb
  have N1:Hid (∀ (h:Nat) (wx:World),Below w.heap.size w wx→Blk wx h #[.int .i64 x.a,.int .i64 x.b] 3→Calls Tryz.prog 191 #[.string (str (Lib.join [wordAt opWords x.op,wordAt kindWords x.k] [32])),.slice (some ⟨h,0,none⟩) 2 2] wx fun e w'=>e=.returned (.string (str ((Lib.join [wordAt opWords x.op,wordAt kindWords x.k] [32])++[x.a,x.b].flatMap nT)))∧Below wx.heap.size wx w'):=fun h wx hb hB=>numberedB (Lib.join [wordAt opWords x.op,wordAt kindWords x.k] [32]) [x.a,x.b] 2 rfl (by decide) (by first | omega | (rw [join_two];have:=kind_len x.k;simp;omega)) (by intro y hy;simp at hy;rcases hy with rfl | rfl <;> assumption) h wx (hp0.below hb) hB
  have T:Hid (Lib.join [wordAt opWords x.op,wordAt kindWords x.k] [32]++[x.a,x.b].flatMap nT=x.txt):=by
    show _=_;rw [join_two];simp [MIns.txt,MIns.rest,hx]
  rw [T.out] at N1;clear T;clear h0 h1 h2 hp0 s1 s2 hwl r0 ra rb rc rk rn;generalize x.txt=res at N1 ⊢;generalize Lib.join [wordAt opWords x.op,wordAt kindWords x.k] [32]=zs at D N1;generalize wordAt kindWords x.k=kw at CK D;generalize wordAt opWords x.op=wd at *;rw [hx] at CO ⊢;clear hx;generalize x.a=ka at *;generalize x.b=kb at *;generalize x.c=kc at *;generalize x.k=kk at *;generalize x.n=kn at *;generalize x.regs.length=nr at *;generalize x.args.length=na at *;clear x;have X1:Blk (w.alloc (.cells #[.int .i64 2,.int .i64 ka,.int .i64 kb,.int .i64 kc,.int .i64 kk,.int .i64 kn,.slice pr nr cr,.slice pa na ca] 45)) w.heap.size #[.int .i64 2,.int .i64 ka,.int .i64 kb,.int .i64 kc,.int .i64 kk,.int .i64 kn,.slice pr nr cr,.slice pa na ca] 45:=Blk.new _ _ _;have B1:Hid (Below w.heap.size w (w.alloc (.cells #[.int .i64 2,.int .i64 ka,.int .i64 kb,.int .i64 kc,.int .i64 kk,.int .i64 kn,.slice pr nr cr,.slice pa na ca] 45))):=bel1 _ _;go_enter Tryz.func157,Tryz.ntmps157
  go_wp2_with fail
  generalize w.alloc (.cells #[.int .i64 2,.int .i64 ka,.int .i64 kb,.int .i64 kc,.int .i64 kk,.int .i64 kn,.slice pr nr cr,.slice pa na ca] 45)=w1 at X1 B1 ⊢;refine (CO.out w1).mono ?_;rintro e w2 ⟨rfl,b2⟩;have X2:=(b2.block _ (lt_of_block X1)).trans X1;have B2:Hid (Below w.heap.size w w2):=B1.out.trans (b2.mono B1.out.size);clear b2 X1 B1 CO w1;have c0:=cellOf X2 0 _ rfl;have hB:∀ {wx:World},Below w2.heap.size w2 wx→Below w.heap.size w wx:=fun h=>B2.out.trans (h.mono B2.out.size);go_wp2_with fail
  refine wp_puts [19,20,21,22,23,24,25,26,27,28,29,30,2] (fun vs w'=>vs 2=.string (str res)∧Below w2.heap.size w2 w') ?_ ?_
  · refine wp_region_calm (PTab.E ([(1,fun v _=>v=.pointer (some ⟨w.heap.size,0,none⟩)),(3,fun v _=>v=.string (str wd)),(19,fun v _=>v=.string (str wd)),(20,fun v _=>v=.pointer (some ⟨w.heap.size,4,none⟩)),(21,fun v _=>v=.int .i64 kk),(22,fun v _=>v=.string (str kw)),(24,fun v _=>v=.string (str zs)),(25,fun v _=>v=.pointer (some ⟨w.heap.size,1,none⟩)),(26,fun v _=>v=.int .i64 ka),(27,fun v _=>v=.pointer (some ⟨w.heap.size,2,none⟩)),(28,fun v _=>v=.int .i64 kb),(30,fun v _=>v=.string (str res)),(2,fun v _=>v=.string (str res)),(23,fun v w=>∃ h,v=.slice (some ⟨h,0,none⟩) 2 2∧Blk w h #[.string (str wd),.string (str kw)] 9),(29,fun v w=>∃ h,v=.slice (some ⟨h,0,none⟩) 2 2∧Blk w h #[.int .i64 ka,.int .i64 kb] 3)]:PTab)) (fun wx=>Below w2.heap.size w2 wx) (fun w w'=>Below w.heap.size w w') (outs:=[1,3]) (gs:=[]) (bs:=[true,true,true,true,true,true,true,true,true,true,true,true,true]) (by kernel_rfl) (n:=109) rfl (Nat.le_refl _) (by kernel_rfl) (PTab_stable _ ⟨fun _ _ _ _ h=>h,fun _ _ _ _ h=>h,fun _ _ _ _ h=>h,fun _ _ _ _ h=>h,fun _ _ _ _ h=>h,fun _ _ _ _ h=>h,fun _ _ _ _ h=>h,fun _ _ _ _ h=>h,fun _ _ _ _ h=>h,fun _ _ _ _ h=>h,fun _ _ _ _ h=>h,fun _ _ _ _ h=>h,fun _ _ _ _ h=>h,fun v w w' hr ⟨h,e,hb⟩=>⟨h,e,(hr.block h (lt_of_block hb)).trans hb⟩,fun v w w' hr ⟨h,e,hb⟩=>⟨h,e,(hr.block h (lt_of_block hb)).trans hb⟩,trivial⟩) ?hG (drewN_below (m:=1) (Below.refl _ _)) ⟨rfl,rfl,trivial⟩ ?hA ?hend
    case hG=>exact trivial
    case hend=>exact fun vs w' hW hk=>⟨rfl,vs,rfl,hk 2 (by kernel_rfl),hW⟩
    case hA =>
      refine ⟨fun ac wc hW hk K hK=>?_,?_⟩
      · obtain ⟨q0,-⟩:=hk;have q0:ac.tmps.getD 3 undef=.string (str wd):=q0;go_simp;exact hK _ _ (Below.refl _ _) hW rfl
      refine ⟨fun ac wc hW hk K hK=>?_,?_⟩
      · obtain ⟨q0,-⟩:=hk;have q0:ac.tmps.getD 1 undef=.pointer (some ⟨w.heap.size,0,none⟩):=q0;go_simp;exact hK _ _ (Below.refl _ _) hW rfl
      refine ⟨fun ac wc hW hk K hK=>?_,?_⟩
      · obtain ⟨q0,-⟩:=hk;have q0:ac.tmps.getD 20 undef=.pointer (some ⟨w.heap.size,4,none⟩):=q0;have c0:=cellOf ((hW.block _ (lt_of_block X2)).trans X2) 4 _ rfl;go_simp;exact hK _ _ (Below.refl _ _) hW rfl
      refine ⟨fun ac wc hW hk K hK=>?_,?_⟩
      · obtain ⟨q0,-⟩:=hk;have q0:ac.tmps.getD 21 undef=.int .i64 kk:=q0;go_simp;refine (CK.out wc (hB hW)).mono ?_;rintro r7 w7 ⟨rfl,b7⟩;go_simp;exact hK _ _ b7 (hW.trans (b7.mono hW.size)) rfl
      refine ⟨fun ac wc hW hk K hK=>?_,?_⟩
      · obtain ⟨q0,q1,-⟩:=hk;have q0:ac.tmps.getD 19 undef=.string (str wd):=q0;have q1:ac.tmps.getD 22 undef=.string (str kw):=q1;simp only [Array.getD_eq_getD_getElem?] at q0 q1;go_simp;exact hK _ _ (bel1 _ _) (hW.trans ((bel1 _ _).mono hW.size)) ⟨_,rfl,Blk.new _ _ _⟩
      refine ⟨fun ac wc hW hk K hK=>?_,?_⟩
      · obtain ⟨q0,-⟩:=hk;have q0:(fun v w=>∃ h,v=.slice (some ⟨h,0,none⟩) 2 2∧Blk w h #[.string (str wd),.string (str kw)] 9) (ac.tmps.getD 23 undef) wc:=q0;generalize q0e:ac.tmps.getD 23 undef=uq0 at q0;obtain ⟨h,rfl,hb⟩:=q0;go_simp;refine (D.out h wc hb).mono ?_;rintro r7 w7 ⟨rfl,b7⟩;go_simp;exact hK _ _ b7 (hW.trans (b7.mono hW.size)) rfl
      refine ⟨fun ac wc hW hk K hK=>?_,?_⟩
      · obtain ⟨q0,-⟩:=hk;have q0:ac.tmps.getD 1 undef=.pointer (some ⟨w.heap.size,0,none⟩):=q0;go_simp;exact hK _ _ (Below.refl _ _) hW rfl
      refine ⟨fun ac wc hW hk K hK=>?_,?_⟩
      · obtain ⟨q0,-⟩:=hk;have q0:ac.tmps.getD 25 undef=.pointer (some ⟨w.heap.size,1,none⟩):=q0;have c0:=cellOf ((hW.block _ (lt_of_block X2)).trans X2) 1 _ rfl;go_simp;exact hK _ _ (Below.refl _ _) hW rfl
      refine ⟨fun ac wc hW hk K hK=>?_,?_⟩
      · obtain ⟨q0,-⟩:=hk;have q0:ac.tmps.getD 1 undef=.pointer (some ⟨w.heap.size,0,none⟩):=q0;go_simp;exact hK _ _ (Below.refl _ _) hW rfl
      refine ⟨fun ac wc hW hk K hK=>?_,?_⟩
      · obtain ⟨q0,-⟩:=hk;have q0:ac.tmps.getD 27 undef=.pointer (some ⟨w.heap.size,2,none⟩):=q0;have c0:=cellOf ((hW.block _ (lt_of_block X2)).trans X2) 2 _ rfl;go_simp;exact hK _ _ (Below.refl _ _) hW rfl
      refine ⟨fun ac wc hW hk K hK=>?_,?_⟩
      · obtain ⟨q0,q1,-⟩:=hk;have q0:ac.tmps.getD 26 undef=.int .i64 ka:=q0;have q1:ac.tmps.getD 28 undef=.int .i64 kb:=q1;simp only [Array.getD_eq_getD_getElem?] at q0 q1;go_simp;exact hK _ _ (bel1 _ _) (hW.trans ((bel1 _ _).mono hW.size)) ⟨_,rfl,Blk.new _ _ _⟩
      refine ⟨fun ac wc hW hk K hK=>?_,?_⟩
      · obtain ⟨q0,q1,-⟩:=hk;have q0:ac.tmps.getD 24 undef=.string (str zs):=q0;have q1:(fun v w=>∃ h,v=.slice (some ⟨h,0,none⟩) 2 2∧Blk w h #[.int .i64 ka,.int .i64 kb] 3) (ac.tmps.getD 29 undef) wc:=q1;generalize q1e:ac.tmps.getD 29 undef=uq1 at q1;obtain ⟨h,rfl,hb⟩:=q1;go_simp;refine (N1.out h wc (hB hW) hb).mono ?_;rintro r7 w7 ⟨rfl,b7⟩;go_simp;exact hK _ _ b7 (hW.trans (b7.mono hW.size)) rfl
      refine ⟨fun ac wc hW hk K hK=>?_,?_⟩
      · obtain ⟨q0,-⟩:=hk;have q0:ac.tmps.getD 30 undef=.string (str res):=q0;go_simp;exact hK _ _ (Below.refl _ _) hW rfl
      trivial
  rintro vs wx ⟨hv0,hb⟩;simp only [puts,Act.put,List.setIfInBounds_toArray,List.set_cons_zero,List.set_cons_succ,hv0];have BZ:Hid (Below w.heap.size w wx):=hB hb;clear hb hB X2 B2;go_wp2
  go_ret;exact ⟨rfl,BZ.out⟩
theorem insText_5 (x : MIns) (hx : x.op = 5) : InsTx x := by
  intro cs w h0 hp0 hs;obtain ⟨pr,cr,pa,ca,rfl,h1,h2,r0,ra,rb,rc,rk,rn⟩:=ins_form h0;obtain ⟨s1,s2⟩:=hs;have hwl:=op_len x.op;have CO:Hid (∀ wx:World,Calls Tryz.prog 12 #[.int .i64 x.op] wx fun e w'=>e=.returned (.string (str (wordAt opWords x.op)))∧Below wx.heap.size wx w'):=fun wx=>pOp_any x.op wx;have CA:Hid (∀ wx,Below w.heap.size w wx→Calls Tryz.prog 192 #[.slice pa x.args.length ca] wx fun e w'=>e=.returned (.string (str (intsT 40 41 x.args)))∧Below wx.heap.size wx w'):=fun wx hb=>args_any _ _ _ wx (Lay.below h2 hb) (hp0.below hb) s2;have N1:Hid (∀ (h:Nat) (wx:World),Below w.heap.size w wx→Blk wx h #[.int .i64 x.a] 3→Calls Tryz.prog 191 #[.string (str (wordAt opWords x.op)),.slice (some ⟨h,0,none⟩) 1 1] wx fun e w'=>e=.returned (.string (str ((wordAt opWords x.op)++[x.a].flatMap nT)))∧Below wx.heap.size wx w'):=fun h wx hb hB=>numberedB (wordAt opWords x.op) [x.a] 1 rfl (by decide) (by first | omega | (rw [join_two];have:=kind_len x.k;simp;omega)) (by intro y hy;simp at hy;rcases hy with rfl <;> assumption) h wx (hp0.below hb) hB
  have D:Hid (∀ (h:Nat) (wx:World),Blk wx h #[.string (str (wordAt opWords x.op++[x.a].flatMap nT)),.string (str (intsT 40 41 x.args))] 9→Calls Tryz.prog 150 #[.slice (some ⟨h,0,none⟩) 2 2] wx fun e w'=>e=.returned (.string (str (x.txt)))∧Below wx.heap.size wx w'):=fun h wx hb=>by
    have l1:=ints_len 40 41 h2 s2;have l2:=nT_len ra;have e:x.txt=Lib.join [wordAt opWords x.op++[x.a].flatMap nT,intsT 40 41 x.args] [32]:=by rw [join_two];simp [MIns.txt,MIns.rest,hx]
    rw [e];exact spacedB [wordAt opWords x.op++[x.a].flatMap nT,intsT 40 41 x.args] 2 rfl (by decide) (by rw [join_two];simp;omega) h wx hb
  clear h0 h1 h2 hp0 s1 s2 hwl r0 ra rb rc rk rn;generalize x.txt=res at D ⊢;generalize wordAt opWords x.op++[x.a].flatMap nT=zs at D N1;generalize intsT 40 41 x.args=za at CA D;generalize wordAt opWords x.op=wd at *;rw [hx] at CO ⊢;clear hx;generalize x.a=ka at *;generalize x.b=kb at *;generalize x.c=kc at *;generalize x.k=kk at *;generalize x.n=kn at *;generalize x.regs.length=nr at *;generalize x.args.length=na at *;clear x;have X1:Blk (w.alloc (.cells #[.int .i64 5,.int .i64 ka,.int .i64 kb,.int .i64 kc,.int .i64 kk,.int .i64 kn,.slice pr nr cr,.slice pa na ca] 45)) w.heap.size #[.int .i64 5,.int .i64 ka,.int .i64 kb,.int .i64 kc,.int .i64 kk,.int .i64 kn,.slice pr nr cr,.slice pa na ca] 45:=Blk.new _ _ _;have B1:Hid (Below w.heap.size w (w.alloc (.cells #[.int .i64 5,.int .i64 ka,.int .i64 kb,.int .i64 kc,.int .i64 kk,.int .i64 kn,.slice pr nr cr,.slice pa na ca] 45))):=bel1 _ _;go_enter Tryz.func157,Tryz.ntmps157
  go_wp2_with fail
  generalize w.alloc (.cells #[.int .i64 5,.int .i64 ka,.int .i64 kb,.int .i64 kc,.int .i64 kk,.int .i64 kn,.slice pr nr cr,.slice pa na ca] 45)=w1 at X1 B1 ⊢;refine (CO.out w1).mono ?_;rintro e w2 ⟨rfl,b2⟩;have X2:=(b2.block _ (lt_of_block X1)).trans X1;have B2:Hid (Below w.heap.size w w2):=B1.out.trans (b2.mono B1.out.size);clear b2 X1 B1 CO w1;have c0:=cellOf X2 0 _ rfl;have hB:∀ {wx:World},Below w2.heap.size w2 wx→Below w.heap.size w wx:=fun h=>B2.out.trans (h.mono B2.out.size);go_wp2_with fail
  refine wp_puts [42,43,44,45,46,47,48,49,50,51,2] (fun vs w'=>vs 2=.string (str res)∧Below w2.heap.size w2 w') ?_ ?_
  · refine wp_region_calm (PTab.E ([(1,fun v _=>v=.pointer (some ⟨w.heap.size,0,none⟩)),(3,fun v _=>v=.string (str wd)),(42,fun v _=>v=.string (str wd)),(43,fun v _=>v=.pointer (some ⟨w.heap.size,1,none⟩)),(44,fun v _=>v=.int .i64 ka),(46,fun v _=>v=.string (str zs)),(47,fun v _=>v=.pointer (some ⟨w.heap.size,7,none⟩)),(48,fun v _=>v=.slice pa na ca),(49,fun v _=>v=.string (str za)),(51,fun v _=>v=.string (str res)),(2,fun v _=>v=.string (str res)),(45,fun v w=>∃ h,v=.slice (some ⟨h,0,none⟩) 1 1∧Blk w h #[.int .i64 ka] 3),(50,fun v w=>∃ h,v=.slice (some ⟨h,0,none⟩) 2 2∧Blk w h #[.string (str zs),.string (str za)] 9)]:PTab)) (fun wx=>Below w2.heap.size w2 wx) (fun w w'=>Below w.heap.size w w') (outs:=[1,3]) (gs:=[]) (bs:=[true,true,true,true,true,true,true,true,true,true,true]) (by kernel_rfl) (n:=109) rfl (Nat.le_refl _) (by kernel_rfl) (PTab_stable _ ⟨fun _ _ _ _ h=>h,fun _ _ _ _ h=>h,fun _ _ _ _ h=>h,fun _ _ _ _ h=>h,fun _ _ _ _ h=>h,fun _ _ _ _ h=>h,fun _ _ _ _ h=>h,fun _ _ _ _ h=>h,fun _ _ _ _ h=>h,fun _ _ _ _ h=>h,fun _ _ _ _ h=>h,fun v w w' hr ⟨h,e,hb⟩=>⟨h,e,(hr.block h (lt_of_block hb)).trans hb⟩,fun v w w' hr ⟨h,e,hb⟩=>⟨h,e,(hr.block h (lt_of_block hb)).trans hb⟩,trivial⟩) ?hG (drewN_below (m:=1) (Below.refl _ _)) ⟨rfl,rfl,trivial⟩ ?hA ?hend
    case hG=>exact trivial
    case hend=>exact fun vs w' hW hk=>⟨rfl,vs,rfl,hk 2 (by kernel_rfl),hW⟩
    case hA =>
      refine ⟨fun ac wc hW hk K hK=>?_,?_⟩
      · obtain ⟨q0,-⟩:=hk;have q0:ac.tmps.getD 3 undef=.string (str wd):=q0;go_simp;exact hK _ _ (Below.refl _ _) hW rfl
      refine ⟨fun ac wc hW hk K hK=>?_,?_⟩
      · obtain ⟨q0,-⟩:=hk;have q0:ac.tmps.getD 1 undef=.pointer (some ⟨w.heap.size,0,none⟩):=q0;go_simp;exact hK _ _ (Below.refl _ _) hW rfl
      refine ⟨fun ac wc hW hk K hK=>?_,?_⟩
      · obtain ⟨q0,-⟩:=hk;have q0:ac.tmps.getD 43 undef=.pointer (some ⟨w.heap.size,1,none⟩):=q0;have c0:=cellOf ((hW.block _ (lt_of_block X2)).trans X2) 1 _ rfl;go_simp;exact hK _ _ (Below.refl _ _) hW rfl
      refine ⟨fun ac wc hW hk K hK=>?_,?_⟩
      · obtain ⟨q0,-⟩:=hk;have q0:ac.tmps.getD 44 undef=.int .i64 ka:=q0;simp only [Array.getD_eq_getD_getElem?] at q0;go_simp;exact hK _ _ (bel1 _ _) (hW.trans ((bel1 _ _).mono hW.size)) ⟨_,rfl,Blk.new _ _ _⟩
      refine ⟨fun ac wc hW hk K hK=>?_,?_⟩
      · obtain ⟨q0,q1,-⟩:=hk;have q0:ac.tmps.getD 42 undef=.string (str wd):=q0;have q1:(fun v w=>∃ h,v=.slice (some ⟨h,0,none⟩) 1 1∧Blk w h #[.int .i64 ka] 3) (ac.tmps.getD 45 undef) wc:=q1;generalize q1e:ac.tmps.getD 45 undef=uq1 at q1;obtain ⟨h,rfl,hb⟩:=q1;go_simp;refine (N1.out h wc (hB hW) hb).mono ?_;rintro r7 w7 ⟨rfl,b7⟩;go_simp;exact hK _ _ b7 (hW.trans (b7.mono hW.size)) rfl
      refine ⟨fun ac wc hW hk K hK=>?_,?_⟩
      · obtain ⟨q0,-⟩:=hk;have q0:ac.tmps.getD 1 undef=.pointer (some ⟨w.heap.size,0,none⟩):=q0;go_simp;exact hK _ _ (Below.refl _ _) hW rfl
      refine ⟨fun ac wc hW hk K hK=>?_,?_⟩
      · obtain ⟨q0,-⟩:=hk;have q0:ac.tmps.getD 47 undef=.pointer (some ⟨w.heap.size,7,none⟩):=q0;have c0:=cellOf ((hW.block _ (lt_of_block X2)).trans X2) 7 _ rfl;go_simp;exact hK _ _ (Below.refl _ _) hW rfl
      refine ⟨fun ac wc hW hk K hK=>?_,?_⟩
      · obtain ⟨q0,-⟩:=hk;have q0:ac.tmps.getD 48 undef=.slice pa na ca:=q0;go_simp;refine (CA.out wc (hB hW)).mono ?_;rintro r7 w7 ⟨rfl,b7⟩;go_simp;exact hK _ _ b7 (hW.trans (b7.mono hW.size)) rfl
      refine ⟨fun ac wc hW hk K hK=>?_,?_⟩
      · obtain ⟨q0,q1,-⟩:=hk;have q0:ac.tmps.getD 46 undef=.string (str zs):=q0;have q1:ac.tmps.getD 49 undef=.string (str za):=q1;simp only [Array.getD_eq_getD_getElem?] at q0 q1;go_simp;exact hK _ _ (bel1 _ _) (hW.trans ((bel1 _ _).mono hW.size)) ⟨_,rfl,Blk.new _ _ _⟩
      refine ⟨fun ac wc hW hk K hK=>?_,?_⟩
      · obtain ⟨q0,-⟩:=hk;have q0:(fun v w=>∃ h,v=.slice (some ⟨h,0,none⟩) 2 2∧Blk w h #[.string (str zs),.string (str za)] 9) (ac.tmps.getD 50 undef) wc:=q0;generalize q0e:ac.tmps.getD 50 undef=uq0 at q0;obtain ⟨h,rfl,hb⟩:=q0;go_simp;refine (D.out h wc hb).mono ?_;rintro r7 w7 ⟨rfl,b7⟩;go_simp;exact hK _ _ b7 (hW.trans (b7.mono hW.size)) rfl
      refine ⟨fun ac wc hW hk K hK=>?_,?_⟩
      · obtain ⟨q0,-⟩:=hk;have q0:ac.tmps.getD 51 undef=.string (str res):=q0;go_simp;exact hK _ _ (Below.refl _ _) hW rfl
      trivial
  rintro vs wx ⟨hv0,hb⟩;simp only [puts,Act.put,List.setIfInBounds_toArray,List.set_cons_zero,List.set_cons_succ,hv0];have BZ:Hid (Below w.heap.size w wx):=hB hb;clear hb hB X2 B2;go_wp2
  go_ret;exact ⟨rfl,BZ.out⟩
theorem insText_14 (x : MIns) (hx : x.op = 14) : InsTx x := by
  intro cs w h0 hp0 hs;obtain ⟨pr,cr,pa,ca,rfl,h1,h2,r0,ra,rb,rc,rk,rn⟩:=ins_form h0;obtain ⟨s1,s2⟩:=hs;have hwl:=op_len x.op;have CO:Hid (∀ wx:World,Calls Tryz.prog 12 #[.int .i64 x.op] wx fun e w'=>e=.returned (.string (str (wordAt opWords x.op)))∧Below wx.heap.size wx w'):=fun wx=>pOp_any x.op wx;have CA:Hid (∀ wx,Below w.heap.size w wx→Calls Tryz.prog 192 #[.slice pa x.args.length ca] wx fun e w'=>e=.returned (.string (str (intsT 40 41 x.args)))∧Below wx.heap.size wx w'):=fun wx hb=>args_any _ _ _ wx (Lay.below h2 hb) (hp0.below hb) s2;have CR:Hid (∀ wx,Below w.heap.size w wx→Calls Tryz.prog 193 #[.slice pr x.regs.length cr] wx fun e w'=>e=.returned (.string (str (intsT 60 62 x.regs)))∧Below wx.heap.size wx w'):=fun wx hb=>regs_any _ _ _ wx (Lay.below h1 hb) (hp0.below hb) s1;have N1:Hid (∀ (h:Nat) (wx:World),Below w.heap.size w wx→Blk wx h #[.int .i64 x.k] 3→Calls Tryz.prog 191 #[.string (str (wordAt opWords x.op)),.slice (some ⟨h,0,none⟩) 1 1] wx fun e w'=>e=.returned (.string (str ((wordAt opWords x.op)++[x.k].flatMap nT)))∧Below wx.heap.size wx w'):=fun h wx hb hB=>numberedB (wordAt opWords x.op) [x.k] 1 rfl (by decide) (by first | omega | (rw [join_two];have:=kind_len x.k;simp;omega)) (by intro y hy;simp at hy;rcases hy with rfl <;> assumption) h wx (hp0.below hb) hB
  have D:Hid (∀ (h:Nat) (wx:World),Blk wx h #[.string (str (wordAt opWords x.op++[x.k].flatMap nT)),.string (str (intsT 60 62 x.regs)),.string (str (intsT 40 41 x.args))] 9→Calls Tryz.prog 150 #[.slice (some ⟨h,0,none⟩) 3 3] wx fun e w'=>e=.returned (.string (str (x.txt)))∧Below wx.heap.size wx w'):=fun h wx hb=>by
    have l1:=ints_len 40 41 h2 s2;have l3:=ints_len 60 62 h1 s1;have l2:=nT_len rk;have e:x.txt=Lib.join [wordAt opWords x.op++[x.k].flatMap nT,intsT 60 62 x.regs,intsT 40 41 x.args] [32]:=by rw [join_three];simp [MIns.txt,MIns.rest,hx]
    rw [e];exact spacedB [wordAt opWords x.op++[x.k].flatMap nT,intsT 60 62 x.regs,intsT 40 41 x.args] 3 rfl (by decide) (by rw [join_three];simp;omega) h wx hb
  clear h0 h1 h2 hp0 s1 s2 hwl r0 ra rb rc rk rn;generalize x.txt=res at D ⊢;generalize wordAt opWords x.op++[x.k].flatMap nT=zs at D N1;generalize intsT 40 41 x.args=za at CA D;generalize intsT 60 62 x.regs=zr at CR D;generalize wordAt opWords x.op=wd at *;rw [hx] at CO ⊢;clear hx;generalize x.a=ka at *;generalize x.b=kb at *;generalize x.c=kc at *;generalize x.k=kk at *;generalize x.n=kn at *;generalize x.regs.length=nr at *;generalize x.args.length=na at *;clear x;have X1:Blk (w.alloc (.cells #[.int .i64 14,.int .i64 ka,.int .i64 kb,.int .i64 kc,.int .i64 kk,.int .i64 kn,.slice pr nr cr,.slice pa na ca] 45)) w.heap.size #[.int .i64 14,.int .i64 ka,.int .i64 kb,.int .i64 kc,.int .i64 kk,.int .i64 kn,.slice pr nr cr,.slice pa na ca] 45:=Blk.new _ _ _;have B1:Hid (Below w.heap.size w (w.alloc (.cells #[.int .i64 14,.int .i64 ka,.int .i64 kb,.int .i64 kc,.int .i64 kk,.int .i64 kn,.slice pr nr cr,.slice pa na ca] 45))):=bel1 _ _;go_enter Tryz.func157,Tryz.ntmps157
  go_wp2_with fail
  generalize w.alloc (.cells #[.int .i64 14,.int .i64 ka,.int .i64 kb,.int .i64 kc,.int .i64 kk,.int .i64 kn,.slice pr nr cr,.slice pa na ca] 45)=w1 at X1 B1 ⊢;refine (CO.out w1).mono ?_;rintro e w2 ⟨rfl,b2⟩;have X2:=(b2.block _ (lt_of_block X1)).trans X1;have B2:Hid (Below w.heap.size w w2):=B1.out.trans (b2.mono B1.out.size);clear b2 X1 B1 CO w1;have c0:=cellOf X2 0 _ rfl;have hB:∀ {wx:World},Below w2.heap.size w2 wx→Below w.heap.size w wx:=fun h=>B2.out.trans (h.mono B2.out.size);go_wp2_with fail
  refine wp_puts [95,96,97,98,99,100,101,102,103,104,105,106,107,2] (fun vs w'=>vs 2=.string (str res)∧Below w2.heap.size w2 w') ?_ ?_
  · refine wp_region_calm (PTab.E ([(1,fun v _=>v=.pointer (some ⟨w.heap.size,0,none⟩)),(3,fun v _=>v=.string (str wd)),(95,fun v _=>v=.string (str wd)),(96,fun v _=>v=.pointer (some ⟨w.heap.size,4,none⟩)),(97,fun v _=>v=.int .i64 kk),(99,fun v _=>v=.string (str zs)),(100,fun v _=>v=.pointer (some ⟨w.heap.size,6,none⟩)),(101,fun v _=>v=.slice pr nr cr),(102,fun v _=>v=.string (str zr)),(103,fun v _=>v=.pointer (some ⟨w.heap.size,7,none⟩)),(104,fun v _=>v=.slice pa na ca),(105,fun v _=>v=.string (str za)),(107,fun v _=>v=.string (str res)),(2,fun v _=>v=.string (str res)),(98,fun v w=>∃ h,v=.slice (some ⟨h,0,none⟩) 1 1∧Blk w h #[.int .i64 kk] 3),(106,fun v w=>∃ h,v=.slice (some ⟨h,0,none⟩) 3 3∧Blk w h #[.string (str zs),.string (str zr),.string (str za)] 9)]:PTab)) (fun wx=>Below w2.heap.size w2 wx) (fun w w'=>Below w.heap.size w w') (outs:=[1,3]) (gs:=[]) (bs:=[true,true,true,true,true,true,true,true,true,true,true,true,true,true]) (by kernel_rfl) (n:=109) rfl (Nat.le_refl _) (by kernel_rfl) (PTab_stable _ ⟨fun _ _ _ _ h=>h,fun _ _ _ _ h=>h,fun _ _ _ _ h=>h,fun _ _ _ _ h=>h,fun _ _ _ _ h=>h,fun _ _ _ _ h=>h,fun _ _ _ _ h=>h,fun _ _ _ _ h=>h,fun _ _ _ _ h=>h,fun _ _ _ _ h=>h,fun _ _ _ _ h=>h,fun _ _ _ _ h=>h,fun _ _ _ _ h=>h,fun _ _ _ _ h=>h,fun v w w' hr ⟨h,e,hb⟩=>⟨h,e,(hr.block h (lt_of_block hb)).trans hb⟩,fun v w w' hr ⟨h,e,hb⟩=>⟨h,e,(hr.block h (lt_of_block hb)).trans hb⟩,trivial⟩) ?hG (drewN_below (m:=1) (Below.refl _ _)) ⟨rfl,rfl,trivial⟩ ?hA ?hend
    case hG=>exact trivial
    case hend=>exact fun vs w' hW hk=>⟨rfl,vs,rfl,hk 2 (by kernel_rfl),hW⟩
    case hA =>
      refine ⟨fun ac wc hW hk K hK=>?_,?_⟩
      · obtain ⟨q0,-⟩:=hk;have q0:ac.tmps.getD 3 undef=.string (str wd):=q0;go_simp;exact hK _ _ (Below.refl _ _) hW rfl
      refine ⟨fun ac wc hW hk K hK=>?_,?_⟩
      · obtain ⟨q0,-⟩:=hk;have q0:ac.tmps.getD 1 undef=.pointer (some ⟨w.heap.size,0,none⟩):=q0;go_simp;exact hK _ _ (Below.refl _ _) hW rfl
      refine ⟨fun ac wc hW hk K hK=>?_,?_⟩
      · obtain ⟨q0,-⟩:=hk;have q0:ac.tmps.getD 96 undef=.pointer (some ⟨w.heap.size,4,none⟩):=q0;have c0:=cellOf ((hW.block _ (lt_of_block X2)).trans X2) 4 _ rfl;go_simp;exact hK _ _ (Below.refl _ _) hW rfl
      refine ⟨fun ac wc hW hk K hK=>?_,?_⟩
      · obtain ⟨q0,-⟩:=hk;have q0:ac.tmps.getD 97 undef=.int .i64 kk:=q0;simp only [Array.getD_eq_getD_getElem?] at q0;go_simp;exact hK _ _ (bel1 _ _) (hW.trans ((bel1 _ _).mono hW.size)) ⟨_,rfl,Blk.new _ _ _⟩
      refine ⟨fun ac wc hW hk K hK=>?_,?_⟩
      · obtain ⟨q0,q1,-⟩:=hk;have q0:ac.tmps.getD 95 undef=.string (str wd):=q0;have q1:(fun v w=>∃ h,v=.slice (some ⟨h,0,none⟩) 1 1∧Blk w h #[.int .i64 kk] 3) (ac.tmps.getD 98 undef) wc:=q1;generalize q1e:ac.tmps.getD 98 undef=uq1 at q1;obtain ⟨h,rfl,hb⟩:=q1;go_simp;refine (N1.out h wc (hB hW) hb).mono ?_;rintro r7 w7 ⟨rfl,b7⟩;go_simp;exact hK _ _ b7 (hW.trans (b7.mono hW.size)) rfl
      refine ⟨fun ac wc hW hk K hK=>?_,?_⟩
      · obtain ⟨q0,-⟩:=hk;have q0:ac.tmps.getD 1 undef=.pointer (some ⟨w.heap.size,0,none⟩):=q0;go_simp;exact hK _ _ (Below.refl _ _) hW rfl
      refine ⟨fun ac wc hW hk K hK=>?_,?_⟩
      · obtain ⟨q0,-⟩:=hk;have q0:ac.tmps.getD 100 undef=.pointer (some ⟨w.heap.size,6,none⟩):=q0;have c0:=cellOf ((hW.block _ (lt_of_block X2)).trans X2) 6 _ rfl;go_simp;exact hK _ _ (Below.refl _ _) hW rfl
      refine ⟨fun ac wc hW hk K hK=>?_,?_⟩
      · obtain ⟨q0,-⟩:=hk;have q0:ac.tmps.getD 101 undef=.slice pr nr cr:=q0;go_simp;refine (CR.out wc (hB hW)).mono ?_;rintro r7 w7 ⟨rfl,b7⟩;go_simp;exact hK _ _ b7 (hW.trans (b7.mono hW.size)) rfl
      refine ⟨fun ac wc hW hk K hK=>?_,?_⟩
      · obtain ⟨q0,-⟩:=hk;have q0:ac.tmps.getD 1 undef=.pointer (some ⟨w.heap.size,0,none⟩):=q0;go_simp;exact hK _ _ (Below.refl _ _) hW rfl
      refine ⟨fun ac wc hW hk K hK=>?_,?_⟩
      · obtain ⟨q0,-⟩:=hk;have q0:ac.tmps.getD 103 undef=.pointer (some ⟨w.heap.size,7,none⟩):=q0;have c0:=cellOf ((hW.block _ (lt_of_block X2)).trans X2) 7 _ rfl;go_simp;exact hK _ _ (Below.refl _ _) hW rfl
      refine ⟨fun ac wc hW hk K hK=>?_,?_⟩
      · obtain ⟨q0,-⟩:=hk;have q0:ac.tmps.getD 104 undef=.slice pa na ca:=q0;go_simp;refine (CA.out wc (hB hW)).mono ?_;rintro r7 w7 ⟨rfl,b7⟩;go_simp;exact hK _ _ b7 (hW.trans (b7.mono hW.size)) rfl
      refine ⟨fun ac wc hW hk K hK=>?_,?_⟩
      · obtain ⟨q0,q1,q2,-⟩:=hk;have q0:ac.tmps.getD 99 undef=.string (str zs):=q0;have q1:ac.tmps.getD 102 undef=.string (str zr):=q1;have q2:ac.tmps.getD 105 undef=.string (str za):=q2;simp only [Array.getD_eq_getD_getElem?] at q0 q1 q2;go_simp;exact hK _ _ (bel1 _ _) (hW.trans ((bel1 _ _).mono hW.size)) ⟨_,rfl,Blk.new _ _ _⟩
      refine ⟨fun ac wc hW hk K hK=>?_,?_⟩
      · obtain ⟨q0,-⟩:=hk;have q0:(fun v w=>∃ h,v=.slice (some ⟨h,0,none⟩) 3 3∧Blk w h #[.string (str zs),.string (str zr),.string (str za)] 9) (ac.tmps.getD 106 undef) wc:=q0;generalize q0e:ac.tmps.getD 106 undef=uq0 at q0;obtain ⟨h,rfl,hb⟩:=q0;go_simp;refine (D.out h wc hb).mono ?_;rintro r7 w7 ⟨rfl,b7⟩;go_simp;exact hK _ _ b7 (hW.trans (b7.mono hW.size)) rfl
      refine ⟨fun ac wc hW hk K hK=>?_,?_⟩
      · obtain ⟨q0,-⟩:=hk;have q0:ac.tmps.getD 107 undef=.string (str res):=q0;go_simp;exact hK _ _ (Below.refl _ _) hW rfl
      trivial
  rintro vs wx ⟨hv0,hb⟩;simp only [puts,Act.put,List.setIfInBounds_toArray,List.set_cons_zero,List.set_cons_succ,hv0];have BZ:Hid (Below w.heap.size w wx):=hB hb;clear hb hB X2 B2;go_wp2
  go_ret;exact ⟨rfl,BZ.out⟩
theorem insText_any {funcs : Nat} (x : MIns) (hf : (fieldsOf x.op).isNone = false) : InsTx x := by
  have h:x.op=1∨x.op=2∨x.op=3∨x.op=4∨x.op=5∨x.op=6∨x.op=7∨x.op=8∨x.op=9∨x.op=10∨x.op=11∨x.op=12∨x.op=13∨x.op=14:=by
    unfold fieldsOf at hf;repeat' split at hf
    all_goals first | omega | cases hf
  rcases h with h | h | h | h | h | h | h | h | h | h | h | h | h | h
  · exact insText_1 x h
  · exact insText_2 x h
  · exact insText_none x (.inl h)
  · exact insText_a x (.inl h)
  · exact insText_5 x h
  · exact insText_ak x h
  · exact insText_akb x h
  · exact insText_ab x (.inl h)
  · exact insText_ab x (.inr h)
  · exact insText_abc x h
  · exact insText_a x (.inr (.inl h))
  · exact insText_none x (.inr h)
  · exact insText_a x (.inr (.inr h))
  · exact insText_14 x h
theorem join_five (a b c d e sep : List UInt8) : Lib.join [a, b, c, d, e] sep = a ++ (sep ++ (b ++ (sep ++ (c ++ (sep ++ (d ++ (sep ++ e))))))) := by simp [Lib.join_cons, Lib.joinTail]
theorem to_len {t : MTo} {w : World} {O : Nat → Prop} {cs : List Value} (h : toL.In w O t cs) (hs : t.small) : t.txt.length ≤ 15000 := by
  obtain ⟨a,c,b,d,rfl,h1,h2,h3⟩:=to_form h;have l1:=ints_len 60 62 h1 hs.1;have l2:=ints_len 40 41 h2 hs.2;have l0:=Lib.itoa_length_le _ h3.1 h3.2;simp only [MTo.txt,List.length_append,List.length_cons];omega
def EndTx (x : MEnd) : Prop := ∀ (cs : List Value) (w : World), endL.In w All x cs → Pows w → x.small → Calls Tryz.prog 158 #[.agg cs.toArray] w fun e w' => e = .returned (.string (str x.txt)) ∧ Below w.heap.size w w'
theorem endText_1 (x : MEnd) (hx : x.op = 1) : EndTx x := by
  intro cs w h0 hp0 hs;obtain ⟨c1,c2,pa,ca,rfl,hy,hn,h4,r0,ra⟩:=end_form h0;obtain ⟨s1,s2,s3⟩:=hs;have ly:=to_len hy s1;have ln:=to_len hn s2;have la:=ints_len 40 41 h4 s3;have lx:=nT_len ra;obtain ⟨pyr,cyr,pya,cya,rfl,_,_,_⟩:=to_form hy;obtain ⟨pnr,cnr,pna,cna,rfl,_,_,_⟩:=to_form hn;have CY:Hid (∀ wx,Below w.heap.size w wx→Calls Tryz.prog 194 #[.agg #[.int .i64 x.yes.block,.slice pyr x.yes.regs.length cyr,.slice pya x.yes.args.length cya]] wx fun e w'=>e=.returned (.string (str x.yes.txt))∧Below wx.heap.size wx w'):=fun wx hb=>toText_any x.yes _ wx (Lay.below hy hb) (hp0.below hb) s1
  have D:Hid (∀ (h:Nat) (wx:World),Blk wx h #[.string (str ([106,117,109,112])),.string (str (x.yes.txt))] 9→Calls Tryz.prog 150 #[.slice (some ⟨h,0,none⟩) 2 2] wx fun e w'=>e=.returned (.string (str (x.txt)))∧Below wx.heap.size wx w'):=fun h wx hb=>by
    have e:x.txt=Lib.join [[106,117,109,112],x.yes.txt] [32]:=by rw [join_two];simp [MEnd.txt,hx,wJump,wIf,wTo,wElse,wRet]
    rw [e];exact spacedB [[106,117,109,112],x.yes.txt] 2 rfl (by decide) (by rw [join_two];simp;omega) h wx hb
  clear h0 hy hn h4 hp0 s1 s2 s3 r0 ra ly ln la lx;generalize x.txt=res at D ⊢;generalize x.yes.txt=zy at CY D;rw [hx];clear hx;generalize x.a=ka at *;generalize x.yes.block=yb at *;generalize x.yes.regs.length=nyr at *;generalize x.yes.args.length=nya at *;generalize x.no.block=nb at *;generalize x.no.regs.length=nnr at *;generalize x.no.args.length=nna at *;generalize x.args.length=na at *;rename_i z1 z2 z3 z4 z5 z6
  clear z1 z2 z3 z4 z5 z6;have X1:Blk (w.alloc (.cells #[.int .i64 1,.int .i64 ka,.int .i64 yb,.slice pyr nyr cyr,.slice pya nya cya,.int .i64 nb,.slice pnr nnr cnr,.slice pna nna cna,.slice pa na ca] 50)) w.heap.size #[.int .i64 1,.int .i64 ka,.int .i64 yb,.slice pyr nyr cyr,.slice pya nya cya,.int .i64 nb,.slice pnr nnr cnr,.slice pna nna cna,.slice pa na ca] 50:=Blk.new _ _ _;have B1:Hid (Below w.heap.size w (w.alloc (.cells #[.int .i64 1,.int .i64 ka,.int .i64 yb,.slice pyr nyr cyr,.slice pya nya cya,.int .i64 nb,.slice pnr nnr cnr,.slice pna nna cna,.slice pa na ca] 50))):=bel1 _ _;go_enter Tryz.func158,Tryz.ntmps158
  go_wp2_with fail
  generalize w.alloc (.cells #[.int .i64 1,.int .i64 ka,.int .i64 yb,.slice pyr nyr cyr,.slice pya nya cya,.int .i64 nb,.slice pnr nnr cnr,.slice pna nna cna,.slice pa na ca] 50)=w1 at X1 B1 ⊢;refine (CY.out w1 B1.out).mono ?_;rintro e w3 ⟨rfl,b3⟩;have B3:Hid (Below w.heap.size w w3):=B1.out.trans (b3.mono B1.out.size);clear b3 B1 X1;go_wp2_with fail
  refine (D.out _ _ (Blk.new _ _ _)).mono ?_;rintro e w4 ⟨rfl,b4⟩;have BZ:Hid (Below w.heap.size w w4):=B3.out.trans (((bel1 _ _).trans (b4.mono (by simp))).mono B3.out.size);clear b4 D B3;go_wp2
  go_ret;exact ⟨rfl,BZ.out⟩
theorem endText_3 (x : MEnd) (hx : x.op = 3) : EndTx x := by
  intro cs w h0 hp0 hs;obtain ⟨c1,c2,pa,ca,rfl,hy,hn,h4,r0,ra⟩:=end_form h0;obtain ⟨s1,s2,s3⟩:=hs;have ly:=to_len hy s1;have ln:=to_len hn s2;have la:=ints_len 40 41 h4 s3;have lx:=nT_len ra;obtain ⟨pyr,cyr,pya,cya,rfl,_,_,_⟩:=to_form hy;obtain ⟨pnr,cnr,pna,cna,rfl,_,_,_⟩:=to_form hn;have CA:Hid (∀ wx,Below w.heap.size w wx→Calls Tryz.prog 192 #[.slice pa x.args.length ca] wx fun e w'=>e=.returned (.string (str (intsT 40 41 x.args)))∧Below wx.heap.size wx w'):=fun wx hb=>args_any _ _ _ wx (Lay.below h4 hb) (hp0.below hb) s3
  have D:Hid (∀ (h:Nat) (wx:World),Blk wx h #[.string (str ([114,101,116])),.string (str (intsT 40 41 x.args))] 9→Calls Tryz.prog 150 #[.slice (some ⟨h,0,none⟩) 2 2] wx fun e w'=>e=.returned (.string (str (x.txt)))∧Below wx.heap.size wx w'):=fun h wx hb=>by
    have e:x.txt=Lib.join [[114,101,116],intsT 40 41 x.args] [32]:=by rw [join_two];simp [MEnd.txt,hx,wJump,wIf,wTo,wElse,wRet]
    rw [e];exact spacedB [[114,101,116],intsT 40 41 x.args] 2 rfl (by decide) (by rw [join_two];simp;omega) h wx hb
  clear h0 hy hn h4 hp0 s1 s2 s3 r0 ra ly ln la lx;generalize x.txt=res at D ⊢;generalize intsT 40 41 x.args=za at CA D;rw [hx];clear hx;generalize x.a=ka at *;generalize x.yes.block=yb at *;generalize x.yes.regs.length=nyr at *;generalize x.yes.args.length=nya at *;generalize x.no.block=nb at *;generalize x.no.regs.length=nnr at *;generalize x.no.args.length=nna at *;generalize x.args.length=na at *;rename_i z1 z2 z3 z4 z5 z6
  clear z1 z2 z3 z4 z5 z6;have X1:Blk (w.alloc (.cells #[.int .i64 3,.int .i64 ka,.int .i64 yb,.slice pyr nyr cyr,.slice pya nya cya,.int .i64 nb,.slice pnr nnr cnr,.slice pna nna cna,.slice pa na ca] 50)) w.heap.size #[.int .i64 3,.int .i64 ka,.int .i64 yb,.slice pyr nyr cyr,.slice pya nya cya,.int .i64 nb,.slice pnr nnr cnr,.slice pna nna cna,.slice pa na ca] 50:=Blk.new _ _ _;have B1:Hid (Below w.heap.size w (w.alloc (.cells #[.int .i64 3,.int .i64 ka,.int .i64 yb,.slice pyr nyr cyr,.slice pya nya cya,.int .i64 nb,.slice pnr nnr cnr,.slice pna nna cna,.slice pa na ca] 50))):=bel1 _ _;go_enter Tryz.func158,Tryz.ntmps158
  go_wp2_with fail
  generalize w.alloc (.cells #[.int .i64 3,.int .i64 ka,.int .i64 yb,.slice pyr nyr cyr,.slice pya nya cya,.int .i64 nb,.slice pnr nnr cnr,.slice pna nna cna,.slice pa na ca] 50)=w1 at X1 B1 ⊢;refine (CA.out w1 B1.out).mono ?_;rintro e w3 ⟨rfl,b3⟩;have B3:Hid (Below w.heap.size w w3):=B1.out.trans (b3.mono B1.out.size);clear b3 B1 X1;go_wp2_with fail
  refine (D.out _ _ (Blk.new _ _ _)).mono ?_;rintro e w4 ⟨rfl,b4⟩;have BZ:Hid (Below w.heap.size w w4):=B3.out.trans (((bel1 _ _).trans (b4.mono (by simp))).mono B3.out.size);clear b4 D B3;go_wp2
  go_ret;exact ⟨rfl,BZ.out⟩
theorem endText_2 (x : MEnd) (hx : x.op = 2) : EndTx x := by
  intro cs w h0 hp0 hs;obtain ⟨c1,c2,pa,ca,rfl,hy,hn,h4,r0,ra⟩:=end_form h0;obtain ⟨s1,s2,s3⟩:=hs;have ly:=to_len hy s1;have ln:=to_len hn s2;have la:=ints_len 40 41 h4 s3;have lx:=nT_len ra;obtain ⟨pyr,cyr,pya,cya,rfl,_,_,_⟩:=to_form hy;obtain ⟨pnr,cnr,pna,cna,rfl,_,_,_⟩:=to_form hn;have CY:Hid (∀ wx,Below w.heap.size w wx→Calls Tryz.prog 194 #[.agg #[.int .i64 x.yes.block,.slice pyr x.yes.regs.length cyr,.slice pya x.yes.args.length cya]] wx fun e w'=>e=.returned (.string (str x.yes.txt))∧Below wx.heap.size wx w'):=fun wx hb=>toText_any x.yes _ wx (Lay.below hy hb) (hp0.below hb) s1;have CN:Hid (∀ wx,Below w.heap.size w wx→Calls Tryz.prog 194 #[.agg #[.int .i64 x.no.block,.slice pnr x.no.regs.length cnr,.slice pna x.no.args.length cna]] wx fun e w'=>e=.returned (.string (str x.no.txt))∧Below wx.heap.size wx w'):=fun wx hb=>toText_any x.no _ wx (Lay.below hn hb) (hp0.below hb) s2
  have N1:Hid (∀ (h:Nat) (wx:World),Below w.heap.size w wx→Blk wx h #[.int .i64 x.a] 3→Calls Tryz.prog 191 #[.string ⟨#[105,102]⟩,.slice (some ⟨h,0,none⟩) 1 1] wx fun e w'=>e=.returned (.string (str ([105,102]++nT x.a)))∧Below wx.heap.size wx w'):=fun h wx hb hB=>by
    have:=numberedB [105,102] [x.a] 1 rfl (by decide) (by decide) (by intro y hy;simp at hy;subst hy;exact ra) h wx (hp0.below hb) hB
    rw [List.flatMap_cons,List.flatMap_nil,List.append_nil] at this;exact this
  have D:Hid (∀ (h:Nat) (wx:World),Blk wx h #[.string (str ([105,102]++nT x.a)),.string (str ([116,111])),.string (str (x.yes.txt)),.string (str ([101,108,115,101])),.string (str (x.no.txt))] 9→Calls Tryz.prog 150 #[.slice (some ⟨h,0,none⟩) 5 5] wx fun e w'=>e=.returned (.string (str (x.txt)))∧Below wx.heap.size wx w'):=fun h wx hb=>by
    have e:x.txt=Lib.join [[105,102]++nT x.a,[116,111],x.yes.txt,[101,108,115,101],x.no.txt] [32]:=by rw [join_five];simp [MEnd.txt,hx,wJump,wIf,wTo,wElse,wRet]
    rw [e];exact spacedB [[105,102]++nT x.a,[116,111],x.yes.txt,[101,108,115,101],x.no.txt] 5 rfl (by decide) (by rw [join_five];simp;omega) h wx hb
  clear h0 hy hn h4 hp0 s1 s2 s3 r0 ra ly ln la lx;generalize x.txt=res at D ⊢;generalize [105,102]++nT x.a=zi at N1 D;generalize x.yes.txt=zy at CY D;generalize x.no.txt=zn at CN D;rw [hx];clear hx;generalize x.a=ka at *;generalize x.yes.block=yb at *;generalize x.yes.regs.length=nyr at *;generalize x.yes.args.length=nya at *;generalize x.no.block=nb at *;generalize x.no.regs.length=nnr at *;generalize x.no.args.length=nna at *;generalize x.args.length=na at *;rename_i z1 z2 z3 z4 z5 z6
  clear z1 z2 z3 z4 z5 z6;have X1:Blk (w.alloc (.cells #[.int .i64 2,.int .i64 ka,.int .i64 yb,.slice pyr nyr cyr,.slice pya nya cya,.int .i64 nb,.slice pnr nnr cnr,.slice pna nna cna,.slice pa na ca] 50)) w.heap.size #[.int .i64 2,.int .i64 ka,.int .i64 yb,.slice pyr nyr cyr,.slice pya nya cya,.int .i64 nb,.slice pnr nnr cnr,.slice pna nna cna,.slice pa na ca] 50:=Blk.new _ _ _;have B1:Hid (Below w.heap.size w (w.alloc (.cells #[.int .i64 2,.int .i64 ka,.int .i64 yb,.slice pyr nyr cyr,.slice pya nya cya,.int .i64 nb,.slice pnr nnr cnr,.slice pna nna cna,.slice pa na ca] 50))):=bel1 _ _;go_enter Tryz.func158,Tryz.ntmps158
  go_wp2_with fail
  generalize w.alloc (.cells #[.int .i64 2,.int .i64 ka,.int .i64 yb,.slice pyr nyr cyr,.slice pya nya cya,.int .i64 nb,.slice pnr nnr cnr,.slice pna nna cna,.slice pa na ca] 50)=w1 at X1 B1 ⊢;have hB:∀ {wx:World},Below w1.heap.size w1 wx→Below w.heap.size w wx:=fun h=>B1.out.trans (h.mono B1.out.size);refine wp_puts [14,15,16,17,18,19,20,21,22,23,24,25,2] (fun vs w'=>vs 2=.string (str res)∧Below w1.heap.size w1 w') ?_ ?_
  · refine wp_region_calm (PTab.E ([(1,fun v _=>v=.pointer (some ⟨w.heap.size,0,none⟩)),(14,fun v _=>v=.pointer (some ⟨w.heap.size,1,none⟩)),(15,fun v _=>v=.int .i64 ka),(17,fun v _=>v=.string (str zi)),(18,fun v _=>v=.pointer (some ⟨w.heap.size,2,none⟩)),(19,fun v _=>v=.agg #[.int .i64 yb,.slice pyr nyr cyr,.slice pya nya cya]),(20,fun v _=>v=.string (str zy)),(21,fun v _=>v=.pointer (some ⟨w.heap.size,5,none⟩)),(22,fun v _=>v=.agg #[.int .i64 nb,.slice pnr nnr cnr,.slice pna nna cna]),(23,fun v _=>v=.string (str zn)),(25,fun v _=>v=.string (str res)),(2,fun v _=>v=.string (str res)),(16,fun v w=>∃ h,v=.slice (some ⟨h,0,none⟩) 1 1∧Blk w h #[.int .i64 ka] 3),(24,fun v w=>∃ h,v=.slice (some ⟨h,0,none⟩) 5 5∧Blk w h #[.string (str zi),.string ⟨#[116,111]⟩,.string (str zy),.string ⟨#[101,108,115,101]⟩,.string (str zn)] 9)]:PTab)) (fun wx=>Below w1.heap.size w1 wx) (fun w w'=>Below w.heap.size w w') (outs:=[1]) (gs:=[]) (bs:=[true,true,true,true,true,true,true,true,true,true,true,true,true]) (by kernel_rfl) (n:=31) rfl (Nat.le_refl _) (by kernel_rfl) (PTab_stable _ ⟨fun _ _ _ _ h=>h,fun _ _ _ _ h=>h,fun _ _ _ _ h=>h,fun _ _ _ _ h=>h,fun _ _ _ _ h=>h,fun _ _ _ _ h=>h,fun _ _ _ _ h=>h,fun _ _ _ _ h=>h,fun _ _ _ _ h=>h,fun _ _ _ _ h=>h,fun _ _ _ _ h=>h,fun _ _ _ _ h=>h,fun v w w' hr ⟨h,e,hb⟩=>⟨h,e,(hr.block h (lt_of_block hb)).trans hb⟩,fun v w w' hr ⟨h,e,hb⟩=>⟨h,e,(hr.block h (lt_of_block hb)).trans hb⟩,trivial⟩) ?hG (drewN_below (m:=1) (Below.refl _ _)) ⟨rfl,trivial⟩ ?hA ?hend
    case hG=>exact trivial
    case hend=>exact fun vs w' hW hk=>⟨rfl,vs,rfl,hk 2 (by kernel_rfl),hW⟩
    case hA =>
      refine ⟨fun ac wc hW hk K hK=>?_,?_⟩
      · obtain ⟨q0,-⟩:=hk;have q0:ac.tmps.getD 1 undef=.pointer (some ⟨w.heap.size,0,none⟩):=q0;go_simp;exact hK _ _ (Below.refl _ _) hW rfl
      refine ⟨fun ac wc hW hk K hK=>?_,?_⟩
      · obtain ⟨q0,-⟩:=hk;have q0:ac.tmps.getD 14 undef=.pointer (some ⟨w.heap.size,1,none⟩):=q0;have c0:=cellOf ((hW.block _ (lt_of_block X1)).trans X1) 1 _ rfl;go_simp;exact hK _ _ (Below.refl _ _) hW rfl
      refine ⟨fun ac wc hW hk K hK=>?_,?_⟩
      · obtain ⟨q0,-⟩:=hk;have q0:ac.tmps.getD 15 undef=.int .i64 ka:=q0;simp only [Array.getD_eq_getD_getElem?] at q0;go_simp;exact hK _ _ (bel1 _ _) (hW.trans ((bel1 _ _).mono hW.size)) ⟨_,rfl,Blk.new _ _ _⟩
      refine ⟨fun ac wc hW hk K hK=>?_,?_⟩
      · obtain ⟨q0,-⟩:=hk;have q0:(fun v w=>∃ h,v=.slice (some ⟨h,0,none⟩) 1 1∧Blk w h #[.int .i64 ka] 3) (ac.tmps.getD 16 undef) wc:=q0;generalize q0e:ac.tmps.getD 16 undef=uq0 at q0;obtain ⟨h,rfl,hb⟩:=q0;go_simp;refine (N1.out h wc (hB hW) hb).mono ?_;rintro r7 w7 ⟨rfl,b7⟩;go_simp;exact hK _ _ b7 (hW.trans (b7.mono hW.size)) rfl
      refine ⟨fun ac wc hW hk K hK=>?_,?_⟩
      · obtain ⟨q0,-⟩:=hk;have q0:ac.tmps.getD 1 undef=.pointer (some ⟨w.heap.size,0,none⟩):=q0;go_simp;exact hK _ _ (Below.refl _ _) hW rfl
      refine ⟨fun ac wc hW hk K hK=>?_,?_⟩
      · obtain ⟨q0,-⟩:=hk;have q0:ac.tmps.getD 18 undef=.pointer (some ⟨w.heap.size,2,none⟩):=q0;have c0:=cellOf ((hW.block _ (lt_of_block X1)).trans X1) 2 _ rfl;have c1:=cellOf ((hW.block _ (lt_of_block X1)).trans X1) 3 _ rfl;have c2:=cellOf ((hW.block _ (lt_of_block X1)).trans X1) 4 _ rfl;go_simp;exact hK _ _ (Below.refl _ _) hW rfl
      refine ⟨fun ac wc hW hk K hK=>?_,?_⟩
      · obtain ⟨q0,-⟩:=hk;have q0:ac.tmps.getD 19 undef=.agg #[.int .i64 yb,.slice pyr nyr cyr,.slice pya nya cya]:=q0;go_simp;refine (CY.out wc (hB hW)).mono ?_;rintro r7 w7 ⟨rfl,b7⟩;go_simp;exact hK _ _ b7 (hW.trans (b7.mono hW.size)) rfl
      refine ⟨fun ac wc hW hk K hK=>?_,?_⟩
      · obtain ⟨q0,-⟩:=hk;have q0:ac.tmps.getD 1 undef=.pointer (some ⟨w.heap.size,0,none⟩):=q0;go_simp;exact hK _ _ (Below.refl _ _) hW rfl
      refine ⟨fun ac wc hW hk K hK=>?_,?_⟩
      · obtain ⟨q0,-⟩:=hk;have q0:ac.tmps.getD 21 undef=.pointer (some ⟨w.heap.size,5,none⟩):=q0;have c0:=cellOf ((hW.block _ (lt_of_block X1)).trans X1) 5 _ rfl;have c1:=cellOf ((hW.block _ (lt_of_block X1)).trans X1) 6 _ rfl;have c2:=cellOf ((hW.block _ (lt_of_block X1)).trans X1) 7 _ rfl;go_simp;exact hK _ _ (Below.refl _ _) hW rfl
      refine ⟨fun ac wc hW hk K hK=>?_,?_⟩
      · obtain ⟨q0,-⟩:=hk;have q0:ac.tmps.getD 22 undef=.agg #[.int .i64 nb,.slice pnr nnr cnr,.slice pna nna cna]:=q0;go_simp;refine (CN.out wc (hB hW)).mono ?_;rintro r7 w7 ⟨rfl,b7⟩;go_simp;exact hK _ _ b7 (hW.trans (b7.mono hW.size)) rfl
      refine ⟨fun ac wc hW hk K hK=>?_,?_⟩
      · obtain ⟨q0,q1,q2,-⟩:=hk;have q0:ac.tmps.getD 17 undef=.string (str zi):=q0;have q1:ac.tmps.getD 20 undef=.string (str zy):=q1;have q2:ac.tmps.getD 23 undef=.string (str zn):=q2;simp only [Array.getD_eq_getD_getElem?] at q0 q1 q2;go_simp;exact hK _ _ (bel1 _ _) (hW.trans ((bel1 _ _).mono hW.size)) ⟨_,rfl,Blk.new _ _ _⟩
      refine ⟨fun ac wc hW hk K hK=>?_,?_⟩
      · obtain ⟨q0,-⟩:=hk;have q0:(fun v w=>∃ h,v=.slice (some ⟨h,0,none⟩) 5 5∧Blk w h #[.string (str zi),.string ⟨#[116,111]⟩,.string (str zy),.string ⟨#[101,108,115,101]⟩,.string (str zn)] 9) (ac.tmps.getD 24 undef) wc:=q0;generalize q0e:ac.tmps.getD 24 undef=uq0 at q0;obtain ⟨h,rfl,hb⟩:=q0;go_simp;refine (D.out h wc hb).mono ?_;rintro r7 w7 ⟨rfl,b7⟩;go_simp;exact hK _ _ b7 (hW.trans (b7.mono hW.size)) rfl
      refine ⟨fun ac wc hW hk K hK=>?_,?_⟩
      · obtain ⟨q0,-⟩:=hk;have q0:ac.tmps.getD 25 undef=.string (str res):=q0;go_simp;exact hK _ _ (Below.refl _ _) hW rfl
      trivial
  rintro vs wx ⟨hv0,hb⟩;simp only [puts,Act.put,List.setIfInBounds_toArray,List.set_cons_zero,List.set_cons_succ,hv0];have BZ:Hid (Below w.heap.size w wx):=hB hb;clear hb hB X1 B1;go_wp2
  go_ret;exact ⟨rfl,BZ.out⟩
theorem endText_any (x : MEnd) (h : x.op = 1 ∨ x.op = 2 ∨ x.op = 3) : EndTx x := by
  rcases h with h | h | h
  · exact endText_1 x h
  · exact endText_2 x h
  · exact endText_3 x h
def Tells (B : Nat) (w : World) (Y N : World → Prop) (e : Ending) (w' : World) : Prop := (e = .returned (.bool true) ∧ Y w' ∧ Below B w w') ∨ (e = .returned (.bool false) ∧ N w' ∧ Below B w w')
theorem Tells.yes {B : Nat} {w w' : World} {Y N : World → Prop} (h : Y w') (hb : Below B w w') : Tells B w Y N (.returned (.bool true)) w' := .inl ⟨rfl, h, hb⟩
theorem Tells.no {B : Nat} {w w' : World} {Y N : World → Prop} (h : N w') (hb : Below B w w') : Tells B w Y N (.returned (.bool false)) w' := .inr ⟨rfl, h, hb⟩
theorem everyF_any {n : Nat} {l : List (MFunc n)} {a : Option Addr} {c B : Nat} {w : World} {F : Nat} {fs cs : Array Value} (I : Nat → World → Prop) (J : World → Prop)
    (hE:∀ (args:Array Value) (w:World),(callFunc F args).run Tryz.prog w=.ok (.enter F args) w) (hl0:(funcL n).list.In w (Lt B) l [.slice a l.length c]) (hB:B≤w.heap.size) (hI0:I 0 w)
    (hst0:∀ i wx wy,I i wx→Below wx.heap.size wx wy→I i wy)
    (step0:∀ i x ds wx,l[i]?=some x→Below B w wx→(funcL n).In wx (Lt B) x ds→I i wx→Calls Tryz.prog F (fs.push (.agg ds.toArray)++cs) wx (Tells B wx (I (i+1)) J)) (hn:l.length≤100000) :
    Calls Tryz.prog 80 #[.slice a l.length c,.func (.func F) fs cs] w (Tells B w (I l.length) J):=by
  have hl:Hid ((funcL n).list.In w (Lt B) l [.slice a l.length c]):=hl0;have hst:Hid (∀ i wx wy,I i wx→Below wx.heap.size wx wy→I i wy):=hst0;have step:Hid (∀ i x ds wx,l[i]?=some x→Below B w wx→(funcL n).In wx (Lt B) x ds→I i wx→Calls Tryz.prog F (fs.push (.agg ds.toArray)++cs) wx (Tells B wx (I (i+1)) J)):=step0;have hI:Hid (I 0 w):=hI0;clear hl0 hst0 step0 hI0;go_enter Tryz.func80,Tryz.ntmps80
  go_wp2_with fail
  go_loopw [9] (fun i wr=>∃ q:Nat,q≤l.length∧i=.int .i64 q∧I q wr∧Below B w wr) (fun i _=>l.length - (intOf i).toNat)
  case atStart=>exact ⟨0,Nat.zero_le _,rfl,hI.out,Below.refl _ _⟩
  case round =>
    obtain ⟨q,hq,rfl,hr,hb⟩:=hrel;have Bl:Hid (Below B w wr):=hb;have Ir:Hid (I q wr):=hr;clear hb hr hI;have hsz:=Bl.out.size;by_cases hlt:q<l.length
    · have hx:l[q]?=some l[q]:=List.getElem?_eq_getElem hlt;obtain ⟨g,o,ds,rfl,_,hg,hc,hds⟩:=Lay.list_at (Lay.lt hl.out Bl.out) hx;generalize l[q]=x at hx hds;have hds0:=hds;obtain ⟨a1,k1,a2,k2,a3,k3,rfl,-,-,-,-⟩:=func_form hds;have d0:=hc 0 (show 0<4 by omega);have d1:=hc 1 (show 1<4 by omega);have d2:=hc 2 (show 2<4 by omega);have d3:=hc 3 (show 3<4 by omega);rw [show (funcL n).size=4 from rfl] at d0 d1 d2 d3;simp only [List.getElem?_cons_zero,List.getElem?_cons_succ,Nat.add_zero] at d0 d1 d2 d3;have b1:Below wr.heap.size wr (wr.alloc (.cells #[.int .i64 x.regs,.slice a1 x.params.length k1,.slice a2 x.results.length k2,.slice a3 x.blocks.length k3] 42)):=bel1 _ _;have C:Hid (Calls Tryz.prog F (fs.push (.agg #[.int .i64 x.regs,.slice a1 x.params.length k1,.slice a2 x.results.length k2,.slice a3 x.blocks.length k3])++cs) (wr.alloc (.cells #[.int .i64 x.regs,.slice a1 x.params.length k1,.slice a2 x.results.length k2,.slice a3 x.blocks.length k3] 42)) (Tells B (wr.alloc (.cells #[.int .i64 x.regs,.slice a1 x.params.length k1,.slice a2 x.results.length k2,.slice a3 x.blocks.length k3] 42)) (I (q+1)) J)):=step.out q x _ _ hx (Bl.out.trans (b1.mono (by omega))) (Lay.lt hds0 (b1.mono (by omega))) (hst.out q _ _ Ir.out b1);have B1:Hid (Below B w (wr.alloc (.cells #[.int .i64 x.regs,.slice a1 x.params.length k1,.slice a2 x.results.length k2,.slice a3 x.blocks.length k3] 42))):=Bl.out.trans (b1.mono (by omega));have hk0:(0:Int)≤q:=by omega
      have hk1:(q:Int)<l.length:=by omega
      clear hc hds hds0 b1 Ir Bl hx;go_wp2_with fail
      refine C.out.mono ?_;rintro e w2 (⟨rfl,y2,b2⟩ | ⟨rfl,n2,b2⟩)
      · have Y2:Hid (I (q+1) w2):=y2;have B2:Hid (Below B w w2):=B1.out.trans b2;clear y2 b2 C B1 d0 d1 d2 d3;go_wp2
        go_roundw
        case rel=>exact ⟨q+1,by omega,by go_num,Y2.out,B2.out⟩
        case measure=>simp [intOf];omega
      · have N2:Hid (J w2):=n2;have B2:Hid (Below B w w2):=B1.out.trans b2;clear n2 b2 C B1 d0 d1 d2 d3;go_wp2
        go_ret;exact Tells.no N2.out B2.out
    · have hk1:¬ (q:Int)<l.length:=by omega
      obtain rfl:q=l.length:=by omega
      go_wp2
      go_ret;exact Tells.yes Ir.out Bl.out
theorem everyI_any {l : List MIns} {a : Option Addr} {c B : Nat} {w : World} {F : Nat} {fs cs : Array Value} (I : Nat → World → Prop) (J : World → Prop)
    (hE:∀ (args:Array Value) (w:World),(callFunc F args).run Tryz.prog w=.ok (.enter F args) w) (hl0:(insL).list.In w (Lt B) l [.slice a l.length c]) (hB:B≤w.heap.size) (hI0:I 0 w)
    (hst0:∀ i wx wy,I i wx→Below wx.heap.size wx wy→I i wy)
    (step0:∀ i x ds wx,l[i]?=some x→Below B w wx→(insL).In wx (Lt B) x ds→I i wx→Calls Tryz.prog F (fs.push (.agg ds.toArray)++cs) wx (Tells B wx (I (i+1)) J)) (hn:l.length≤100000) :
    Calls Tryz.prog 84 #[.slice a l.length c,.func (.func F) fs cs] w (Tells B w (I l.length) J):=by
  have hl:Hid ((insL).list.In w (Lt B) l [.slice a l.length c]):=hl0;have hst:Hid (∀ i wx wy,I i wx→Below wx.heap.size wx wy→I i wy):=hst0;have step:Hid (∀ i x ds wx,l[i]?=some x→Below B w wx→(insL).In wx (Lt B) x ds→I i wx→Calls Tryz.prog F (fs.push (.agg ds.toArray)++cs) wx (Tells B wx (I (i+1)) J)):=step0;have hI:Hid (I 0 w):=hI0;clear hl0 hst0 step0 hI0;go_enter Tryz.func84,Tryz.ntmps84
  go_wp2_with fail
  go_loopw [9] (fun i wr=>∃ q:Nat,q≤l.length∧i=.int .i64 q∧I q wr∧Below B w wr) (fun i _=>l.length - (intOf i).toNat)
  case atStart=>exact ⟨0,Nat.zero_le _,rfl,hI.out,Below.refl _ _⟩
  case round =>
    obtain ⟨q,hq,rfl,hr,hb⟩:=hrel;have Bl:Hid (Below B w wr):=hb;have Ir:Hid (I q wr):=hr;clear hb hr hI;have hsz:=Bl.out.size;by_cases hlt:q<l.length
    · have hx:l[q]?=some l[q]:=List.getElem?_eq_getElem hlt;obtain ⟨g,o,ds,rfl,_,hg,hc,hds⟩:=Lay.list_at (Lay.lt hl.out Bl.out) hx;generalize l[q]=x at hx hds;have hds0:=hds;obtain ⟨a1,k1,a2,k2,rfl,-,-,-⟩:=ins_form hds;have d0:=hc 0 (show 0<8 by omega);have d1:=hc 1 (show 1<8 by omega);have d2:=hc 2 (show 2<8 by omega);have d3:=hc 3 (show 3<8 by omega);have d4:=hc 4 (show 4<8 by omega);have d5:=hc 5 (show 5<8 by omega);have d6:=hc 6 (show 6<8 by omega);have d7:=hc 7 (show 7<8 by omega);rw [show (insL).size=8 from rfl] at d0 d1 d2 d3 d4 d5 d6 d7;simp only [List.getElem?_cons_zero,List.getElem?_cons_succ,Nat.add_zero] at d0 d1 d2 d3 d4 d5 d6 d7;have b1:Below wr.heap.size wr (wr.alloc (.cells #[.int .i64 x.op,.int .i64 x.a,.int .i64 x.b,.int .i64 x.c,.int .i64 x.k,.int .i64 x.n,.slice a1 x.regs.length k1,.slice a2 x.args.length k2] 45)):=bel1 _ _;have C:Hid (Calls Tryz.prog F (fs.push (.agg #[.int .i64 x.op,.int .i64 x.a,.int .i64 x.b,.int .i64 x.c,.int .i64 x.k,.int .i64 x.n,.slice a1 x.regs.length k1,.slice a2 x.args.length k2])++cs) (wr.alloc (.cells #[.int .i64 x.op,.int .i64 x.a,.int .i64 x.b,.int .i64 x.c,.int .i64 x.k,.int .i64 x.n,.slice a1 x.regs.length k1,.slice a2 x.args.length k2] 45)) (Tells B (wr.alloc (.cells #[.int .i64 x.op,.int .i64 x.a,.int .i64 x.b,.int .i64 x.c,.int .i64 x.k,.int .i64 x.n,.slice a1 x.regs.length k1,.slice a2 x.args.length k2] 45)) (I (q+1)) J)):=step.out q x _ _ hx (Bl.out.trans (b1.mono (by omega))) (Lay.lt hds0 (b1.mono (by omega))) (hst.out q _ _ Ir.out b1);have B1:Hid (Below B w (wr.alloc (.cells #[.int .i64 x.op,.int .i64 x.a,.int .i64 x.b,.int .i64 x.c,.int .i64 x.k,.int .i64 x.n,.slice a1 x.regs.length k1,.slice a2 x.args.length k2] 45))):=Bl.out.trans (b1.mono (by omega));have hk0:(0:Int)≤q:=by omega
      have hk1:(q:Int)<l.length:=by omega
      clear hc hds hds0 b1 Ir Bl hx;go_wp2_with fail
      refine C.out.mono ?_;rintro e w2 (⟨rfl,y2,b2⟩ | ⟨rfl,n2,b2⟩)
      · have Y2:Hid (I (q+1) w2):=y2;have B2:Hid (Below B w w2):=B1.out.trans b2;clear y2 b2 C B1 d0 d1 d2 d3 d4 d5 d6 d7;go_wp2
        go_roundw
        case rel=>exact ⟨q+1,by omega,by go_num,Y2.out,B2.out⟩
        case measure=>simp [intOf];omega
      · have N2:Hid (J w2):=n2;have B2:Hid (Below B w w2):=B1.out.trans b2;clear n2 b2 C B1 d0 d1 d2 d3 d4 d5 d6 d7;go_wp2
        go_ret;exact Tells.no N2.out B2.out
    · have hk1:¬ (q:Int)<l.length:=by omega
      obtain rfl:q=l.length:=by omega
      go_wp2
      go_ret;exact Tells.yes Ir.out Bl.out
theorem everyN_any {l : List Int} {a : Option Addr} {c B : Nat} {w : World} {F : Nat} {fs cs : Array Value} (I : Nat → World → Prop) (J : World → Prop)
    (hE:∀ (args:Array Value) (w:World),(callFunc F args).run Tryz.prog w=.ok (.enter F args) w) (hl0:(Lay.int).list.In w (Lt B) l [.slice a l.length c]) (hB:B≤w.heap.size) (hI0:I 0 w)
    (hst0:∀ i wx wy,I i wx→Below wx.heap.size wx wy→I i wy)
    (step0:∀ i x wx,l[i]?=some x→Below B w wx→I i wx→Calls Tryz.prog F (fs.push (.int .i64 x)++cs) wx (Tells B wx (I (i+1)) J)) (hn:l.length≤100000) :
    Calls Tryz.prog 147 #[.slice a l.length c,.func (.func F) fs cs] w (Tells B w (I l.length) J):=by
  have hl:Hid ((Lay.int).list.In w (Lt B) l [.slice a l.length c]):=hl0;have hst:Hid (∀ i wx wy,I i wx→Below wx.heap.size wx wy→I i wy):=hst0;have step:Hid (∀ i x wx,l[i]?=some x→Below B w wx→I i wx→Calls Tryz.prog F (fs.push (.int .i64 x)++cs) wx (Tells B wx (I (i+1)) J)):=step0;have hI:Hid (I 0 w):=hI0;clear hl0 hst0 step0 hI0;go_enter Tryz.func147,Tryz.ntmps147
  go_wp2_with fail
  go_loopw [9] (fun i wr=>∃ q:Nat,q≤l.length∧i=.int .i64 q∧I q wr∧Below B w wr) (fun i _=>l.length - (intOf i).toNat)
  case atStart=>exact ⟨0,Nat.zero_le _,rfl,hI.out,Below.refl _ _⟩
  case round =>
    obtain ⟨q,hq,rfl,hr,hb⟩:=hrel;have Bl:Hid (Below B w wr):=hb;have Ir:Hid (I q wr):=hr;clear hb hr hI;have hsz:=Bl.out.size;by_cases hlt:q<l.length
    · have hx:l[q]?=some l[q]:=List.getElem?_eq_getElem hlt;obtain ⟨g,o,ds,rfl,_,hg,hc,hds⟩:=Lay.list_at (Lay.lt hl.out Bl.out) hx;generalize l[q]=x at hx hds;obtain ⟨rfl,hds⟩:=hds;have d0:=hc 0 (show 0<1 by omega);rw [show (Lay.int).size=1 from rfl] at d0;simp only [List.getElem?_cons_zero,List.getElem?_cons_succ,Nat.add_zero,Nat.mul_one] at d0;have C:Hid (Calls Tryz.prog F (fs.push (.int .i64 x)++cs) wr (Tells B wr (I (q+1)) J)):=step.out q x _ hx Bl.out Ir.out;have B1:Hid (Below B w wr):=Bl.out;have hk0:(0:Int)≤q:=by omega
      have hk1:(q:Int)<l.length:=by omega
      clear hc hds Ir Bl hx;go_wp2_with fail
      refine C.out.mono ?_;rintro e w2 (⟨rfl,y2,b2⟩ | ⟨rfl,n2,b2⟩)
      · have Y2:Hid (I (q+1) w2):=y2;have B2:Hid (Below B w w2):=B1.out.trans b2;clear y2 b2 C B1 d0;go_wp2
        go_roundw
        case rel=>exact ⟨q+1,by omega,by go_num,Y2.out,B2.out⟩
        case measure=>simp [intOf];omega
      · have N2:Hid (J w2):=n2;have B2:Hid (Below B w w2):=B1.out.trans b2;clear n2 b2 C B1 d0;go_wp2
        go_ret;exact Tells.no N2.out B2.out
    · have hk1:¬ (q:Int)<l.length:=by omega
      obtain rfl:q=l.length:=by omega
      go_wp2
      go_ret;exact Tells.yes Ir.out Bl.out
theorem everyB_any {n : Nat} {l : List (MBlock n)} {a : Option Addr} {c B : Nat} {w : World} {F : Nat} {fs cs : Array Value} (I : Nat → World → Prop) (J : World → Prop)
    (hE:∀ (args:Array Value) (w:World),(callFunc F args).run Tryz.prog w=.ok (.enter F args) w) (hl0:(blockL n).list.In w (Lt B) l [.slice a l.length c]) (hB:B≤w.heap.size) (hI0:I 0 w)
    (hst0:∀ i wx wy,I i wx→Below wx.heap.size wx wy→I i wy)
    (step0:∀ i x ds wx,l[i]?=some x→Below B w wx→(blockL n).In wx (Lt B) x ds→I i wx→Calls Tryz.prog F (fs.push (.agg ds.toArray)++cs) wx (Tells B wx (I (i+1)) J)) (hn:l.length≤100000) :
    Calls Tryz.prog 82 #[.slice a l.length c,.func (.func F) fs cs] w (Tells B w (I l.length) J):=by
  have hl:Hid ((blockL n).list.In w (Lt B) l [.slice a l.length c]):=hl0;have hst:Hid (∀ i wx wy,I i wx→Below wx.heap.size wx wy→I i wy):=hst0;have step:Hid (∀ i x ds wx,l[i]?=some x→Below B w wx→(blockL n).In wx (Lt B) x ds→I i wx→Calls Tryz.prog F (fs.push (.agg ds.toArray)++cs) wx (Tells B wx (I (i+1)) J)):=step0;have hI:Hid (I 0 w):=hI0;clear hl0 hst0 step0 hI0;go_enter Tryz.func82,Tryz.ntmps82
  go_wp2_with fail
  go_loopw [9] (fun i wr=>∃ q:Nat,q≤l.length∧i=.int .i64 q∧I q wr∧Below B w wr) (fun i _=>l.length - (intOf i).toNat)
  case atStart=>exact ⟨0,Nat.zero_le _,rfl,hI.out,Below.refl _ _⟩
  case round =>
    obtain ⟨q,hq,rfl,hr,hb⟩:=hrel;have Bl:Hid (Below B w wr):=hb;have Ir:Hid (I q wr):=hr;clear hb hr hI;have hsz:=Bl.out.size;by_cases hlt:q<l.length
    · have hx:l[q]?=some l[q]:=List.getElem?_eq_getElem hlt;obtain ⟨g,o,ds,rfl,_,hg,hc,hds⟩:=Lay.list_at (Lay.lt hl.out Bl.out) hx;generalize l[q]=x at hx hds;have hds0:=hds;obtain ⟨a1,k1,a2,k2,es,rfl,-,-,he,-⟩:=block_form hds;obtain ⟨e1,e2,a3,k3,rfl,hy,hno,-,-⟩:=end_form he;obtain ⟨a4,k4,a5,k5,rfl,-,-,-⟩:=to_form hy;obtain ⟨a6,k6,a7,k7,rfl,-,-,-⟩:=to_form hno;clear he hy hno;simp only [List.cons_append,List.nil_append] at hds0 hc;have d0:=hc 0 (show 0<12 by omega);have d1:=hc 1 (show 1<12 by omega);have d2:=hc 2 (show 2<12 by omega);have d3:=hc 3 (show 3<12 by omega);have d4:=hc 4 (show 4<12 by omega);have d5:=hc 5 (show 5<12 by omega);have d6:=hc 6 (show 6<12 by omega);have d7:=hc 7 (show 7<12 by omega);have d8:=hc 8 (show 8<12 by omega);have d9:=hc 9 (show 9<12 by omega);have d10:=hc 10 (show 10<12 by omega);have d11:=hc 11 (show 11<12 by omega);rw [show (blockL n).size=12 from rfl] at d0 d1 d2 d3 d4 d5 d6 d7 d8 d9 d10 d11;simp only [List.getElem?_cons_zero,List.getElem?_cons_succ,Nat.add_zero] at d0 d1 d2 d3 d4 d5 d6 d7 d8 d9 d10 d11;have b1:Below wr.heap.size wr (wr.alloc (.cells #[.int .i64 x.regs,.slice a1 x.params.length k1,.slice a2 x.code.length k2,.int .i64 x.fin.op,.int .i64 x.fin.a,.int .i64 x.fin.yes.block,.slice a4 x.fin.yes.regs.length k4,.slice a5 x.fin.yes.args.length k5,.int .i64 x.fin.no.block,.slice a6 x.fin.no.regs.length k6,.slice a7 x.fin.no.args.length k7,.slice a3 x.fin.args.length k3] 52)):=bel1 _ _;have C:Hid (Calls Tryz.prog F (fs.push (.agg #[.int .i64 x.regs,.slice a1 x.params.length k1,.slice a2 x.code.length k2,.int .i64 x.fin.op,.int .i64 x.fin.a,.int .i64 x.fin.yes.block,.slice a4 x.fin.yes.regs.length k4,.slice a5 x.fin.yes.args.length k5,.int .i64 x.fin.no.block,.slice a6 x.fin.no.regs.length k6,.slice a7 x.fin.no.args.length k7,.slice a3 x.fin.args.length k3])++cs) (wr.alloc (.cells #[.int .i64 x.regs,.slice a1 x.params.length k1,.slice a2 x.code.length k2,.int .i64 x.fin.op,.int .i64 x.fin.a,.int .i64 x.fin.yes.block,.slice a4 x.fin.yes.regs.length k4,.slice a5 x.fin.yes.args.length k5,.int .i64 x.fin.no.block,.slice a6 x.fin.no.regs.length k6,.slice a7 x.fin.no.args.length k7,.slice a3 x.fin.args.length k3] 52)) (Tells B (wr.alloc (.cells #[.int .i64 x.regs,.slice a1 x.params.length k1,.slice a2 x.code.length k2,.int .i64 x.fin.op,.int .i64 x.fin.a,.int .i64 x.fin.yes.block,.slice a4 x.fin.yes.regs.length k4,.slice a5 x.fin.yes.args.length k5,.int .i64 x.fin.no.block,.slice a6 x.fin.no.regs.length k6,.slice a7 x.fin.no.args.length k7,.slice a3 x.fin.args.length k3] 52)) (I (q+1)) J)):=step.out q x _ _ hx (Bl.out.trans (b1.mono (by omega))) (Lay.lt hds0 (b1.mono (by omega))) (hst.out q _ _ Ir.out b1);have B1:Hid (Below B w (wr.alloc (.cells #[.int .i64 x.regs,.slice a1 x.params.length k1,.slice a2 x.code.length k2,.int .i64 x.fin.op,.int .i64 x.fin.a,.int .i64 x.fin.yes.block,.slice a4 x.fin.yes.regs.length k4,.slice a5 x.fin.yes.args.length k5,.int .i64 x.fin.no.block,.slice a6 x.fin.no.regs.length k6,.slice a7 x.fin.no.args.length k7,.slice a3 x.fin.args.length k3] 52))):=Bl.out.trans (b1.mono (by omega));have hk0:(0:Int)≤q:=by omega
      have hk1:(q:Int)<l.length:=by omega
      clear hc hds hds0 b1 Ir Bl hx;go_wp2_with fail
      refine C.out.mono ?_;rintro e w2 (⟨rfl,y2,b2⟩ | ⟨rfl,n2,b2⟩)
      · have Y2:Hid (I (q+1) w2):=y2;have B2:Hid (Below B w w2):=B1.out.trans b2;clear y2 b2 C B1 d0 d1 d2 d3 d4 d5 d6 d7 d8 d9 d10 d11;go_wp2
        go_roundw
        case rel=>exact ⟨q+1,by omega,by go_num,Y2.out,B2.out⟩
        case measure=>simp [intOf];omega
      · have N2:Hid (J w2):=n2;have B2:Hid (Below B w w2):=B1.out.trans b2;clear n2 b2 C B1 d0 d1 d2 d3 d4 d5 d6 d7 d8 d9 d10 d11;go_wp2
        go_ret;exact Tells.no N2.out B2.out
    · have hk1:¬ (q:Int)<l.length:=by omega
      obtain rfl:q=l.length:=by omega
      go_wp2
      go_ret;exact Tells.yes Ir.out Bl.out
def Asks (f : Nat) (args : Array Value) (w : World) (b : Bool) : Prop := Calls Tryz.prog f args w fun e w' => e = .returned (.bool b) ∧ Below w.heap.size w w'
theorem all_take {α : Type} {p : α → Bool} {l : List α} {i : Nat} {x : α} (hx : l[i]? = some x) (h : (l.take i).all p = true) (h1 : p x = true) : (l.take (i + 1)).all p = true := by
  rw [List.take_add_one,hx];simp only [Option.toList_some,List.all_append,h,List.all_cons,h1,List.all_nil,Bool.and_true]
theorem all_no {α : Type} {p : α → Bool} {l : List α} {i : Nat} {x : α} (hx : l[i]? = some x) (h1 : p x = false) : l.all p = false := by
  cases h:l.all p with
  | false=>rfl
  | true=>rw [List.all_eq_true.1 h x (List.mem_of_getElem? hx)] at h1;cases h1
theorem everyN_all {l : List Int} {a : Option Addr} {c : Nat} {w : World} {F : Nat} (p : Int → Bool) (hE : ∀ (args : Array Value) (w : World), (callFunc F args).run Tryz.prog w = .ok (.enter F args) w) (hl : (Lay.int).list.In w All l [.slice a l.length c])
    (hF:∀ x wx,x∈l→Below w.heap.size w wx→Asks F #[.int .i64 x] wx (p x)) (hn:l.length≤100000):Asks 147 #[.slice a l.length c,.func (.func F) #[] #[]] w (l.all p):=by
  refine Calls.mono (everyN_any (B:=w.heap.size) (fun i wx=>(l.take i).all p=true∧Below w.heap.size w wx) (fun _=>l.all p=false) hE (Lay.mono hl fun k _ hk=>hk) (Nat.le_refl _) ⟨by simp,Below.refl _ _⟩ (fun i wx wy h hb=>⟨h.1,h.2.trans (hb.mono h.2.size)⟩) (fun i x wx hx hb hI=>?_) hn) ?_
  · refine Calls.mono (hF x wx (List.mem_of_getElem? hx) hb) ?_;rintro e w' ⟨rfl,b⟩;have hbs:=b.mono hb.size
    cases hp:p x with
    | true=>exact Tells.yes ⟨all_take hx hI.1 hp,hI.2.trans hbs⟩ hbs
    | false=>exact Tells.no (all_no hx hp) hbs
  · rintro e w' (⟨rfl,h,b⟩ | ⟨rfl,h,b⟩)
    · refine ⟨?_,b⟩
      have:=h.1
      rw [List.take_length] at this;rw [this]
    · exact ⟨by rw [h],b⟩
theorem everyI_all {l : List MIns} {a : Option Addr} {c : Nat} {w : World} {F : Nat} (p : MIns → Bool) (hE : ∀ (args : Array Value) (w : World), (callFunc F args).run Tryz.prog w = .ok (.enter F args) w) (hl : (insL).list.In w All l [.slice a l.length c])
    (hF:∀ x ds wx,x∈l→Below w.heap.size w wx→(insL).In wx All x ds→Asks F #[.agg ds.toArray] wx (p x)) (hn:l.length≤100000):Asks 84 #[.slice a l.length c,.func (.func F) #[] #[]] w (l.all p):=by
  refine Calls.mono (everyI_any (B:=w.heap.size) (fun i wx=>(l.take i).all p=true∧Below w.heap.size w wx) (fun _=>l.all p=false) hE (Lay.mono hl fun k _ hk=>hk) (Nat.le_refl _) ⟨by simp,Below.refl _ _⟩ (fun i wx wy h hb=>⟨h.1,h.2.trans (hb.mono h.2.size)⟩) (fun i x ds wx hx hb hd hI=>?_) hn) ?_
  · refine Calls.mono (hF x ds wx (List.mem_of_getElem? hx) hb (Lay.mono hd fun _ _ _=>trivial)) ?_;rintro e w' ⟨rfl,b⟩;have hbs:=b.mono hb.size
    cases hp:p x with
    | true=>exact Tells.yes ⟨all_take hx hI.1 hp,hI.2.trans hbs⟩ hbs
    | false=>exact Tells.no (all_no hx hp) hbs
  · rintro e w' (⟨rfl,h,b⟩ | ⟨rfl,h,b⟩)
    · refine ⟨?_,b⟩
      have:=h.1
      rw [List.take_length] at this;rw [this]
    · exact ⟨by rw [h],b⟩
theorem everyB_all {n : Nat} {l : List (MBlock n)} {a : Option Addr} {c : Nat} {w : World} {F : Nat} (p : (MBlock n) → Bool) (hE : ∀ (args : Array Value) (w : World), (callFunc F args).run Tryz.prog w = .ok (.enter F args) w) (hl : (blockL n).list.In w All l [.slice a l.length c])
    (hF:∀ x ds wx,x∈l→Below w.heap.size w wx→(blockL n).In wx All x ds→Asks F #[.agg ds.toArray] wx (p x)) (hn:l.length≤100000):Asks 82 #[.slice a l.length c,.func (.func F) #[] #[]] w (l.all p):=by
  refine Calls.mono (everyB_any (B:=w.heap.size) (fun i wx=>(l.take i).all p=true∧Below w.heap.size w wx) (fun _=>l.all p=false) hE (Lay.mono hl fun k _ hk=>hk) (Nat.le_refl _) ⟨by simp,Below.refl _ _⟩ (fun i wx wy h hb=>⟨h.1,h.2.trans (hb.mono h.2.size)⟩) (fun i x ds wx hx hb hd hI=>?_) hn) ?_
  · refine Calls.mono (hF x ds wx (List.mem_of_getElem? hx) hb (Lay.mono hd fun _ _ _=>trivial)) ?_;rintro e w' ⟨rfl,b⟩;have hbs:=b.mono hb.size
    cases hp:p x with
    | true=>exact Tells.yes ⟨all_take hx hI.1 hp,hI.2.trans hbs⟩ hbs
    | false=>exact Tells.no (all_no hx hp) hbs
  · rintro e w' (⟨rfl,h,b⟩ | ⟨rfl,h,b⟩)
    · refine ⟨?_,b⟩
      have:=h.1
      rw [List.take_length] at this;rw [this]
    · exact ⟨by rw [h],b⟩
theorem everyF_all {n : Nat} {l : List (MFunc n)} {a : Option Addr} {c : Nat} {w : World} {F : Nat} (p : (MFunc n) → Bool) (hE : ∀ (args : Array Value) (w : World), (callFunc F args).run Tryz.prog w = .ok (.enter F args) w) (hl : (funcL n).list.In w All l [.slice a l.length c])
    (hF:∀ x ds wx,x∈l→Below w.heap.size w wx→(funcL n).In wx All x ds→Asks F #[.agg ds.toArray] wx (p x)) (hn:l.length≤100000):Asks 80 #[.slice a l.length c,.func (.func F) #[] #[]] w (l.all p):=by
  refine Calls.mono (everyF_any (B:=w.heap.size) (fun i wx=>(l.take i).all p=true∧Below w.heap.size w wx) (fun _=>l.all p=false) hE (Lay.mono hl fun k _ hk=>hk) (Nat.le_refl _) ⟨by simp,Below.refl _ _⟩ (fun i wx wy h hb=>⟨h.1,h.2.trans (hb.mono h.2.size)⟩) (fun i x ds wx hx hb hd hI=>?_) hn) ?_
  · refine Calls.mono (hF x ds wx (List.mem_of_getElem? hx) hb (Lay.mono hd fun _ _ _=>trivial)) ?_;rintro e w' ⟨rfl,b⟩;have hbs:=b.mono hb.size
    cases hp:p x with
    | true=>exact Tells.yes ⟨all_take hx hI.1 hp,hI.2.trans hbs⟩ hbs
    | false=>exact Tells.no (all_no hx hp) hbs
  · rintro e w' (⟨rfl,h,b⟩ | ⟨rfl,h,b⟩)
    · refine ⟨?_,b⟩
      have:=h.1
      rw [List.take_length] at this;rw [this]
    · exact ⟨by rw [h],b⟩
theorem enters_areNums_1 : ∀ (args : Array Value) (w : World), (callFunc 148 args).run Tryz.prog w = .ok (.enter 148 args) w := fun _ _ => by kernel_rfl
theorem enters_insHasNums : ∀ (args : Array Value) (w : World), (callFunc 85 args).run Tryz.prog w = .ok (.enter 85 args) w := fun _ _ => by kernel_rfl
theorem enters_hasNumsAlone_1_1 : ∀ (args : Array Value) (w : World), (callFunc 83 args).run Tryz.prog w = .ok (.enter 83 args) w := fun _ _ => by kernel_rfl
theorem enters_hasNumsAlone_1 : ∀ (args : Array Value) (w : World), (callFunc 81 args).run Tryz.prog w = .ok (.enter 81 args) w := fun _ _ => by kernel_rfl
theorem isNum_any (n : Int) (w : World) : Asks 148 #[.int .i64 n] w (numB n) := by
  unfold Asks numB;by_cases h1:0≤n
  · by_cases h2:n≤1000000
    · rw [decide_eq_true h1,decide_eq_true h2];go_enter Tryz.func148,Tryz.ntmps148
      go_wp2
      go_ret;exact ⟨rfl,Below.refl _ _⟩
    · rw [decide_eq_false h2,Bool.and_false];go_enter Tryz.func148,Tryz.ntmps148
      go_wp2
      go_ret;exact ⟨rfl,Below.refl _ _⟩
  · rw [decide_eq_false h1,Bool.false_and];go_enter Tryz.func148,Tryz.ntmps148
    go_wp2
    go_ret;exact ⟨rfl,Below.refl _ _⟩
theorem areNums_any (l : List Int) (a : Option Addr) (c : Nat) (w : World) (hl : intsL.In w All l [.slice a l.length c]) (hn : l.length ≤ 300) : Asks 117 #[.slice a l.length c] w (l.all numB) := by
  have C:Hid (Asks 147 #[.slice a l.length c,.func (.func 148) #[] #[]] w (l.all numB)):=everyN_all numB enters_areNums_1 hl (fun x wx _ _=>isNum_any x wx) (by omega);have B1:Hid (Below w.heap.size w w):=Below.refl _ _;generalize l.all numB=bt at C ⊢;unfold Asks at C ⊢;clear hl hn;go_enter Tryz.func117,Tryz.ntmps117
  go_wp2_with fail
  refine C.out.mono ?_;rintro e w2 ⟨rfl,b2⟩;have B2:Hid (Below w.heap.size w w2):=B1.out.trans (b2.mono B1.out.size);clear b2 B1 C;go_wp2
  go_ret;exact ⟨rfl,B2.out⟩
theorem toNums_any (t : MTo) (cs : List Value) (w : World) (h0 : toL.In w All t cs) (hs : t.small) : Asks 118 #[.agg cs.toArray] w t.nums := by
  obtain ⟨a,c,b,d,rfl,h1,h2,h3⟩:=to_form h0;obtain ⟨s1,s2⟩:=hs;have C0:Hid (∀ wx,Below w.heap.size w wx→Asks 117 #[.slice a t.regs.length c] wx (t.regs.all numB)):=fun wx hb=>areNums_any _ _ _ wx (Lay.below h1 hb) s1;have C1:Hid (∀ wx,Below w.heap.size w wx→Asks 117 #[.slice b t.args.length d] wx (t.args.all numB)):=fun wx hb=>areNums_any _ _ _ wx (Lay.below h2 hb) s2;show Asks _ _ _ (t.regs.all numB && t.args.all numB);generalize t.regs.all numB=b0 at C0 ⊢;generalize t.args.all numB=b1 at C1 ⊢;clear h0 h1 h2 h3 s1 s2;generalize t.block=kb at *;generalize t.regs.length=n1 at *;generalize t.args.length=n2 at *;have X1:Blk (w.alloc (.cells #[.int .i64 kb,.slice a n1 c,.slice b n2 d] 48)) w.heap.size #[.int .i64 kb,.slice a n1 c,.slice b n2 d] 48:=Blk.new _ _ _;have B1:Hid (Below w.heap.size w (w.alloc (.cells #[.int .i64 kb,.slice a n1 c,.slice b n2 d] 48))):=bel1 _ _;unfold Asks at C0 C1 ⊢;go_enter Tryz.func118,Tryz.ntmps118
  go_wp2_with fail
  refine (C0.out _ B1.out).mono ?_;rintro e w2 ⟨rfl,b2⟩;have X2:=(b2.block _ (lt_of_block X1)).trans X1;have B2:Hid (Below w.heap.size w w2):=B1.out.trans (b2.mono B1.out.size);clear b2 B1 X1 C0
  cases b0 with
  | false =>
    clear X2 C1;go_wp2
    go_ret;exact ⟨by simp,B2.out⟩
  | true =>
    have c2:=cellOf X2 2 _ rfl;go_wp2_with fail
    refine (C1.out w2 B2.out).mono ?_;rintro e w3 ⟨rfl,b3x⟩;have X3:=(b3x.block _ (lt_of_block X2)).trans X2;have B3:Hid (Below w.heap.size w w3):=B2.out.trans (b3x.mono B2.out.size);clear b3x B2 X2 C1 c2;clear X3;go_wp2
    go_ret;exact ⟨by simp,B3.out⟩
theorem insNums_any (x : MIns) (cs : List Value) (w : World) (h0 : insL.In w All x cs) (hs : x.small) : Asks 85 #[.agg cs.toArray] w x.nums := by
  obtain ⟨a,c,b,d,rfl,h1,h2,r0,ra,rb,rc,rk,rn⟩:=ins_form h0;obtain ⟨s1,s2⟩:=hs;have C0:Hid (∀ wx,Below w.heap.size w wx→∀ h,Blk wx h #[.int .i64 x.a,.int .i64 x.b,.int .i64 x.c,.int .i64 x.k] 3→Asks 117 #[.slice (some ⟨h,0,none⟩) 4 4] wx ([x.a,x.b,x.c,x.k].all numB)):=fun wx hb h hB=>areNums_any [x.a,x.b,x.c,x.k] _ 4 wx (ints_blk hB (by intro y hy;simp at hy;rcases hy with rfl | rfl | rfl | rfl <;> assumption) 4) (by simp);have C1:Hid (∀ wx,Below w.heap.size w wx→Asks 117 #[.slice a x.regs.length c] wx (x.regs.all numB)):=fun wx hb=>areNums_any _ _ _ wx (Lay.below h1 hb) s1;have C2:Hid (∀ wx,Below w.heap.size w wx→Asks 117 #[.slice b x.args.length d] wx (x.args.all numB)):=fun wx hb=>areNums_any _ _ _ wx (Lay.below h2 hb) s2;show Asks _ _ _ ([x.a,x.b,x.c,x.k].all numB && (x.regs.all numB && x.args.all numB));generalize [x.a,x.b,x.c,x.k].all numB=b0 at C0 ⊢;generalize x.regs.all numB=b1 at C1 ⊢;generalize x.args.all numB=b2 at C2 ⊢;clear h0 h1 h2 s1 s2 r0 ra rb rc rk rn;generalize x.regs.length=n1 at *;generalize x.args.length=n2 at *;generalize x.op=ko at *;generalize x.a=ka at *;generalize x.b=kb at *;generalize x.c=kc at *;generalize x.k=kk at *;generalize x.n=kn at *;have X1:Blk (w.alloc (.cells #[.int .i64 ko,.int .i64 ka,.int .i64 kb,.int .i64 kc,.int .i64 kk,.int .i64 kn,.slice a n1 c,.slice b n2 d] 45)) w.heap.size #[.int .i64 ko,.int .i64 ka,.int .i64 kb,.int .i64 kc,.int .i64 kk,.int .i64 kn,.slice a n1 c,.slice b n2 d] 45:=Blk.new _ _ _;have B1:Hid (Below w.heap.size w (w.alloc (.cells #[.int .i64 ko,.int .i64 ka,.int .i64 kb,.int .i64 kc,.int .i64 kk,.int .i64 kn,.slice a n1 c,.slice b n2 d] 45))):=bel1 _ _;unfold Asks at C0 C1 C2 ⊢;go_enter Tryz.func85,Tryz.ntmps85
  go_wp2_with fail
  refine (C0.out _ (B1.out.trans ((bel1 _ _).mono (by simp))) _ (Blk.new2 _ _ _ _)).mono ?_;rintro e w2 ⟨rfl,r2⟩;have b2:Below (w.alloc (.cells #[.int .i64 ko,.int .i64 ka,.int .i64 kb,.int .i64 kc,.int .i64 kk,.int .i64 kn,.slice a n1 c,.slice b n2 d] 45)).heap.size (w.alloc (.cells #[.int .i64 ko,.int .i64 ka,.int .i64 kb,.int .i64 kc,.int .i64 kk,.int .i64 kn,.slice a n1 c,.slice b n2 d] 45)) w2:=(bel1 _ _).trans (r2.mono (by simp));clear r2;have X2:=(b2.block _ (lt_of_block X1)).trans X1;have B2:Hid (Below w.heap.size w w2):=B1.out.trans (b2.mono B1.out.size);clear b2 B1 X1 C0
  cases b0 with
  | false =>
    clear X2 C1 C2;go_wp2
    go_ret;exact ⟨by simp,B2.out⟩
  | true =>
    have c6:=cellOf X2 6 _ rfl;go_wp2_with fail
    refine (C1.out w2 B2.out).mono ?_;rintro e w3 ⟨rfl,b3x⟩;have X3:=(b3x.block _ (lt_of_block X2)).trans X2;have B3:Hid (Below w.heap.size w w3):=B2.out.trans (b3x.mono B2.out.size);clear b3x B2 X2 C1 c6
    cases b1 with
    | false =>
      clear X3 C2;go_wp2
      go_ret;exact ⟨by simp,B3.out⟩
    | true =>
      have c7:=cellOf X3 7 _ rfl;go_wp2_with fail
      refine (C2.out w3 B3.out).mono ?_;rintro e w4 ⟨rfl,b4x⟩;have X4:=(b4x.block _ (lt_of_block X3)).trans X3;have B4:Hid (Below w.heap.size w w4):=B3.out.trans (b4x.mono B3.out.size);clear b4x B3 X3 C2 c7;clear X4;go_wp2
      go_ret;exact ⟨by simp,B4.out⟩
theorem endNums_any (x : MEnd) (cs : List Value) (w : World) (h0 : endL.In w All x cs) (hs : x.small) : Asks 86 #[.agg cs.toArray] w x.nums := by
  obtain ⟨c1,c2,pa,ca,rfl,hy,hn,h4,r0,ra⟩:=end_form h0;obtain ⟨s1,s2,s3⟩:=hs;obtain ⟨pyr,cyr,pya,cya,rfl,-,-,-⟩:=to_form hy;obtain ⟨pnr,cnr,pna,cna,rfl,-,-,-⟩:=to_form hn;have C0:Hid (∀ wx,Below w.heap.size w wx→∀ h,Blk wx h #[.int .i64 x.a] 3→Asks 117 #[.slice (some ⟨h,0,none⟩) 1 1] wx ([x.a].all numB)):=fun wx hb h hB=>areNums_any [x.a] _ 1 wx (ints_blk hB (by intro y hy;simp at hy;subst hy;exact ra) 1) (by simp);have C1:Hid (∀ wx,Below w.heap.size w wx→Asks 117 #[.slice pa x.args.length ca] wx (x.args.all numB)):=fun wx hb=>areNums_any _ _ _ wx (Lay.below h4 hb) s3;have C2:Hid (∀ wx,Below w.heap.size w wx→Asks 118 #[.agg #[.int .i64 x.yes.block,.slice pyr x.yes.regs.length cyr,.slice pya x.yes.args.length cya]] wx (x.yes.nums)):=fun wx hb=>toNums_any _ _ wx (Lay.below hy hb) s1;have C3:Hid (∀ wx,Below w.heap.size w wx→Asks 118 #[.agg #[.int .i64 x.no.block,.slice pnr x.no.regs.length cnr,.slice pna x.no.args.length cna]] wx (x.no.nums)):=fun wx hb=>toNums_any _ _ wx (Lay.below hn hb) s2;show Asks _ _ _ ([x.a].all numB && (x.args.all numB && (x.yes.nums && x.no.nums)));generalize [x.a].all numB=b0 at C0 ⊢;generalize x.args.all numB=b1 at C1 ⊢;generalize x.yes.nums=b2 at C2 ⊢;generalize x.no.nums=b3 at C3 ⊢;clear h0 hy hn h4 s1 s2 s3 r0 ra;generalize x.yes.block=yb at *;generalize x.yes.regs.length=nyr at *;generalize x.yes.args.length=nya at *;generalize x.no.block=nb at *;generalize x.no.regs.length=nnr at *;generalize x.no.args.length=nna at *;generalize x.args.length=na at *;generalize x.op=ko at *;generalize x.a=ka at *;have X1:Blk (w.alloc (.cells #[.int .i64 ko,.int .i64 ka,.int .i64 yb,.slice pyr nyr cyr,.slice pya nya cya,.int .i64 nb,.slice pnr nnr cnr,.slice pna nna cna,.slice pa na ca] 50)) w.heap.size #[.int .i64 ko,.int .i64 ka,.int .i64 yb,.slice pyr nyr cyr,.slice pya nya cya,.int .i64 nb,.slice pnr nnr cnr,.slice pna nna cna,.slice pa na ca] 50:=Blk.new _ _ _;have B1:Hid (Below w.heap.size w (w.alloc (.cells #[.int .i64 ko,.int .i64 ka,.int .i64 yb,.slice pyr nyr cyr,.slice pya nya cya,.int .i64 nb,.slice pnr nnr cnr,.slice pna nna cna,.slice pa na ca] 50))):=bel1 _ _;unfold Asks at C0 C1 C2 C3 ⊢;go_enter Tryz.func86,Tryz.ntmps86
  go_wp2_with fail
  refine (C0.out _ (B1.out.trans ((bel1 _ _).mono (by simp))) _ (Blk.new2 _ _ _ _)).mono ?_;rintro e w2 ⟨rfl,r2⟩;have b2:Below (w.alloc (.cells #[.int .i64 ko,.int .i64 ka,.int .i64 yb,.slice pyr nyr cyr,.slice pya nya cya,.int .i64 nb,.slice pnr nnr cnr,.slice pna nna cna,.slice pa na ca] 50)).heap.size (w.alloc (.cells #[.int .i64 ko,.int .i64 ka,.int .i64 yb,.slice pyr nyr cyr,.slice pya nya cya,.int .i64 nb,.slice pnr nnr cnr,.slice pna nna cna,.slice pa na ca] 50)) w2:=(bel1 _ _).trans (r2.mono (by simp));clear r2;have X2:=(b2.block _ (lt_of_block X1)).trans X1;have B2:Hid (Below w.heap.size w w2):=B1.out.trans (b2.mono B1.out.size);clear b2 B1 X1 C0
  cases b0 with
  | false =>
    clear X2 C1 C2 C3;go_wp2
    go_ret;exact ⟨by simp,B2.out⟩
  | true =>
    have c8:=cellOf X2 8 _ rfl;go_wp2_with fail
    refine (C1.out w2 B2.out).mono ?_;rintro e w3 ⟨rfl,b3x⟩;have X3:=(b3x.block _ (lt_of_block X2)).trans X2;have B3:Hid (Below w.heap.size w w3):=B2.out.trans (b3x.mono B2.out.size);clear b3x B2 X2 C1 c8
    cases b1 with
    | false =>
      clear X3 C2 C3;go_wp2
      go_ret;exact ⟨by simp,B3.out⟩
    | true =>
      have c2:=cellOf X3 2 _ rfl;have c3:=cellOf X3 3 _ rfl;have c4:=cellOf X3 4 _ rfl;go_wp2_with fail
      refine (C2.out w3 B3.out).mono ?_;rintro e w4 ⟨rfl,b4x⟩;have X4:=(b4x.block _ (lt_of_block X3)).trans X3;have B4:Hid (Below w.heap.size w w4):=B3.out.trans (b4x.mono B3.out.size);clear b4x B3 X3 C2 c2 c3 c4
      cases b2 with
      | false =>
        clear X4 C3;go_wp2
        go_ret;exact ⟨by simp,B4.out⟩
      | true =>
        have c5:=cellOf X4 5 _ rfl;have c6:=cellOf X4 6 _ rfl;have c7:=cellOf X4 7 _ rfl;go_wp2_with fail
        refine (C3.out w4 B4.out).mono ?_;rintro e w5 ⟨rfl,b5x⟩;have X5:=(b5x.block _ (lt_of_block X4)).trans X4;have B5:Hid (Below w.heap.size w w5):=B4.out.trans (b5x.mono B4.out.size);clear b5x B4 X4 C3 c5 c6 c7;clear X5;go_wp2
        go_ret;exact ⟨by simp,B5.out⟩
theorem blockNums_any {n : Nat} (x : MBlock n) (cs : List Value) (w : World) (h0 : (blockL n).In w All x cs) (hs : x.small) : Asks 83 #[.agg cs.toArray] w x.nums := by
  obtain ⟨a1,k1,a2,k2,es,rfl,-,h2,he,-⟩:=block_form h0;obtain ⟨s1,s2,s3,s4⟩:=hs;have he0:=he;obtain ⟨e1,e2,a3,k3,rfl,hy,hno,-,-⟩:=end_form he;obtain ⟨a4,k4,a5,k5,rfl,-,-,-⟩:=to_form hy;obtain ⟨a6,k6,a7,k7,rfl,-,-,-⟩:=to_form hno;clear he hy hno;simp only [List.cons_append,List.nil_append] at he0 ⊢;have C0:Hid (∀ wx,Below w.heap.size w wx→Asks 84 #[.slice a2 x.code.length k2,.func (.func 85) #[] #[]] wx (x.code.all MIns.nums)):=fun wx hb=>everyI_all MIns.nums enters_insHasNums (Lay.below h2 hb) (fun y ds wy hm _ hi=>insNums_any y ds wy hi (s4 y hm)) s1;have C1:Hid (∀ wx,Below w.heap.size w wx→Asks 86 #[.agg #[.int .i64 x.fin.op,.int .i64 x.fin.a,.int .i64 x.fin.yes.block,.slice a4 x.fin.yes.regs.length k4,.slice a5 x.fin.yes.args.length k5,.int .i64 x.fin.no.block,.slice a6 x.fin.no.regs.length k6,.slice a7 x.fin.no.args.length k7,.slice a3 x.fin.args.length k3]] wx (x.fin.nums)):=fun wx hb=>endNums_any x.fin _ wx (Lay.below he0 hb) s3;show Asks _ _ _ (x.code.all MIns.nums && x.fin.nums);generalize x.code.all MIns.nums=b0 at C0 ⊢;generalize x.fin.nums=b1 at C1 ⊢;clear h0 h2 he0 s1 s2 s3 s4;generalize x.fin.yes.block=yb at *;generalize x.fin.yes.regs.length=nyr at *;generalize x.fin.yes.args.length=nya at *;generalize x.fin.no.block=nb at *;generalize x.fin.no.regs.length=nnr at *;generalize x.fin.no.args.length=nna at *;generalize x.fin.args.length=na at *;generalize x.fin.op=ko at *;generalize x.fin.a=ka at *;generalize x.regs=kr at *;generalize x.params.length=np at *;generalize x.code.length=nc at *;have X1:Blk (w.alloc (.cells #[.int .i64 kr,.slice a1 np k1,.slice a2 nc k2,.int .i64 ko,.int .i64 ka,.int .i64 yb,.slice a4 nyr k4,.slice a5 nya k5,.int .i64 nb,.slice a6 nnr k6,.slice a7 nna k7,.slice a3 na k3] 52)) w.heap.size #[.int .i64 kr,.slice a1 np k1,.slice a2 nc k2,.int .i64 ko,.int .i64 ka,.int .i64 yb,.slice a4 nyr k4,.slice a5 nya k5,.int .i64 nb,.slice a6 nnr k6,.slice a7 nna k7,.slice a3 na k3] 52:=Blk.new _ _ _;have B1:Hid (Below w.heap.size w (w.alloc (.cells #[.int .i64 kr,.slice a1 np k1,.slice a2 nc k2,.int .i64 ko,.int .i64 ka,.int .i64 yb,.slice a4 nyr k4,.slice a5 nya k5,.int .i64 nb,.slice a6 nnr k6,.slice a7 nna k7,.slice a3 na k3] 52))):=bel1 _ _;unfold Asks at C0 C1 ⊢;go_enter Tryz.func83,Tryz.ntmps83
  go_wp2_with fail
  refine (C0.out _ B1.out).mono ?_;rintro e w2 ⟨rfl,b2⟩;have X2:=(b2.block _ (lt_of_block X1)).trans X1;have B2:Hid (Below w.heap.size w w2):=B1.out.trans (b2.mono B1.out.size);clear b2 B1 X1 C0
  cases b0 with
  | false =>
    clear X2 C1;go_wp2
    go_ret;exact ⟨by simp,B2.out⟩
  | true =>
    have c3:=cellOf X2 3 _ rfl;have c4:=cellOf X2 4 _ rfl;have c5:=cellOf X2 5 _ rfl;have c6:=cellOf X2 6 _ rfl;have c7:=cellOf X2 7 _ rfl;have c8:=cellOf X2 8 _ rfl;have c9:=cellOf X2 9 _ rfl;have c10:=cellOf X2 10 _ rfl;have c11:=cellOf X2 11 _ rfl;go_wp2_with fail
    refine (C1.out w2 B2.out).mono ?_;rintro e w3 ⟨rfl,b3x⟩;have X3:=(b3x.block _ (lt_of_block X2)).trans X2;have B3:Hid (Below w.heap.size w w3):=B2.out.trans (b3x.mono B2.out.size);clear b3x B2 X2 C1 c3 c4 c5 c6 c7 c8 c9 c10 c11;clear X3;go_wp2
    go_ret;exact ⟨by simp,B3.out⟩
theorem funcNums_any {n : Nat} (x : MFunc n) (a1 a2 a3 : Option Addr) (k1 k2 k3 : Nat) (w : World) (h3 : (blockL n).list.In w All x.blocks [.slice a3 x.blocks.length k3]) (hs : ∀ y ∈ x.blocks, y.small) (hn : x.blocks.length ≤ 100000) : Asks 81 #[.agg #[.int .i64 x.regs, .slice a1 x.params.length k1, .slice a2 x.results.length k2, .slice a3 x.blocks.length k3]] w (x.blocks.all MBlock.nums) := by
  have C:Hid (Asks 82 #[.slice a3 x.blocks.length k3,.func (.func 83) #[] #[]] (w.alloc (.cells #[.int .i64 x.regs,.slice a1 x.params.length k1,.slice a2 x.results.length k2,.slice a3 x.blocks.length k3] 42)) (x.blocks.all MBlock.nums)):=everyB_all MBlock.nums enters_hasNumsAlone_1_1 (Lay.below h3 (bel1 _ _)) (fun y ds wy hm _ hi=>blockNums_any y ds wy hi (hs y hm)) hn;have c0:(w.alloc (.cells #[.int .i64 x.regs,.slice a1 x.params.length k1,.slice a2 x.results.length k2,.slice a3 x.blocks.length k3] 42)).cell? ⟨w.heap.size,3,none⟩=some (.slice a3 x.blocks.length k3):=cellOf (blockNew w _ _) 3 _ rfl;have B1:Hid (Below w.heap.size w (w.alloc (.cells #[.int .i64 x.regs,.slice a1 x.params.length k1,.slice a2 x.results.length k2,.slice a3 x.blocks.length k3] 42))):=bel1 _ _;generalize x.blocks.all MBlock.nums=bt at C ⊢;unfold Asks at C ⊢;clear h3 hs hn;go_enter Tryz.func81,Tryz.ntmps81
  go_wp2_with fail
  generalize (w.alloc (.cells #[.int .i64 x.regs,.slice a1 x.params.length k1,.slice a2 x.results.length k2,.slice a3 x.blocks.length k3] 42))=w1 at C B1 c0 ⊢;refine C.out.mono ?_;rintro e w2 ⟨rfl,b2⟩;have B2:Hid (Below w.heap.size w w2):=B1.out.trans (b2.mono B1.out.size);clear b2 B1 C;go_wp2
  go_ret;exact ⟨rfl,B2.out⟩
theorem hasNums_any {n : Nat} (m : List (MFunc n)) (p : Option Addr) (c : Nat) (w : World) (h : (modL n).In w All m [.slice p m.length c]) (hs : msmall m) : Asks 45 #[.agg #[.slice p m.length c]] w (modNums m) := by
  have C:Hid (Asks 80 #[.slice p m.length c,.func (.func 81) #[] #[]] (w.alloc (.cells #[.slice p m.length c] 25)) (modNums m)):=by
    refine everyF_all MFunc.nums enters_hasNumsAlone_1 (Lay.below h (bel1 _ _)) (fun x ds wy hm _ hi=>?_) hs.1;obtain ⟨a1,k1,a2,k2,a3,k3,rfl,-,-,h3,-⟩:=func_form hi;exact funcNums_any x a1 a2 a3 k1 k2 k3 wy h3 (hs.2 x hm).2.2.2 (hs.2 x hm).1
  have c0:(w.alloc (.cells #[.slice p m.length c] 25)).cell? ⟨w.heap.size,0,none⟩=some (.slice p m.length c):=cellOf (blockNew w _ _) 0 _ rfl;have B1:Hid (Below w.heap.size w (w.alloc (.cells #[.slice p m.length c] 25))):=bel1 _ _;generalize modNums m=bt at C ⊢;unfold Asks at C ⊢;clear h hs;go_enter Tryz.func45,Tryz.ntmps45
  go_wp2_with fail
  generalize (w.alloc (.cells #[.slice p m.length c] 25))=w1 at C B1 c0 ⊢;refine C.out.mono ?_;rintro e w2 ⟨rfl,b2⟩;have B2:Hid (Below w.heap.size w w2):=B1.out.trans (b2.mono B1.out.size);clear b2 B1 C;go_wp2
  go_ret;exact ⟨rfl,B2.out⟩
abbrev IsS (B b : Nat) (bs : List UInt8) (w : World) : Prop := Lib.IsBuilderF 90 5 B b (Lib.byteCells bs) w
theorem IsS.blk {B b : Nat} {bs : List UInt8} {w : World} (h : IsS B b bs w) : B ≤ b ∧ ∃ c, Blk w b c 90 := by
  rcases h with ⟨h1,v,h,_⟩ | ⟨h1,v,h,_⟩ <;> exact ⟨h1,_,h⟩
theorem IsS.ne {B b g : Nat} {bs : List UInt8} {w : World} {c : Array Value} {t : TypeId} (h : IsS B b bs w) (hg : Blk w g c t) (ht : t ≠ 90) : g ≠ b := by
  rintro rfl;obtain ⟨_,c',h'⟩:=h.blk;unfold Blk at hg h';rw [hg] at h';injection h' with h'
  injection h' with _ h'
  exact ht h'
theorem IsS.of {B b : Nat} {bs z : List UInt8} {cs : List Value} {w : World} (h : Lib.BuilderAtF 90 5 B b (.pointer (some ⟨b, 0, none⟩)) (Lib.byteCells bs ++ cs) w) (e : cs = Lib.byteCells z) : IsS B b (bs ++ z) w := by
  subst e;rw [← Lib.byteCells_append] at h;exact Or.inr h
structure Sh (w0 : World) (B b : Nat) (bs : List UInt8) (w : World) : Prop where
  is:IsS B b bs w
  wr:Wr B b w0 w
theorem Sh.start {w : World} {B b : Nat} {bs : List UInt8} (h : IsS B b bs w) : Sh w B b bs w := ⟨h, Wr.refl _ _ _⟩
theorem Sh.drew {w0 w : World} {B b : Nat} {bs : List UInt8} (h : Sh w0 B b bs w) : Sh w0 B b bs w.drew := ⟨h.is, ⟨h.wr.below.drew, h.wr.kept.drew⟩⟩
theorem Sh.below {w0 w w' : World} {B b : Nat} {bs : List UInt8} (h : Sh w0 B b bs w) (hB : B ≤ w0.heap.size) (hb : Below w.heap.size w w') : Sh w0 B b bs w' := ⟨bld_below h.is hb, h.wr.trans (Wr.of (Nat.le_trans hB h.wr.size) hb)⟩
theorem Sh.on {w0 w w' : World} {B b : Nat} {bs bs' : List UInt8} (h : Sh w0 B b bs w) (hI : IsS B b bs' w') (hb : Wr B b w w') : Sh w0 B b bs' w' := ⟨hI, h.wr.trans hb⟩
theorem Sh.le {w0 w : World} {B b : Nat} {bs : List UInt8} (h : Sh w0 B b bs w) (hB : B ≤ w0.heap.size) : B ≤ w.heap.size := Nat.le_trans hB h.wr.size
def Lined (B b : Nat) (bs : List UInt8) (w : World) (e : Ending) (w' : World) : Prop := e = .returned (.bool (decide (bs.length ≤ 40000))) ∧ IsS B b bs w' ∧ Wr B b w w'
theorem line_any {B b bk k : Nat} {bs : List UInt8} {xs : List (List UInt8)} {w : World} (hI : IsS B b bs w) (hB : B ≤ w.heap.size) (hb : Blk w bk (xs.map (fun s => Value.string (str s))).toArray 9) (hk : xs.length = k) (hk1 : k ≤ 100) (hbs : bs.length ≤ 40000) (hlen : (Lib.join xs [32]).length ≤ 100000000) :
    Calls Tryz.prog 119 #[.pointer (some ⟨b,0,none⟩),.slice (some ⟨bk,0,none⟩) k k] w (Lined B b (bs++(Lib.join xs [32]++[10])) w):=by
  have hne:bk≠b:=hI.ne hb (by decide);have D:Hid (∀ wx,Wr B b w wx→Calls Tryz.prog 150 #[.slice (some ⟨bk,0,none⟩) k k] wx fun e w'=>e=.returned (.string (str (Lib.join xs [32])))∧Below wx.heap.size wx w'):=fun wx hw=>spacedB xs k hk hk1 (by omega) bk wx (hw.blk hb hne (by decide));have S0:Hid (Sh w B b bs w):=Sh.start hI;have HB:Hid (B≤w.heap.size):=hB;generalize Lib.join xs [32]=z at D hlen ⊢;have hll:Hid ((bs++z).length≤100040000):=by show _≤_;rw [List.length_append];omega
  generalize hgt:bs++(z++[10])=t;have HT:Hid (bs++(z++[10])=t):=hgt;clear hI hb hk hk1 hne hbs hlen xs hgt;go_enter Tryz.func119,Tryz.ntmps119
  go_wp2_with fail
  refine wp_puts [5,6,7,8,9,10] (fun vs w'=>Sh w B b (bs++z) w') ?_ ?_
  · refine wp_region_stage (PTab.E ([(0,fun v _=>v=.pointer (some ⟨b,0,none⟩)),(1,fun v _=>v=.slice (some ⟨bk,0,none⟩) k k),(5,fun v _=>v=.pointer (some ⟨b,0,none⟩)),(6,fun v _=>v=.pointer (some ⟨b,0,none⟩)),(7,fun v _=>v=.pointer (some ⟨b,0,none⟩)),(8,fun v _=>v=.slice (some ⟨bk,0,none⟩) k k),(9,fun v _=>v=.string (str z)),(10,fun _ _=>True)]:PTab)) (fun S wx=>Sh w B b (bif S 5 then bs++z else bs) wx) (Wr B b) (outs:=[0,1]) (gs:=[]) (bs:=[true,true,true,true,true,true]) (by kernel_rfl) (n:=20) rfl (Nat.le_refl _) (by kernel_rfl) (PTab_stable _ ⟨fun _ _ _ _ h=>h,fun _ _ _ _ h=>h,fun _ _ _ _ h=>h,fun _ _ _ _ h=>h,fun _ _ _ _ h=>h,fun _ _ _ _ h=>h,fun _ _ _ _ h=>h,fun _ _ _ _ _=>trivial,trivial⟩) ?hG (S0.out.drew) ⟨rfl,rfl,trivial⟩ ?hA ?hend
    case hG=>exact trivial
    case hend=>exact fun vs S w' hS hW hk=>⟨rfl,vs,rfl,by have:=hS 5 (by decide);rw [this] at hW;exact hW⟩
    case hA =>
      refine ⟨fun S ac wc h0 hd hc hW hk K hK=>?_,?_⟩
      · obtain ⟨q0,-⟩:=hk;have q0:ac.tmps.getD 0 undef=.pointer (some ⟨b,0,none⟩):=q0;go_simp;exact hK _ _ (Wr.refl _ _ _) (hW) rfl
      refine ⟨fun S ac wc h0 hd hc hW hk K hK=>?_,?_⟩
      · obtain ⟨q0,-⟩:=hk;have q0:ac.tmps.getD 5 undef=.pointer (some ⟨b,0,none⟩):=q0;go_simp;exact hK _ _ (Wr.refl _ _ _) (hW) rfl
      refine ⟨fun S ac wc h0 hd hc hW hk K hK=>?_,?_⟩
      · obtain ⟨q0,-⟩:=hk;have q0:ac.tmps.getD 6 undef=.pointer (some ⟨b,0,none⟩):=q0;go_simp;exact hK _ _ (Wr.refl _ _ _) (hW) rfl
      refine ⟨fun S ac wc h0 hd hc hW hk K hK=>?_,?_⟩
      · obtain ⟨q0,-⟩:=hk;have q0:ac.tmps.getD 1 undef=.slice (some ⟨bk,0,none⟩) k k:=q0;go_simp;exact hK _ _ (Wr.refl _ _ _) (hW) rfl
      refine ⟨fun S ac wc h0 hd hc hW hk K hK=>?_,?_⟩
      · obtain ⟨q0,-⟩:=hk;have q0:ac.tmps.getD 8 undef=.slice (some ⟨bk,0,none⟩) k k:=q0;go_simp;refine (D.out wc hW.wr).mono ?_;rintro r7 w7 ⟨rfl,b7⟩;go_simp;exact hK _ _ (Wr.of (hW.le HB.out) b7) (hW.below HB.out b7) rfl
      refine ⟨fun S ac wc h0 hd hc hW hk K hK=>?_,?_⟩
      · obtain ⟨q0,q1,-⟩:=hk;have q0:ac.tmps.getD 7 undef=.pointer (some ⟨b,0,none⟩):=q0;have q1:ac.tmps.getD 9 undef=.string (str z):=q1;have hs5:S 5=false:=h0;have hI:IsS B b bs wc:=by have:=hW.is;simp only [hs5,cond_false] at this;exact this
        go_simp;refine (sws_any headsS B b (Lib.byteCells bs) (str z) wc hI (by rw [Lib.byteCells_length,str_size];have:=hll.out;rw [List.length_append] at this;omega) (hW.le HB.out)).mono ?_;rintro r7 w7 ⟨rfl,h7,b7⟩;go_simp;exact hK _ _ b7 (hW.on (IsS.of (z:=z) h7 (Lib.strCells_toArray z)) b7) trivial
      trivial
  intro vs wx hb;simp only [puts,Act.put,List.setIfInBounds_toArray,List.set_cons_zero,List.set_cons_succ];have S1:Hid (Sh w B b (bs++z) wx):=hb;clear hb D S0;go_wp2_with fail
  refine (swb_any headsS B b (Lib.byteCells (bs++z)) 10 wx S1.out.is (by rw [Lib.byteCells_length];have:=hll.out;omega) (S1.out.le HB.out)).mono ?_;rintro e w2 ⟨rfl,h2,b2⟩
  have S2:Hid (Sh w B b t w2):=S1.out.on (by
    have h3:=IsS.of (z:=[10]) h2 rfl;rw [List.append_assoc,HT.out] at h3;exact h3) b2
  clear h2 b2 S1;go_wp2_with fail
  refine (slen_any B b _ w2 S2.out.is).mono ?_;rintro e w3 ⟨rfl,hw3⟩;have hw3:=hw3.symm;subst hw3;rw [Lib.byteCells_length];by_cases hc:t.length≤40000
  · have hd:Hid (decide (t.length≤40000)=true):=decide_eq_true hc;have hc':(t.length:Int)≤40000:=by omega
    clear hc;go_wp2
    go_ret;exact ⟨by rw [hd.out];rfl,S2.out.is,S2.out.wr⟩
  · have hd:Hid (decide (t.length≤40000)=false):=decide_eq_false hc;have hc':¬ (t.length:Int)≤40000:=by omega
    have hd':Hid (decide ((t.length:Int)≤40000)=false):=decide_eq_false hc';clear hc;go_wp2
    go_ret;exact ⟨by rw [hd.out];show Ending.returned (.bool (decide ((t.length:Int)≤40000)))=_;rw [hd'.out],S2.out.is,S2.out.wr⟩
theorem Lined.pre {B b : Nat} {bs : List UInt8} {w w1 : World} {e : Ending} {w' : World} (hw : Wr B b w w1) (h : Lined B b bs w1 e w') : Lined B b bs w e w' := ⟨h.1, h.2.1, hw.trans h.2.2⟩
theorem join_single (a sep : List UInt8) : Lib.join [a] sep = a := Lib.join_one a sep
theorem step_any {B b : Nat} {bs s : List UInt8} {w : World} (hI : IsS B b bs w) (hB : B ≤ w.heap.size) (hbs : bs.length ≤ 40000) (hs : s.length ≤ 1000000) :
    Calls Tryz.prog 156 #[.pointer (some ⟨b,0,none⟩),.string (str s)] w (Lined B b (bs++lineT s) w):=by
  have C:Hid (Calls Tryz.prog 119 #[.pointer (some ⟨b,0,none⟩),.slice (some ⟨w.heap.size,0,none⟩) 1 1] (w.alloc (.cells #[.string (str ([9]++s++[59]))] 9)) (Lined B b (bs++lineT s) w)):=by
    have hb:Below w.heap.size w (w.alloc (.cells #[.string (str ([9]++s++[59]))] 9)):=bel1 _ _
    have:=line_any (bk:=w.heap.size) (k:=1) (xs:=[[9]++s++[59]]) (bld_below hI hb) (Nat.le_trans hB hb.size) (Blk.new w _ _) rfl (by decide) hbs (by rw [join_single];simp;omega)
    rw [join_single,show [9]++s++[59]++[10]=lineT s by simp [lineT]] at this;exact this.mono fun e w' h=>h.pre (Wr.of hB hb)
  have hsz:(str s).size≤1000000:=by rw [str_size];exact hs
  have e1:Hid ((⟨#[9]⟩:ByteArray)++str s++⟨#[59]⟩=str ([9]++s++[59])):=by
    show _=_;rw [show str s=⟨s.toArray⟩ from rfl,ByteArray.mk_append_mk [9] s,ByteArray.mk_append_mk ([9]++s) [59]];rfl
  generalize bs++lineT s=res at C ⊢;clear hI hB hbs hs;go_enter Tryz.func156,Tryz.ntmps156
  go_wp2_with fail
  rw [e1.out];refine C.out.mono ?_;rintro e w2 ⟨rfl,h2,b2⟩;have Z:Hid (Lined B b res w (.returned (.bool (decide (res.length≤40000)))) w2):=⟨rfl,h2,b2⟩;clear h2 b2 C;go_wp2
  go_ret;exact Z.out
theorem stepIns_any {B b bx : Nat} {bs : List UInt8} {w : World} (x : MIns) (cs : List Value) (hI : IsS B b bs w) (hB : B ≤ w.heap.size) (hbs : bs.length ≤ 40000) (hbx : Blk w bx #[.pointer (some ⟨b, 0, none⟩)] 136) (h0 : insL.In w All x cs) (hp0 : Pows w) (hs : x.small) (hf : (fieldsOf x.op).isNone = false) (hlen : x.txt.length ≤ 1000000) :
    Calls Tryz.prog 155 #[.agg cs.toArray,.pointer (some ⟨bx,0,none⟩)] w (Lined B b (bs++lineT x.txt) w):=by
  have h00:=h0;obtain ⟨pr,cr,pa,ca,rfl,-,-,-⟩:=ins_form h0;have b1:Below w.heap.size w (w.alloc (.cells #[.int .i64 x.op,.int .i64 x.a,.int .i64 x.b,.int .i64 x.c,.int .i64 x.k,.int .i64 x.n,.slice pr x.regs.length cr,.slice pa x.args.length ca] 45)):=bel1 _ _;have CT:Hid (∀ wx,Below w.heap.size w wx→Calls Tryz.prog 157 #[.agg #[.int .i64 x.op,.int .i64 x.a,.int .i64 x.b,.int .i64 x.c,.int .i64 x.k,.int .i64 x.n,.slice pr x.regs.length cr,.slice pa x.args.length ca]] wx fun e w'=>e=.returned (.string (str x.txt))∧Below wx.heap.size wx w'):=fun wx hb=>insText_any (funcs:=0) x hf _ wx (Lay.below h00 hb) (hp0.below hb) hs;have CW:Hid (∀ wx,IsS B b bs wx→B≤wx.heap.size→Calls Tryz.prog 156 #[.pointer (some ⟨b,0,none⟩),.string (str x.txt)] wx (Lined B b (bs++lineT x.txt) wx)):=fun wx hi hb=>step_any hi hb hbs hlen;have X1:=Blk.new w #[.int .i64 x.op,.int .i64 x.a,.int .i64 x.b,.int .i64 x.c,.int .i64 x.k,.int .i64 x.n,.slice pr x.regs.length cr,.slice pa x.args.length ca] 45;have XS:Blk (w.alloc (.cells #[.int .i64 x.op,.int .i64 x.a,.int .i64 x.b,.int .i64 x.c,.int .i64 x.k,.int .i64 x.n,.slice pr x.regs.length cr,.slice pa x.args.length ca] 45)) bx #[.pointer (some ⟨b,0,none⟩)] 136:=(b1.block _ (lt_of_block hbx)).trans hbx;have S1:Hid (Sh w B b bs (w.alloc (.cells #[.int .i64 x.op,.int .i64 x.a,.int .i64 x.b,.int .i64 x.c,.int .i64 x.k,.int .i64 x.n,.slice pr x.regs.length cr,.slice pa x.args.length ca] 45))):=(Sh.start hI).below hB b1;have n1:w.heap.size≠b:=S1.out.is.ne X1 (by decide);have n2:bx≠b:=hI.ne hbx (by decide);have HB:Hid (B≤w.heap.size):=hB;have B1:Hid (Below w.heap.size w (w.alloc (.cells #[.int .i64 x.op,.int .i64 x.a,.int .i64 x.b,.int .i64 x.c,.int .i64 x.k,.int .i64 x.n,.slice pr x.regs.length cr,.slice pa x.args.length ca] 45))):=b1;clear h0 h00 hI hB hbs hbx hp0 hs hf hlen b1;generalize x.txt=z at CT CW ⊢;generalize hgt:bs++lineT z=t at CW ⊢;clear hgt;generalize x.op=k0 at *;generalize x.a=k1 at *;generalize x.b=k2 at *;generalize x.c=k3 at *;generalize x.k=k4 at *;generalize x.n=k5 at *;generalize x.regs.length=n1' at *;generalize x.args.length=n2' at *;go_enter Tryz.func155,Tryz.ntmps155
  go_wp2_with fail
  generalize hw1:w.alloc (.cells #[.int .i64 k0,.int .i64 k1,.int .i64 k2,.int .i64 k3,.int .i64 k4,.int .i64 k5,.slice pr n1' cr,.slice pa n2' ca] 45)=w1 at X1 XS S1 B1 ⊢;clear hw1;have hB1:=B1.out.size;refine wp_puts [4,5,6,7,3] (fun vs w'=>vs 3=.bool (decide (t.length≤40000))∧Sh w B b t w') ?_ ?_
  · refine wp_region_stage (PTab.E ([(1,fun v _=>v=.pointer (some ⟨bx,0,none⟩)),(2,fun v _=>v=.pointer (some ⟨w.heap.size,0,none⟩)),(4,fun v _=>v=.pointer (some ⟨b,0,none⟩)),(5,fun v _=>v=.agg #[.int .i64 k0,.int .i64 k1,.int .i64 k2,.int .i64 k3,.int .i64 k4,.int .i64 k5,.slice pr n1' cr,.slice pa n2' ca]),(6,fun v _=>v=.string (str z)),(7,fun v _=>v=.bool (decide (t.length≤40000))),(3,fun v _=>v=.bool (decide (t.length≤40000)))]:PTab)) (fun S wx=>(bif S 3 then True else Below w.heap.size w wx)∧Sh w B b (bif S 3 then t else bs) wx∧Wr B b w1 wx) (Wr B b) (outs:=[1,2]) (gs:=[]) (bs:=[true,true,true,true,true]) (by kernel_rfl) (n:=8) rfl (Nat.le_refl _) (by kernel_rfl) (PTab_stable _ ⟨fun _ _ _ _ h=>h,fun _ _ _ _ h=>h,fun _ _ _ _ h=>h,fun _ _ _ _ h=>h,fun _ _ _ _ h=>h,fun _ _ _ _ h=>h,fun _ _ _ _ h=>h,trivial⟩) ?hG (⟨B1.out.drew,S1.out.drew,⟨(Below.refl _ _).drew,(Lib.OthersKept.refl _ _ _).drew⟩⟩) ⟨rfl,rfl,trivial⟩ ?hA ?hend
    case hG=>exact trivial
    case hend=>exact fun vs S w' hS hW hk=>⟨rfl,vs,rfl,hk 3 (by kernel_rfl),by have:=hS 3 (by decide);rw [this] at hW;exact hW.2.1⟩
    case hA =>
      refine ⟨fun S ac wc h0 hd hc hW hk K hK=>?_,?_⟩
      · obtain ⟨q0,-⟩:=hk;have q0:ac.tmps.getD 1 undef=.pointer (some ⟨bx,0,none⟩):=q0;have c0:=cellOf (hW.2.2.blk XS n2 (by decide)) 0 _ rfl;go_simp;exact hK _ _ (Wr.refl _ _ _) (hW) rfl
      refine ⟨fun S ac wc h0 hd hc hW hk K hK=>?_,?_⟩
      · obtain ⟨q0,-⟩:=hk;have q0:ac.tmps.getD 2 undef=.pointer (some ⟨w.heap.size,0,none⟩):=q0;have c0:=cellOf (hW.2.2.blk X1 n1 (by decide)) 0 _ rfl;have c1:=cellOf (hW.2.2.blk X1 n1 (by decide)) 1 _ rfl;have c2:=cellOf (hW.2.2.blk X1 n1 (by decide)) 2 _ rfl;have c3:=cellOf (hW.2.2.blk X1 n1 (by decide)) 3 _ rfl;have c4:=cellOf (hW.2.2.blk X1 n1 (by decide)) 4 _ rfl;have c5:=cellOf (hW.2.2.blk X1 n1 (by decide)) 5 _ rfl;have c6:=cellOf (hW.2.2.blk X1 n1 (by decide)) 6 _ rfl;have c7:=cellOf (hW.2.2.blk X1 n1 (by decide)) 7 _ rfl;go_simp;exact hK _ _ (Wr.refl _ _ _) (hW) rfl
      refine ⟨fun S ac wc h0 hd hc hW hk K hK=>?_,?_⟩
      · obtain ⟨q0,-⟩:=hk;have q0:ac.tmps.getD 5 undef=.agg #[.int .i64 k0,.int .i64 k1,.int .i64 k2,.int .i64 k3,.int .i64 k4,.int .i64 k5,.slice pr n1' cr,.slice pa n2' ca]:=q0;have hs3:S 3=false:=Bool.eq_false_iff.2 fun hh=>by have:=Deps.at (hc 3 _ rfl hh) 2 (by kernel_rfl);rw [h0] at this;cases this
        have hb0:Below w.heap.size w wc:=by have:=hW.1;simp only [hs3,cond_false] at this;exact this
        go_simp;refine (CT.out wc hb0).mono ?_;rintro r7 w7 ⟨rfl,b7⟩;go_simp;exact hK _ _ (Wr.of (hW.2.1.le HB.out) b7) ⟨by show (bif S 3 then True else _);rw [hs3];exact hb0.trans (b7.mono hb0.size),hW.2.1.below HB.out b7,hW.2.2.trans (Wr.of (hW.2.1.le HB.out) b7)⟩ rfl
      refine ⟨fun S ac wc h0 hd hc hW hk K hK=>?_,?_⟩
      · obtain ⟨q0,q1,-⟩:=hk;have q0:ac.tmps.getD 4 undef=.pointer (some ⟨b,0,none⟩):=q0;have q1:ac.tmps.getD 6 undef=.string (str z):=q1;have hs3:S 3=false:=h0;have hI:IsS B b bs wc:=by have:=hW.2.1.is;simp only [hs3,cond_false] at this;exact this
        go_simp;refine (CW.out wc hI (hW.2.1.le HB.out)).mono ?_;rintro r7 w7 ⟨rfl,h7,b7⟩;go_simp;exact hK _ _ b7 ⟨trivial,hW.2.1.on h7 b7,hW.2.2.trans b7⟩ rfl
      refine ⟨fun S ac wc h0 hd hc hW hk K hK=>?_,?_⟩
      · obtain ⟨q0,-⟩:=hk;have q0:ac.tmps.getD 7 undef=.bool (decide (t.length≤40000)):=q0;go_simp;exact hK _ _ (Wr.refl _ _ _) (hW) rfl
      trivial
  rintro vs wx ⟨hv0,hb⟩;simp only [puts,Act.put,List.setIfInBounds_toArray,List.set_cons_zero,List.set_cons_succ,hv0];have Z:Hid (Lined B b t w (.returned (.bool (decide (t.length≤40000)))) wx):=⟨rfl,hb.is,hb.wr⟩;clear hb CT CW X1 XS S1;go_wp2
  go_ret;exact Z.out
def stW (w1 : World) (B b : Nat) (T : (Nat → Bool) → Option (List UInt8)) (S : Nat → Bool) (w : World) : Prop := Wr B b w1 w ∧ ∀ t, T S = some t → IsS B b t w
theorem stW.rd {w1 w w' : World} {B b : Nat} {T : (Nat → Bool) → Option (List UInt8)} {S : Nat → Bool} (h : stW w1 B b T S w) (hB : B ≤ w1.heap.size) (hb : Below w.heap.size w w') : stW w1 B b T S w' :=
  ⟨h.1.trans (Wr.of (Nat.le_trans hB h.1.size) hb),fun t ht=>bld_below (h.2 t ht) hb⟩
theorem stW.drew {w1 w : World} {B b : Nat} {T : (Nat → Bool) → Option (List UInt8)} {S : Nat → Bool} (h : stW w1 B b T S w) : stW w1 B b T S w.drew := ⟨⟨h.1.below.drew, h.1.kept.drew⟩, h.2⟩
theorem stW.le {w1 w : World} {B b : Nat} {T : (Nat → Bool) → Option (List UInt8)} {S : Nat → Bool} (h : stW w1 B b T S w) (hB : B ≤ w1.heap.size) : B ≤ w.heap.size := Nat.le_trans hB h.1.size
theorem Closed.no {l : List Oper} {S : Nat → Bool} (hc : Closed l S) (j k : Nat) {o : Oper} (ho : l[j]? = some o) (hw : waits1 o k = true) (hk : S k = false) : S j = false :=
  Bool.eq_false_iff.2 fun hj=>by have:=Deps.at (hc j o ho hj) k hw;rw [hk] at this;cases this
theorem Closed.yes {l : List Oper} {S : Nat → Bool} (hc : Closed l S) (j k : Nat) {o : Oper} (ho : l[j]? = some o) (hw : waits1 o k = true) (hj : S j = true) : S k = true := Deps.at (hc j o ho hj) k hw
def SRw (b : Nat) (k : Nat) (c : Array Value) (v : Value) (w : World) : Prop := ∃ h, v = .slice (some ⟨h, 0, none⟩) k k ∧ h ≠ b ∧ Blk w h c 9
theorem SRw.on {B b k : Nat} {c : Array Value} {v : Value} {w w' : World} (hr : Wr B b w w') (h : SRw b k c v w) : SRw b k c v w' := by
  obtain ⟨h,e,hne,hb⟩:=h;exact ⟨h,e,hne,hr.blk hb hne (by decide)⟩
theorem SRw.new {B b k : Nat} {bs : List UInt8} {w : World} (c : Array Value) (hb : b < w.heap.size) : SRw b k c (.slice (some ⟨w.heap.size, 0, none⟩) k k) (w.alloc (.cells c 9)) := ⟨_, rfl, by omega, Blk.new _ _ _⟩
theorem Wr.lt {B b : Nat} {w w' : World} (h : Wr B b w w') (hb : b < w.heap.size) : b < w'.heap.size := Nat.lt_of_lt_of_le hb h.size
theorem IsS.lt {B b : Nat} {bs : List UInt8} {w : World} (h : IsS B b bs w) : b < w.heap.size := by
  obtain ⟨_,c,hb⟩:=h.blk;exact lt_of_block hb
theorem ins_len {x : MIns} {w : World} {O : Nat → Prop} {cs : List Value} (h : insL.In w O x cs) (hs : x.small) : x.txt.length ≤ 20000 := by
  obtain ⟨a,c,b,d,rfl,h1,h2,r0,ra,rb,rc,rk,rn⟩:=ins_form h;have l1:=ints_len 60 62 h1 hs.1;have l2:=ints_len 40 41 h2 hs.2;have l3:=op_len x.op;have l4:=kind_len x.k;have la:=nT_len ra;have lb:=nT_len rb;have lc:=nT_len rc;have lk:=nT_len rk;have ln:=nT_len rn;unfold MIns.txt MIns.rest;rw [List.length_append];repeat' split
  all_goals try simp only [List.length_append,List.length_cons,List.length_nil]
  all_goals omega
theorem end_len {x : MEnd} {w : World} {O : Nat → Prop} {cs : List Value} (h : endL.In w O x cs) (hs : x.small) : x.txt.length ≤ 40000 := by
  obtain ⟨c1,c2,pa,ca,rfl,hy,hn,h4,r0,ra⟩:=end_form h;have ly:=to_len hy hs.1;have ln:=to_len hn hs.2.1;have la:=ints_len 40 41 h4 hs.2.2;have lx:=nT_len ra;unfold MEnd.txt wJump wIf wTo wElse wRet;repeat' split
  all_goals simp only [List.length_append,List.length_cons,List.length_nil]
  all_goals omega
theorem typs_len {n : Nat} {l : List (TT n)} {w : World} {O : Nat → Prop} {a : Option Addr} {c : Nat} (h : (typesL n).In w O l [.slice a l.length c]) (hs : ∀ t ∈ l, t.count ≤ 2000) (hn : l.length ≤ 200) : (typsT l).length ≤ 20000000 := by
  have h1:=cat_len (t:=TT.txt) (k:=80000) (l:=l) (fun x hx=>by
    have:=TT.txt_len ((types_lin h).2 x hx)
    have:=hs x hx
    omega)
  simp only [typsT,List.length_cons,List.length_append,List.length_nil];omega
theorem join_four (a b c d sep : List UInt8) : Lib.join [a, b, c, d] sep = a ++ (sep ++ (b ++ (sep ++ (c ++ (sep ++ d))))) := by simp [Lib.join_cons, Lib.joinTail]
theorem join_six (a b c d e f sep : List UInt8) : Lib.join [a, b, c, d, e, f] sep = a ++ (sep ++ (b ++ (sep ++ (c ++ (sep ++ (d ++ (sep ++ (e ++ (sep ++ f))))))))) := by simp [Lib.join_cons, Lib.joinTail]
def tinyTs {n : Nat} (l : List (TT n)) : Prop := ∀ t ∈ l, t.count ≤ 2000
def MFunc.tiny {n : Nat} (x : MFunc n) : Prop := tinyTs x.params ∧ tinyTs x.results ∧ ∀ y ∈ x.blocks, tinyTs y.params
theorem tiny_of {n : Nat} {m : List (MFunc n)} (h : ¬ greatMod m) : ∀ x ∈ m, x.tiny := by
  have hts:∀ {l:List (TT n)},¬ greatTs l→tinyTs l:=fun h t ht=>Nat.le_of_not_lt fun x=>h (.inr ⟨t,ht,x⟩);intro x hx;have hg:¬ x.great:=fun hg=>h (.inr ⟨x,hx,hg⟩);unfold MFunc.great at hg;simp only [not_or,not_exists,not_and] at hg;refine ⟨hts hg.2.1,hts hg.2.2.1,fun y hy=>hts fun hgy=>hg.2.2.2 y hy (.inr (.inl hgy))⟩
def Parts (B b : Nat) (t : List UInt8) (w : World) : Ending → World → Prop := Tells B w (fun w' => Sh w B b t w' ∧ t.length ≤ 40000) (fun w' => Wr B b w w' ∧ ¬ t.length ≤ 40000)
theorem Parts.of {B b : Nat} {t : List UInt8} {w w' : World} (hI : IsS B b t w') (hw : Wr B b w w') : Parts B b t w (.returned (.bool (decide (t.length ≤ 40000)))) w' := by
  by_cases h:t.length≤40000
  · rw [decide_eq_true h];exact Tells.yes ⟨⟨hI,hw⟩,h⟩ hw.below
  · rw [decide_eq_false h];exact Tells.no ⟨hw,h⟩ hw.below
theorem Parts.no {B b : Nat} {t : List UInt8} {w w' : World} (h : ¬ t.length ≤ 40000) (hw : Wr B b w w') : Parts B b t w (.returned (.bool false)) w' := Tells.no ⟨hw, h⟩ hw.below
theorem Parts.pre {B b : Nat} {t : List UInt8} {w w1 : World} (hw : Wr B b w w1) {e : Ending} {w' : World} (h : Parts B b t w1 e w') : Parts B b t w e w' := by
  rcases h with ⟨rfl,h,hb⟩ | ⟨rfl,h,hb⟩
  · exact Tells.yes ⟨⟨h.1.is,hw.trans h.1.wr⟩,h.2⟩ (hw.below.trans hb)
  · exact Tells.no ⟨hw.trans h.1,h.2⟩ (hw.below.trans hb)
structure BlockH (B b : Nat) (w w1 : World) (kr e0 e1 e2 e5 : Int) (np cp nc cc e3 ce3 e4 ce4 e6 ce6 e7 ce7 e8 ce8 : Nat) (pp pc pe3 pe4 pe6 pe7 pe8 : Option Addr) (zn zp ze t0 t1 t2 t3 t4 : List UInt8) : Prop where
  E1:Hid (((w.alloc (.cells #[.pointer (some ⟨b,0,none⟩)] 136)).alloc (.cells #[.int .i64 kr,.slice pp np cp,.slice pc nc cc,.int .i64 e0,.int .i64 e1,.int .i64 e2,.slice pe3 e3 ce3,.slice pe4 e4 ce4,.int .i64 e5,.slice pe6 e6 ce6,.slice pe7 e7 ce7,.slice pe8 e8 ce8] 52))=w1)
  I1:Hid (IsS B b t0 w1)
  W1:Hid (Wr B b w w1)
  HB:Hid (B≤w1.heap.size)
  HL:Hid (b<w1.heap.size)
  X1:Blk w1 w.heap.size #[.pointer (some ⟨b,0,none⟩)] 136
  X2:Blk w1 (w.heap.size+1) #[.int .i64 kr,.slice pp np cp,.slice pc nc cc,.int .i64 e0,.int .i64 e1,.int .i64 e2,.slice pe3 e3 ce3,.slice pe4 e4 ce4,.int .i64 e5,.slice pe6 e6 ce6,.slice pe7 e7 ce7,.slice pe8 e8 ce8] 52
  m1:w.heap.size≠b
  m2:w.heap.size+1≠b
  CN:Hid (∀ wx,Wr B b w1 wx→Calls Tryz.prog 120 #[.int .i64 kr] wx fun e w'=>e=.returned (.string (str zn))∧Below wx.heap.size wx w')
  CP:Hid (∀ wx,Wr B b w1 wx→Calls Tryz.prog 121 #[.slice pp np cp] wx fun e w'=>e=.returned (.string (str zp))∧Below wx.heap.size wx w')
  CX:Hid (∀ wx,Wr B b w1 wx→Calls Tryz.prog 158 #[.agg #[.int .i64 e0,.int .i64 e1,.int .i64 e2,.slice pe3 e3 ce3,.slice pe4 e4 ce4,.int .i64 e5,.slice pe6 e6 ce6,.slice pe7 e7 ce7,.slice pe8 e8 ce8]] wx fun e w'=>e=.returned (.string (str ze))∧Below wx.heap.size wx w')
  CL1:Hid (∀ h wx,IsS B b t0 wx→B≤wx.heap.size→Blk wx h #[.string ⟨#[98,108,111,99,107]⟩,.string (str zn),.string (str zp),.string ⟨#[123]⟩] 9→Calls Tryz.prog 119 #[.pointer (some ⟨b,0,none⟩),.slice (some ⟨h,0,none⟩) 4 4] wx (Lined B b t1 wx))
  CE0:t1.length≤40000→Hid (∀ wx,Wr B b w1 wx→IsS B b t1 wx→Calls Tryz.prog 84 #[.slice pc nc cc,.func (.func 155) #[] #[.pointer (some ⟨w.heap.size,0,none⟩)]] wx (Parts B b t2 wx))
  CS0:t2.length≤40000→Hid (∀ wx,IsS B b t2 wx→B≤wx.heap.size→Calls Tryz.prog 156 #[.pointer (some ⟨b,0,none⟩),.string (str ze)] wx (Lined B b t3 wx))
  CL20:t3.length≤40000→Hid (∀ h wx,IsS B b t3 wx→B≤wx.heap.size→Blk wx h #[.string ⟨#[125]⟩] 9→Calls Tryz.prog 119 #[.pointer (some ⟨b,0,none⟩),.slice (some ⟨h,0,none⟩) 1 1] wx (Lined B b t4 wx))
  M1:Hid (t1.length≤t4.length)
  M2:Hid (t2.length≤t4.length)
  M3:Hid (t3.length≤t4.length)
theorem block_no0 {B b : Nat} {w w1 : World} {kr e0 e1 e2 e5 : Int} {np cp nc cc e3 ce3 e4 ce4 e6 ce6 e7 ce7 e8 ce8 : Nat} {pp pc pe3 pe4 pe6 pe7 pe8 : Option Addr} {zn zp ze t0 t1 t2 t3 t4 : List UInt8} (H : BlockH B b w w1 kr e0 e1 e2 e5 np cp nc cc e3 ce3 e4 ce4 e6 ce6 e7 ce7 e8 ce8 pp pc pe3 pe4 pe6 pe7 pe8 zn zp ze t0 t1 t2 t3 t4) (G1 : Hid (¬ t1.length ≤ 40000)) :
    Calls Tryz.prog 122 #[.pointer (some ⟨b,0,none⟩),.agg #[.int .i64 kr,.slice pp np cp,.slice pc nc cc,.int .i64 e0,.int .i64 e1,.int .i64 e2,.slice pe3 e3 ce3,.slice pe4 e4 ce4,.int .i64 e5,.slice pe6 e6 ce6,.slice pe7 e7 ce7,.slice pe8 e8 ce8]] w (Parts B b t4 w):=by
  obtain ⟨E1,I1,W1,HB,HL,X1,X2,m1,m2,CN,CP,CX,CL1,CE0,CS0,CL20,M1,M2,M3⟩:=H;clear CE0 CS0 CL20;go_enter Tryz.func122,Tryz.ntmps122
  go_wp2_with fail
  rw [E1.out];have ST0:stW w1 B b (fun S=>(bif S 8 then some t1 else some t0)) (fun _=>false) w1.drew:=⟨⟨(Below.refl _ _).drew,(Lib.OthersKept.refl _ _ _).drew⟩,fun u hu=>by replace hu:some t0=some u:=hu;cases hu;exact I1.out⟩;refine wp_puts [5,6,7,8,9,10,11,12,13,14,15,16,17,18,19,20,21,22,23,24,25,26,27,28,29,30,31,4] (fun vs w'=>vs 4=.bool false∧Wr B b w1 w') ?_ ?_
  · refine wp_region_stage (PTab.E ([(2,fun v _=>v=.pointer (some ⟨w.heap.size,0,none⟩)),(3,fun v _=>v=.pointer (some ⟨w.heap.size+1,0,none⟩)),(5,fun v _=>v=.pointer (some ⟨b,0,none⟩)),(6,fun v _=>v=.pointer (some ⟨w.heap.size+1,0,none⟩)),(7,fun v _=>v=.int .i64 kr),(8,fun v _=>v=.string (str zn)),(9,fun v _=>v=.pointer (some ⟨w.heap.size+1,1,none⟩)),(10,fun v _=>v=.slice pp np cp),(11,fun v _=>v=.string (str zp)),(13,fun v _=>v=.bool false),(14,fun v _=>v=.bool false),(15,fun v _=>v=undef),(16,fun v _=>v=undef),(17,fun v _=>v=undef),(18,fun v _=>v=undef),(19,fun v _=>v=.bool false),(20,fun v _=>v=.bool false),(21,fun v _=>v=undef),(22,fun v _=>v=undef),(23,fun v _=>v=undef),(24,fun v _=>v=undef),(25,fun v _=>v=undef),(26,fun v _=>v=.bool false),(27,fun v _=>v=.bool false),(28,fun v _=>v=undef),(29,fun v _=>v=undef),(30,fun v _=>v=undef),(31,fun v _=>v=.bool false),(4,fun v _=>v=.bool false),(12,fun v w=>SRw b 4 #[.string ⟨#[98,108,111,99,107]⟩,.string (str zn),.string (str zp),.string ⟨#[123]⟩] v w)]:PTab)) (stW w1 B b (fun S=>(bif S 8 then some t1 else some t0))) (Wr B b) (outs:=[2,3]) (gs:=[(9,some false),(15,some false),(22,some false)]) (bs:=[true,true,true,true,true,true,true,true,true,true,false,false,false,false,true,true,false,false,false,false,false,true,true,false,false,false,true,true]) (by kernel_rfl) (n:=32) rfl (Nat.le_refl _) (by kernel_rfl) (PTab_stable _ ⟨fun _ _ _ _ h=>h,fun _ _ _ _ h=>h,fun _ _ _ _ h=>h,fun _ _ _ _ h=>h,fun _ _ _ _ h=>h,fun _ _ _ _ h=>h,fun _ _ _ _ h=>h,fun _ _ _ _ h=>h,fun _ _ _ _ h=>h,fun _ _ _ _ h=>h,fun _ _ _ _ h=>h,fun _ _ _ _ h=>h,fun _ _ _ _ h=>h,fun _ _ _ _ h=>h,fun _ _ _ _ h=>h,fun _ _ _ _ h=>h,fun _ _ _ _ h=>h,fun _ _ _ _ h=>h,fun _ _ _ _ h=>h,fun _ _ _ _ h=>h,fun _ _ _ _ h=>h,fun _ _ _ _ h=>h,fun _ _ _ _ h=>h,fun _ _ _ _ h=>h,fun _ _ _ _ h=>h,fun _ _ _ _ h=>h,fun _ _ _ _ h=>h,fun _ _ _ _ h=>h,fun _ _ _ _ h=>h,fun v w w' hr h=>h.on hr,trivial⟩) ?hG (ST0) ⟨rfl,rfl,trivial⟩ ?hA ?hend
    case hG=>exact ⟨fun t ht v w h=>by cases ht;exact h,fun t ht v w h=>by cases ht;exact h,fun t ht v w h=>by cases ht;exact h,trivial⟩
    case hend=>exact fun vs S w' hS hW hk=>⟨rfl,vs,rfl,hk 4 (by kernel_rfl),hW.1⟩
    case hA =>
      refine ⟨fun S ac wc h0 hd hc hW hk K hK=>?_,?_⟩
      · obtain ⟨q0,-⟩:=hk;have q0:ac.tmps.getD 2 undef=.pointer (some ⟨w.heap.size,0,none⟩):=q0;have c0:=cellOf (hW.1.blk X1 m1 (by decide)) 0 _ rfl;go_simp;exact hK _ _ (Wr.refl _ _ _) (hW) rfl
      refine ⟨fun S ac wc h0 hd hc hW hk K hK=>?_,?_⟩
      · obtain ⟨q0,-⟩:=hk;have q0:ac.tmps.getD 3 undef=.pointer (some ⟨w.heap.size+1,0,none⟩):=q0;go_simp;exact hK _ _ (Wr.refl _ _ _) (hW) rfl
      refine ⟨fun S ac wc h0 hd hc hW hk K hK=>?_,?_⟩
      · obtain ⟨q0,-⟩:=hk;have q0:ac.tmps.getD 6 undef=.pointer (some ⟨w.heap.size+1,0,none⟩):=q0;have c0:=cellOf (hW.1.blk X2 m2 (by decide)) 0 _ rfl;go_simp;exact hK _ _ (Wr.refl _ _ _) (hW) rfl
      refine ⟨fun S ac wc h0 hd hc hW hk K hK=>?_,?_⟩
      · obtain ⟨q0,-⟩:=hk;have q0:ac.tmps.getD 7 undef=.int .i64 kr:=q0;go_simp;refine (CN.out wc hW.1).mono ?_;rintro r7 w7 ⟨rfl,b7⟩;go_simp;exact hK _ _ (Wr.of (hW.le HB.out) b7) (hW.rd HB.out b7) rfl
      refine ⟨fun S ac wc h0 hd hc hW hk K hK=>?_,?_⟩
      · obtain ⟨q0,-⟩:=hk;have q0:ac.tmps.getD 3 undef=.pointer (some ⟨w.heap.size+1,0,none⟩):=q0;go_simp;exact hK _ _ (Wr.refl _ _ _) (hW) rfl
      refine ⟨fun S ac wc h0 hd hc hW hk K hK=>?_,?_⟩
      · obtain ⟨q0,-⟩:=hk;have q0:ac.tmps.getD 9 undef=.pointer (some ⟨w.heap.size+1,1,none⟩):=q0;have c0:=cellOf (hW.1.blk X2 m2 (by decide)) 1 _ rfl;go_simp;exact hK _ _ (Wr.refl _ _ _) (hW) rfl
      refine ⟨fun S ac wc h0 hd hc hW hk K hK=>?_,?_⟩
      · obtain ⟨q0,-⟩:=hk;have q0:ac.tmps.getD 10 undef=.slice pp np cp:=q0;go_simp;refine (CP.out wc hW.1).mono ?_;rintro r7 w7 ⟨rfl,b7⟩;go_simp;exact hK _ _ (Wr.of (hW.le HB.out) b7) (hW.rd HB.out b7) rfl
      refine ⟨fun S ac wc h0 hd hc hW hk K hK=>?_,?_⟩
      · obtain ⟨q0,q1,-⟩:=hk;have q0:ac.tmps.getD 8 undef=.string (str zn):=q0;have q1:ac.tmps.getD 11 undef=.string (str zp):=q1;simp only [Array.getD_eq_getD_getElem?] at q0 q1;go_simp;exact hK _ _ (Wr.of (hW.le HB.out) (bel1 _ _)) (hW.rd HB.out (bel1 _ _)) (SRw.new (B:=0) (bs:=[]) _ (hW.1.lt HL.out))
      refine ⟨fun S ac wc h0 hd hc hW hk K hK=>?_,?_⟩
      · obtain ⟨q0,q1,-⟩:=hk;have q0:ac.tmps.getD 5 undef=.pointer (some ⟨b,0,none⟩):=q0;have q1:(fun v w=>SRw b 4 #[.string ⟨#[98,108,111,99,107]⟩,.string (str zn),.string (str zp),.string ⟨#[123]⟩] v w) (ac.tmps.getD 12 undef) wc:=q1;generalize q1e:ac.tmps.getD 12 undef=uq1 at q1;obtain ⟨h,rfl,hne,hb⟩:=q1;have n8:S 8=false:=h0;have hI:IsS B b t0 wc:=hW.2 t0 (by show (bif S 8 then _ else _)=_;simp only [n8,cond_true,cond_false]);go_simp;refine (CL1.out h wc hI (hW.le HB.out) hb).mono ?_;rintro r7 w7 ⟨rfl,h7,b7⟩;rw [decide_eq_false G1.out];go_simp;exact hK _ _ b7 ⟨hW.1.trans b7,fun u hu=>by replace hu:(bif plus 8 S 8 then _ else _)=some u:=hu;simp only [plus,beq_self_eq_true,Bool.true_or,Bool.or_false,Bool.false_or,Nat.reduceBEq,Nat.reduceAdd,cond_true,cond_false,Option.some.injEq] at hu;rw [← hu];exact h7⟩ rfl
      refine ⟨fun S ac wc h0 hd hc hW hk K hK=>?_,?_⟩
      · obtain ⟨q0,-⟩:=hk;have q0:ac.tmps.getD 13 undef=.bool false:=q0;go_simp;exact hK _ _ (Wr.refl _ _ _) (hW) rfl
      refine ⟨fun S w h0 hd hc hW=>⟨hW,rfl⟩,?_⟩;refine ⟨fun S w h0 hd hc hW=>⟨hW,rfl⟩,?_⟩;refine ⟨fun S w h0 hd hc hW=>⟨hW,rfl⟩,?_⟩;refine ⟨fun S w h0 hd hc hW=>⟨hW,rfl⟩,?_⟩;refine ⟨fun S ac wc h0 hd hc hW hk K hK=>?_,?_⟩
      · obtain ⟨q0,q1,-⟩:=hk;have q0:ac.tmps.getD 14 undef=.bool false:=q0;have q1:ac.tmps.getD 18 undef=undef:=q1;go_simp;exact hK _ _ (Wr.refl _ _ _) (hW) rfl
      refine ⟨fun S ac wc h0 hd hc hW hk K hK=>?_,?_⟩
      · obtain ⟨q0,-⟩:=hk;have q0:ac.tmps.getD 19 undef=.bool false:=q0;go_simp;exact hK _ _ (Wr.refl _ _ _) (hW) rfl
      refine ⟨fun S w h0 hd hc hW=>⟨hW,rfl⟩,?_⟩;refine ⟨fun S w h0 hd hc hW=>⟨hW,rfl⟩,?_⟩;refine ⟨fun S w h0 hd hc hW=>⟨hW,rfl⟩,?_⟩;refine ⟨fun S w h0 hd hc hW=>⟨hW,rfl⟩,?_⟩;refine ⟨fun S w h0 hd hc hW=>⟨hW,rfl⟩,?_⟩;refine ⟨fun S ac wc h0 hd hc hW hk K hK=>?_,?_⟩
      · obtain ⟨q0,q1,-⟩:=hk;have q0:ac.tmps.getD 20 undef=.bool false:=q0;have q1:ac.tmps.getD 25 undef=undef:=q1;go_simp;exact hK _ _ (Wr.refl _ _ _) (hW) rfl
      refine ⟨fun S ac wc h0 hd hc hW hk K hK=>?_,?_⟩
      · obtain ⟨q0,-⟩:=hk;have q0:ac.tmps.getD 26 undef=.bool false:=q0;go_simp;exact hK _ _ (Wr.refl _ _ _) (hW) rfl
      refine ⟨fun S w h0 hd hc hW=>⟨hW,rfl⟩,?_⟩;refine ⟨fun S w h0 hd hc hW=>⟨hW,rfl⟩,?_⟩;refine ⟨fun S w h0 hd hc hW=>⟨hW,rfl⟩,?_⟩;refine ⟨fun S ac wc h0 hd hc hW hk K hK=>?_,?_⟩
      · obtain ⟨q0,q1,-⟩:=hk;have q0:ac.tmps.getD 27 undef=.bool false:=q0;have q1:ac.tmps.getD 30 undef=undef:=q1;go_simp;exact hK _ _ (Wr.refl _ _ _) (hW) rfl
      refine ⟨fun S ac wc h0 hd hc hW hk K hK=>?_,?_⟩
      · obtain ⟨q0,-⟩:=hk;have q0:ac.tmps.getD 31 undef=.bool false:=q0;go_simp;exact hK _ _ (Wr.refl _ _ _) (hW) rfl
      trivial
  rintro vs wx ⟨hv0,hb⟩;simp only [puts,Act.put,List.setIfInBounds_toArray,List.set_cons_zero,List.set_cons_succ,hv0];have Z:Hid (Parts B b t4 w (.returned (.bool false)) wx):=Parts.no (fun hh=>G1.out (Nat.le_trans M1.out hh)) (W1.out.trans hb);clear hb;go_wp2
  go_ret;exact Z.out
theorem block_no1 {B b : Nat} {w w1 : World} {kr e0 e1 e2 e5 : Int} {np cp nc cc e3 ce3 e4 ce4 e6 ce6 e7 ce7 e8 ce8 : Nat} {pp pc pe3 pe4 pe6 pe7 pe8 : Option Addr} {zn zp ze t0 t1 t2 t3 t4 : List UInt8} (H : BlockH B b w w1 kr e0 e1 e2 e5 np cp nc cc e3 ce3 e4 ce4 e6 ce6 e7 ce7 e8 ce8 pp pc pe3 pe4 pe6 pe7 pe8 zn zp ze t0 t1 t2 t3 t4) (G1 : Hid (t1.length ≤ 40000)) (G2 : Hid (¬ t2.length ≤ 40000)) :
    Calls Tryz.prog 122 #[.pointer (some ⟨b,0,none⟩),.agg #[.int .i64 kr,.slice pp np cp,.slice pc nc cc,.int .i64 e0,.int .i64 e1,.int .i64 e2,.slice pe3 e3 ce3,.slice pe4 e4 ce4,.int .i64 e5,.slice pe6 e6 ce6,.slice pe7 e7 ce7,.slice pe8 e8 ce8]] w (Parts B b t4 w):=by
  obtain ⟨E1,I1,W1,HB,HL,X1,X2,m1,m2,CN,CP,CX,CL1,CE0,CS0,CL20,M1,M2,M3⟩:=H;have CE:=CE0 G1.out;clear CE0 CS0 CL20;go_enter Tryz.func122,Tryz.ntmps122
  go_wp2_with fail
  rw [E1.out];have ST0:stW w1 B b (fun S=>(bif S 8 then (bif S 13 then none else some t1) else some t0)) (fun _=>false) w1.drew:=⟨⟨(Below.refl _ _).drew,(Lib.OthersKept.refl _ _ _).drew⟩,fun u hu=>by replace hu:some t0=some u:=hu;cases hu;exact I1.out⟩;refine wp_puts [5,6,7,8,9,10,11,12,13,14,15,16,17,18,19,20,21,22,23,24,25,26,27,28,29,30,31,4] (fun vs w'=>vs 4=.bool false∧Wr B b w1 w') ?_ ?_
  · refine wp_region_stage (PTab.E ([(2,fun v _=>v=.pointer (some ⟨w.heap.size,0,none⟩)),(3,fun v _=>v=.pointer (some ⟨w.heap.size+1,0,none⟩)),(5,fun v _=>v=.pointer (some ⟨b,0,none⟩)),(6,fun v _=>v=.pointer (some ⟨w.heap.size+1,0,none⟩)),(7,fun v _=>v=.int .i64 kr),(8,fun v _=>v=.string (str zn)),(9,fun v _=>v=.pointer (some ⟨w.heap.size+1,1,none⟩)),(10,fun v _=>v=.slice pp np cp),(11,fun v _=>v=.string (str zp)),(13,fun v _=>v=.bool true),(14,fun v _=>v=.bool true),(15,fun v _=>v=.pointer (some ⟨w.heap.size+1,2,none⟩)),(16,fun v _=>v=.slice pc nc cc),(17,fun v _=>v=.func (.func 155) #[] #[.pointer (some ⟨w.heap.size,0,none⟩)]),(18,fun v _=>v=.bool false),(19,fun v _=>v=.bool false),(20,fun v _=>v=.bool false),(21,fun v _=>v=undef),(22,fun v _=>v=undef),(23,fun v _=>v=undef),(24,fun v _=>v=undef),(25,fun v _=>v=undef),(26,fun v _=>v=.bool false),(27,fun v _=>v=.bool false),(28,fun v _=>v=undef),(29,fun v _=>v=undef),(30,fun v _=>v=undef),(31,fun v _=>v=.bool false),(4,fun v _=>v=.bool false),(12,fun v w=>SRw b 4 #[.string ⟨#[98,108,111,99,107]⟩,.string (str zn),.string (str zp),.string ⟨#[123]⟩] v w)]:PTab)) (stW w1 B b (fun S=>(bif S 8 then (bif S 13 then none else some t1) else some t0))) (Wr B b) (outs:=[2,3]) (gs:=[(9,some true),(15,some false),(22,some false)]) (bs:=[true,true,true,true,true,true,true,true,true,true,true,true,true,true,true,true,false,false,false,false,false,true,true,false,false,false,true,true]) (by kernel_rfl) (n:=32) rfl (Nat.le_refl _) (by kernel_rfl) (PTab_stable _ ⟨fun _ _ _ _ h=>h,fun _ _ _ _ h=>h,fun _ _ _ _ h=>h,fun _ _ _ _ h=>h,fun _ _ _ _ h=>h,fun _ _ _ _ h=>h,fun _ _ _ _ h=>h,fun _ _ _ _ h=>h,fun _ _ _ _ h=>h,fun _ _ _ _ h=>h,fun _ _ _ _ h=>h,fun _ _ _ _ h=>h,fun _ _ _ _ h=>h,fun _ _ _ _ h=>h,fun _ _ _ _ h=>h,fun _ _ _ _ h=>h,fun _ _ _ _ h=>h,fun _ _ _ _ h=>h,fun _ _ _ _ h=>h,fun _ _ _ _ h=>h,fun _ _ _ _ h=>h,fun _ _ _ _ h=>h,fun _ _ _ _ h=>h,fun _ _ _ _ h=>h,fun _ _ _ _ h=>h,fun _ _ _ _ h=>h,fun _ _ _ _ h=>h,fun _ _ _ _ h=>h,fun _ _ _ _ h=>h,fun v w w' hr h=>h.on hr,trivial⟩) ?hG (ST0) ⟨rfl,rfl,trivial⟩ ?hA ?hend
    case hG=>exact ⟨fun t ht v w h=>by cases ht;exact h,fun t ht v w h=>by cases ht;exact h,fun t ht v w h=>by cases ht;exact h,trivial⟩
    case hend=>exact fun vs S w' hS hW hk=>⟨rfl,vs,rfl,hk 4 (by kernel_rfl),hW.1⟩
    case hA =>
      refine ⟨fun S ac wc h0 hd hc hW hk K hK=>?_,?_⟩
      · obtain ⟨q0,-⟩:=hk;have q0:ac.tmps.getD 2 undef=.pointer (some ⟨w.heap.size,0,none⟩):=q0;have c0:=cellOf (hW.1.blk X1 m1 (by decide)) 0 _ rfl;go_simp;exact hK _ _ (Wr.refl _ _ _) (hW) rfl
      refine ⟨fun S ac wc h0 hd hc hW hk K hK=>?_,?_⟩
      · obtain ⟨q0,-⟩:=hk;have q0:ac.tmps.getD 3 undef=.pointer (some ⟨w.heap.size+1,0,none⟩):=q0;go_simp;exact hK _ _ (Wr.refl _ _ _) (hW) rfl
      refine ⟨fun S ac wc h0 hd hc hW hk K hK=>?_,?_⟩
      · obtain ⟨q0,-⟩:=hk;have q0:ac.tmps.getD 6 undef=.pointer (some ⟨w.heap.size+1,0,none⟩):=q0;have c0:=cellOf (hW.1.blk X2 m2 (by decide)) 0 _ rfl;go_simp;exact hK _ _ (Wr.refl _ _ _) (hW) rfl
      refine ⟨fun S ac wc h0 hd hc hW hk K hK=>?_,?_⟩
      · obtain ⟨q0,-⟩:=hk;have q0:ac.tmps.getD 7 undef=.int .i64 kr:=q0;go_simp;refine (CN.out wc hW.1).mono ?_;rintro r7 w7 ⟨rfl,b7⟩;go_simp;exact hK _ _ (Wr.of (hW.le HB.out) b7) (hW.rd HB.out b7) rfl
      refine ⟨fun S ac wc h0 hd hc hW hk K hK=>?_,?_⟩
      · obtain ⟨q0,-⟩:=hk;have q0:ac.tmps.getD 3 undef=.pointer (some ⟨w.heap.size+1,0,none⟩):=q0;go_simp;exact hK _ _ (Wr.refl _ _ _) (hW) rfl
      refine ⟨fun S ac wc h0 hd hc hW hk K hK=>?_,?_⟩
      · obtain ⟨q0,-⟩:=hk;have q0:ac.tmps.getD 9 undef=.pointer (some ⟨w.heap.size+1,1,none⟩):=q0;have c0:=cellOf (hW.1.blk X2 m2 (by decide)) 1 _ rfl;go_simp;exact hK _ _ (Wr.refl _ _ _) (hW) rfl
      refine ⟨fun S ac wc h0 hd hc hW hk K hK=>?_,?_⟩
      · obtain ⟨q0,-⟩:=hk;have q0:ac.tmps.getD 10 undef=.slice pp np cp:=q0;go_simp;refine (CP.out wc hW.1).mono ?_;rintro r7 w7 ⟨rfl,b7⟩;go_simp;exact hK _ _ (Wr.of (hW.le HB.out) b7) (hW.rd HB.out b7) rfl
      refine ⟨fun S ac wc h0 hd hc hW hk K hK=>?_,?_⟩
      · obtain ⟨q0,q1,-⟩:=hk;have q0:ac.tmps.getD 8 undef=.string (str zn):=q0;have q1:ac.tmps.getD 11 undef=.string (str zp):=q1;simp only [Array.getD_eq_getD_getElem?] at q0 q1;go_simp;exact hK _ _ (Wr.of (hW.le HB.out) (bel1 _ _)) (hW.rd HB.out (bel1 _ _)) (SRw.new (B:=0) (bs:=[]) _ (hW.1.lt HL.out))
      refine ⟨fun S ac wc h0 hd hc hW hk K hK=>?_,?_⟩
      · obtain ⟨q0,q1,-⟩:=hk;have q0:ac.tmps.getD 5 undef=.pointer (some ⟨b,0,none⟩):=q0;have q1:(fun v w=>SRw b 4 #[.string ⟨#[98,108,111,99,107]⟩,.string (str zn),.string (str zp),.string ⟨#[123]⟩] v w) (ac.tmps.getD 12 undef) wc:=q1;generalize q1e:ac.tmps.getD 12 undef=uq1 at q1;obtain ⟨h,rfl,hne,hb⟩:=q1;have n8:S 8=false:=h0;have n9:S 9=false:=hc.no 9 8 rfl (by kernel_rfl) n8;have n13:S 13=false:=hc.no 13 9 rfl (by kernel_rfl) n9;have hI:IsS B b t0 wc:=hW.2 t0 (by show (bif S 8 then _ else _)=_;simp only [n8,cond_true,cond_false]);go_simp;refine (CL1.out h wc hI (hW.le HB.out) hb).mono ?_;rintro r7 w7 ⟨rfl,h7,b7⟩;rw [decide_eq_true G1.out];go_simp;exact hK _ _ b7 ⟨hW.1.trans b7,fun u hu=>by replace hu:(bif plus 8 S 8 then _ else _)=some u:=hu;simp only [plus,beq_self_eq_true,Bool.true_or,Bool.or_false,Bool.false_or,Nat.reduceBEq,Nat.reduceAdd,n13,cond_true,cond_false,Option.some.injEq] at hu;rw [← hu];exact h7⟩ rfl
      refine ⟨fun S ac wc h0 hd hc hW hk K hK=>?_,?_⟩
      · obtain ⟨q0,-⟩:=hk;have q0:ac.tmps.getD 13 undef=.bool true:=q0;go_simp;exact hK _ _ (Wr.refl _ _ _) (hW) rfl
      refine ⟨fun S ac wc h0 hd hc hW hk K hK=>?_,?_⟩
      · obtain ⟨q0,-⟩:=hk;have q0:ac.tmps.getD 3 undef=.pointer (some ⟨w.heap.size+1,0,none⟩):=q0;go_simp;exact hK _ _ (Wr.refl _ _ _) (hW) rfl
      refine ⟨fun S ac wc h0 hd hc hW hk K hK=>?_,?_⟩
      · obtain ⟨q0,-⟩:=hk;have q0:ac.tmps.getD 15 undef=.pointer (some ⟨w.heap.size+1,2,none⟩):=q0;have c0:=cellOf (hW.1.blk X2 m2 (by decide)) 2 _ rfl;go_simp;exact hK _ _ (Wr.refl _ _ _) (hW) rfl
      refine ⟨fun S ac wc h0 hd hc hW hk K hK=>?_,?_⟩
      · obtain ⟨q0,-⟩:=hk;have q0:ac.tmps.getD 2 undef=.pointer (some ⟨w.heap.size,0,none⟩):=q0;go_simp;exact hK _ _ (Wr.refl _ _ _) (hW) rfl
      refine ⟨fun S ac wc h0 hd hc hW hk K hK=>?_,?_⟩
      · obtain ⟨q0,q1,-⟩:=hk;have q0:ac.tmps.getD 16 undef=.slice pc nc cc:=q0;have q1:ac.tmps.getD 17 undef=.func (.func 155) #[] #[.pointer (some ⟨w.heap.size,0,none⟩)]:=q1;have s9:S 9=true:=hd.at 9 (by kernel_rfl);have s8:S 8=true:=hc.yes 9 8 rfl (by kernel_rfl) s9;have n13:S 13=false:=h0;have hI:IsS B b t1 wc:=hW.2 t1 (by show (bif S 8 then _ else _)=_;simp only [s8,n13,cond_true,cond_false]);go_simp;refine (CE.out wc hW.1 hI).mono ?_;rintro r7 w7 (⟨rfl,h7,b7⟩ | ⟨rfl,h7,b7⟩)
        · exact absurd h7.2 G2.out
        · have b7:=h7.1;go_simp;exact hK _ _ b7 ⟨hW.1.trans b7,fun u hu=>by replace hu:(bif plus 13 S 8 then _ else _)=some u:=hu;simp only [plus,beq_self_eq_true,Bool.true_or,Bool.false_or,Nat.reduceBEq,Nat.reduceAdd,s8,cond_true,cond_false,reduceCtorEq] at hu⟩ rfl
      refine ⟨fun S ac wc h0 hd hc hW hk K hK=>?_,?_⟩
      · obtain ⟨q0,q1,-⟩:=hk;have q0:ac.tmps.getD 14 undef=.bool true:=q0;have q1:ac.tmps.getD 18 undef=.bool false:=q1;go_simp;exact hK _ _ (Wr.refl _ _ _) (hW) rfl
      refine ⟨fun S ac wc h0 hd hc hW hk K hK=>?_,?_⟩
      · obtain ⟨q0,-⟩:=hk;have q0:ac.tmps.getD 19 undef=.bool false:=q0;go_simp;exact hK _ _ (Wr.refl _ _ _) (hW) rfl
      refine ⟨fun S w h0 hd hc hW=>⟨hW,rfl⟩,?_⟩;refine ⟨fun S w h0 hd hc hW=>⟨hW,rfl⟩,?_⟩;refine ⟨fun S w h0 hd hc hW=>⟨hW,rfl⟩,?_⟩;refine ⟨fun S w h0 hd hc hW=>⟨hW,rfl⟩,?_⟩;refine ⟨fun S w h0 hd hc hW=>⟨hW,rfl⟩,?_⟩;refine ⟨fun S ac wc h0 hd hc hW hk K hK=>?_,?_⟩
      · obtain ⟨q0,q1,-⟩:=hk;have q0:ac.tmps.getD 20 undef=.bool false:=q0;have q1:ac.tmps.getD 25 undef=undef:=q1;go_simp;exact hK _ _ (Wr.refl _ _ _) (hW) rfl
      refine ⟨fun S ac wc h0 hd hc hW hk K hK=>?_,?_⟩
      · obtain ⟨q0,-⟩:=hk;have q0:ac.tmps.getD 26 undef=.bool false:=q0;go_simp;exact hK _ _ (Wr.refl _ _ _) (hW) rfl
      refine ⟨fun S w h0 hd hc hW=>⟨hW,rfl⟩,?_⟩;refine ⟨fun S w h0 hd hc hW=>⟨hW,rfl⟩,?_⟩;refine ⟨fun S w h0 hd hc hW=>⟨hW,rfl⟩,?_⟩;refine ⟨fun S ac wc h0 hd hc hW hk K hK=>?_,?_⟩
      · obtain ⟨q0,q1,-⟩:=hk;have q0:ac.tmps.getD 27 undef=.bool false:=q0;have q1:ac.tmps.getD 30 undef=undef:=q1;go_simp;exact hK _ _ (Wr.refl _ _ _) (hW) rfl
      refine ⟨fun S ac wc h0 hd hc hW hk K hK=>?_,?_⟩
      · obtain ⟨q0,-⟩:=hk;have q0:ac.tmps.getD 31 undef=.bool false:=q0;go_simp;exact hK _ _ (Wr.refl _ _ _) (hW) rfl
      trivial
  rintro vs wx ⟨hv0,hb⟩;simp only [puts,Act.put,List.setIfInBounds_toArray,List.set_cons_zero,List.set_cons_succ,hv0];have Z:Hid (Parts B b t4 w (.returned (.bool false)) wx):=Parts.no (fun hh=>G2.out (Nat.le_trans M2.out hh)) (W1.out.trans hb);clear hb;go_wp2
  go_ret;exact Z.out
theorem block_no2 {B b : Nat} {w w1 : World} {kr e0 e1 e2 e5 : Int} {np cp nc cc e3 ce3 e4 ce4 e6 ce6 e7 ce7 e8 ce8 : Nat} {pp pc pe3 pe4 pe6 pe7 pe8 : Option Addr} {zn zp ze t0 t1 t2 t3 t4 : List UInt8} (H : BlockH B b w w1 kr e0 e1 e2 e5 np cp nc cc e3 ce3 e4 ce4 e6 ce6 e7 ce7 e8 ce8 pp pc pe3 pe4 pe6 pe7 pe8 zn zp ze t0 t1 t2 t3 t4) (G1 : Hid (t1.length ≤ 40000)) (G2 : Hid (t2.length ≤ 40000)) (G3 : Hid (¬ t3.length ≤ 40000)) :
    Calls Tryz.prog 122 #[.pointer (some ⟨b,0,none⟩),.agg #[.int .i64 kr,.slice pp np cp,.slice pc nc cc,.int .i64 e0,.int .i64 e1,.int .i64 e2,.slice pe3 e3 ce3,.slice pe4 e4 ce4,.int .i64 e5,.slice pe6 e6 ce6,.slice pe7 e7 ce7,.slice pe8 e8 ce8]] w (Parts B b t4 w):=by
  obtain ⟨E1,I1,W1,HB,HL,X1,X2,m1,m2,CN,CP,CX,CL1,CE0,CS0,CL20,M1,M2,M3⟩:=H;have CE:=CE0 G1.out;have CS:=CS0 G2.out;clear CE0 CS0 CL20;go_enter Tryz.func122,Tryz.ntmps122
  go_wp2_with fail
  rw [E1.out];have ST0:stW w1 B b (fun S=>(bif S 8 then (bif S 13 then (bif S 20 then some t3 else some t2) else some t1) else some t0)) (fun _=>false) w1.drew:=⟨⟨(Below.refl _ _).drew,(Lib.OthersKept.refl _ _ _).drew⟩,fun u hu=>by replace hu:some t0=some u:=hu;cases hu;exact I1.out⟩;refine wp_puts [5,6,7,8,9,10,11,12,13,14,15,16,17,18,19,20,21,22,23,24,25,26,27,28,29,30,31,4] (fun vs w'=>vs 4=.bool false∧Wr B b w1 w') ?_ ?_
  · refine wp_region_stage (PTab.E ([(2,fun v _=>v=.pointer (some ⟨w.heap.size,0,none⟩)),(3,fun v _=>v=.pointer (some ⟨w.heap.size+1,0,none⟩)),(5,fun v _=>v=.pointer (some ⟨b,0,none⟩)),(6,fun v _=>v=.pointer (some ⟨w.heap.size+1,0,none⟩)),(7,fun v _=>v=.int .i64 kr),(8,fun v _=>v=.string (str zn)),(9,fun v _=>v=.pointer (some ⟨w.heap.size+1,1,none⟩)),(10,fun v _=>v=.slice pp np cp),(11,fun v _=>v=.string (str zp)),(13,fun v _=>v=.bool true),(14,fun v _=>v=.bool true),(15,fun v _=>v=.pointer (some ⟨w.heap.size+1,2,none⟩)),(16,fun v _=>v=.slice pc nc cc),(17,fun v _=>v=.func (.func 155) #[] #[.pointer (some ⟨w.heap.size,0,none⟩)]),(18,fun v _=>v=.bool true),(19,fun v _=>v=.bool true),(20,fun v _=>v=.bool true),(21,fun v _=>v=.pointer (some ⟨b,0,none⟩)),(22,fun v _=>v=.pointer (some ⟨w.heap.size+1,3,none⟩)),(23,fun v _=>v=.agg #[.int .i64 e0,.int .i64 e1,.int .i64 e2,.slice pe3 e3 ce3,.slice pe4 e4 ce4,.int .i64 e5,.slice pe6 e6 ce6,.slice pe7 e7 ce7,.slice pe8 e8 ce8]),(24,fun v _=>v=.string (str ze)),(25,fun v _=>v=.bool false),(26,fun v _=>v=.bool false),(27,fun v _=>v=.bool false),(28,fun v _=>v=undef),(29,fun v _=>v=undef),(30,fun v _=>v=undef),(31,fun v _=>v=.bool false),(4,fun v _=>v=.bool false),(12,fun v w=>SRw b 4 #[.string ⟨#[98,108,111,99,107]⟩,.string (str zn),.string (str zp),.string ⟨#[123]⟩] v w)]:PTab)) (stW w1 B b (fun S=>(bif S 8 then (bif S 13 then (bif S 20 then some t3 else some t2) else some t1) else some t0))) (Wr B b) (outs:=[2,3]) (gs:=[(9,some true),(15,some true),(22,some false)]) (bs:=[true,true,true,true,true,true,true,true,true,true,true,true,true,true,true,true,true,true,true,true,true,true,true,false,false,false,true,true]) (by kernel_rfl) (n:=32) rfl (Nat.le_refl _) (by kernel_rfl) (PTab_stable _ ⟨fun _ _ _ _ h=>h,fun _ _ _ _ h=>h,fun _ _ _ _ h=>h,fun _ _ _ _ h=>h,fun _ _ _ _ h=>h,fun _ _ _ _ h=>h,fun _ _ _ _ h=>h,fun _ _ _ _ h=>h,fun _ _ _ _ h=>h,fun _ _ _ _ h=>h,fun _ _ _ _ h=>h,fun _ _ _ _ h=>h,fun _ _ _ _ h=>h,fun _ _ _ _ h=>h,fun _ _ _ _ h=>h,fun _ _ _ _ h=>h,fun _ _ _ _ h=>h,fun _ _ _ _ h=>h,fun _ _ _ _ h=>h,fun _ _ _ _ h=>h,fun _ _ _ _ h=>h,fun _ _ _ _ h=>h,fun _ _ _ _ h=>h,fun _ _ _ _ h=>h,fun _ _ _ _ h=>h,fun _ _ _ _ h=>h,fun _ _ _ _ h=>h,fun _ _ _ _ h=>h,fun _ _ _ _ h=>h,fun v w w' hr h=>h.on hr,trivial⟩) ?hG (ST0) ⟨rfl,rfl,trivial⟩ ?hA ?hend
    case hG=>exact ⟨fun t ht v w h=>by cases ht;exact h,fun t ht v w h=>by cases ht;exact h,fun t ht v w h=>by cases ht;exact h,trivial⟩
    case hend=>exact fun vs S w' hS hW hk=>⟨rfl,vs,rfl,hk 4 (by kernel_rfl),hW.1⟩
    case hA =>
      refine ⟨fun S ac wc h0 hd hc hW hk K hK=>?_,?_⟩
      · obtain ⟨q0,-⟩:=hk;have q0:ac.tmps.getD 2 undef=.pointer (some ⟨w.heap.size,0,none⟩):=q0;have c0:=cellOf (hW.1.blk X1 m1 (by decide)) 0 _ rfl;go_simp;exact hK _ _ (Wr.refl _ _ _) (hW) rfl
      refine ⟨fun S ac wc h0 hd hc hW hk K hK=>?_,?_⟩
      · obtain ⟨q0,-⟩:=hk;have q0:ac.tmps.getD 3 undef=.pointer (some ⟨w.heap.size+1,0,none⟩):=q0;go_simp;exact hK _ _ (Wr.refl _ _ _) (hW) rfl
      refine ⟨fun S ac wc h0 hd hc hW hk K hK=>?_,?_⟩
      · obtain ⟨q0,-⟩:=hk;have q0:ac.tmps.getD 6 undef=.pointer (some ⟨w.heap.size+1,0,none⟩):=q0;have c0:=cellOf (hW.1.blk X2 m2 (by decide)) 0 _ rfl;go_simp;exact hK _ _ (Wr.refl _ _ _) (hW) rfl
      refine ⟨fun S ac wc h0 hd hc hW hk K hK=>?_,?_⟩
      · obtain ⟨q0,-⟩:=hk;have q0:ac.tmps.getD 7 undef=.int .i64 kr:=q0;go_simp;refine (CN.out wc hW.1).mono ?_;rintro r7 w7 ⟨rfl,b7⟩;go_simp;exact hK _ _ (Wr.of (hW.le HB.out) b7) (hW.rd HB.out b7) rfl
      refine ⟨fun S ac wc h0 hd hc hW hk K hK=>?_,?_⟩
      · obtain ⟨q0,-⟩:=hk;have q0:ac.tmps.getD 3 undef=.pointer (some ⟨w.heap.size+1,0,none⟩):=q0;go_simp;exact hK _ _ (Wr.refl _ _ _) (hW) rfl
      refine ⟨fun S ac wc h0 hd hc hW hk K hK=>?_,?_⟩
      · obtain ⟨q0,-⟩:=hk;have q0:ac.tmps.getD 9 undef=.pointer (some ⟨w.heap.size+1,1,none⟩):=q0;have c0:=cellOf (hW.1.blk X2 m2 (by decide)) 1 _ rfl;go_simp;exact hK _ _ (Wr.refl _ _ _) (hW) rfl
      refine ⟨fun S ac wc h0 hd hc hW hk K hK=>?_,?_⟩
      · obtain ⟨q0,-⟩:=hk;have q0:ac.tmps.getD 10 undef=.slice pp np cp:=q0;go_simp;refine (CP.out wc hW.1).mono ?_;rintro r7 w7 ⟨rfl,b7⟩;go_simp;exact hK _ _ (Wr.of (hW.le HB.out) b7) (hW.rd HB.out b7) rfl
      refine ⟨fun S ac wc h0 hd hc hW hk K hK=>?_,?_⟩
      · obtain ⟨q0,q1,-⟩:=hk;have q0:ac.tmps.getD 8 undef=.string (str zn):=q0;have q1:ac.tmps.getD 11 undef=.string (str zp):=q1;simp only [Array.getD_eq_getD_getElem?] at q0 q1;go_simp;exact hK _ _ (Wr.of (hW.le HB.out) (bel1 _ _)) (hW.rd HB.out (bel1 _ _)) (SRw.new (B:=0) (bs:=[]) _ (hW.1.lt HL.out))
      refine ⟨fun S ac wc h0 hd hc hW hk K hK=>?_,?_⟩
      · obtain ⟨q0,q1,-⟩:=hk;have q0:ac.tmps.getD 5 undef=.pointer (some ⟨b,0,none⟩):=q0;have q1:(fun v w=>SRw b 4 #[.string ⟨#[98,108,111,99,107]⟩,.string (str zn),.string (str zp),.string ⟨#[123]⟩] v w) (ac.tmps.getD 12 undef) wc:=q1;generalize q1e:ac.tmps.getD 12 undef=uq1 at q1;obtain ⟨h,rfl,hne,hb⟩:=q1;have n8:S 8=false:=h0;have n9:S 9=false:=hc.no 9 8 rfl (by kernel_rfl) n8;have n13:S 13=false:=hc.no 13 9 rfl (by kernel_rfl) n9;have hI:IsS B b t0 wc:=hW.2 t0 (by show (bif S 8 then _ else _)=_;simp only [n8,cond_true,cond_false]);go_simp;refine (CL1.out h wc hI (hW.le HB.out) hb).mono ?_;rintro r7 w7 ⟨rfl,h7,b7⟩;rw [decide_eq_true G1.out];go_simp;exact hK _ _ b7 ⟨hW.1.trans b7,fun u hu=>by replace hu:(bif plus 8 S 8 then _ else _)=some u:=hu;simp only [plus,beq_self_eq_true,Bool.true_or,Bool.or_false,Bool.false_or,Nat.reduceBEq,Nat.reduceAdd,n13,cond_true,cond_false,Option.some.injEq] at hu;rw [← hu];exact h7⟩ rfl
      refine ⟨fun S ac wc h0 hd hc hW hk K hK=>?_,?_⟩
      · obtain ⟨q0,-⟩:=hk;have q0:ac.tmps.getD 13 undef=.bool true:=q0;go_simp;exact hK _ _ (Wr.refl _ _ _) (hW) rfl
      refine ⟨fun S ac wc h0 hd hc hW hk K hK=>?_,?_⟩
      · obtain ⟨q0,-⟩:=hk;have q0:ac.tmps.getD 3 undef=.pointer (some ⟨w.heap.size+1,0,none⟩):=q0;go_simp;exact hK _ _ (Wr.refl _ _ _) (hW) rfl
      refine ⟨fun S ac wc h0 hd hc hW hk K hK=>?_,?_⟩
      · obtain ⟨q0,-⟩:=hk;have q0:ac.tmps.getD 15 undef=.pointer (some ⟨w.heap.size+1,2,none⟩):=q0;have c0:=cellOf (hW.1.blk X2 m2 (by decide)) 2 _ rfl;go_simp;exact hK _ _ (Wr.refl _ _ _) (hW) rfl
      refine ⟨fun S ac wc h0 hd hc hW hk K hK=>?_,?_⟩
      · obtain ⟨q0,-⟩:=hk;have q0:ac.tmps.getD 2 undef=.pointer (some ⟨w.heap.size,0,none⟩):=q0;go_simp;exact hK _ _ (Wr.refl _ _ _) (hW) rfl
      refine ⟨fun S ac wc h0 hd hc hW hk K hK=>?_,?_⟩
      · obtain ⟨q0,q1,-⟩:=hk;have q0:ac.tmps.getD 16 undef=.slice pc nc cc:=q0;have q1:ac.tmps.getD 17 undef=.func (.func 155) #[] #[.pointer (some ⟨w.heap.size,0,none⟩)]:=q1;have s9:S 9=true:=hd.at 9 (by kernel_rfl);have s8:S 8=true:=hc.yes 9 8 rfl (by kernel_rfl) s9;have n13:S 13=false:=h0;have n15:S 15=false:=hc.no 15 13 rfl (by kernel_rfl) n13;have n20:S 20=false:=hc.no 20 15 rfl (by kernel_rfl) n15;have hI:IsS B b t1 wc:=hW.2 t1 (by show (bif S 8 then _ else _)=_;simp only [s8,n13,cond_true,cond_false]);go_simp;refine (CE.out wc hW.1 hI).mono ?_;rintro r7 w7 (⟨rfl,h8,b8⟩ | ⟨rfl,h8,b8⟩)
        · have b7:=h8.1.wr;have h7:=h8.1.is;go_simp;exact hK _ _ b7 ⟨hW.1.trans b7,fun u hu=>by replace hu:(bif plus 13 S 8 then _ else _)=some u:=hu;simp only [plus,beq_self_eq_true,Bool.true_or,Bool.or_false,Bool.false_or,Nat.reduceBEq,Nat.reduceAdd,s8,n20,cond_true,cond_false,Option.some.injEq] at hu;rw [← hu];exact h7⟩ rfl
        · exact absurd G2.out h8.2
      refine ⟨fun S ac wc h0 hd hc hW hk K hK=>?_,?_⟩
      · obtain ⟨q0,q1,-⟩:=hk;have q0:ac.tmps.getD 14 undef=.bool true:=q0;have q1:ac.tmps.getD 18 undef=.bool true:=q1;go_simp;exact hK _ _ (Wr.refl _ _ _) (hW) rfl
      refine ⟨fun S ac wc h0 hd hc hW hk K hK=>?_,?_⟩
      · obtain ⟨q0,-⟩:=hk;have q0:ac.tmps.getD 19 undef=.bool true:=q0;go_simp;exact hK _ _ (Wr.refl _ _ _) (hW) rfl
      refine ⟨fun S ac wc h0 hd hc hW hk K hK=>?_,?_⟩
      · obtain ⟨q0,-⟩:=hk;have q0:ac.tmps.getD 2 undef=.pointer (some ⟨w.heap.size,0,none⟩):=q0;have c0:=cellOf (hW.1.blk X1 m1 (by decide)) 0 _ rfl;go_simp;exact hK _ _ (Wr.refl _ _ _) (hW) rfl
      refine ⟨fun S ac wc h0 hd hc hW hk K hK=>?_,?_⟩
      · obtain ⟨q0,-⟩:=hk;have q0:ac.tmps.getD 3 undef=.pointer (some ⟨w.heap.size+1,0,none⟩):=q0;go_simp;exact hK _ _ (Wr.refl _ _ _) (hW) rfl
      refine ⟨fun S ac wc h0 hd hc hW hk K hK=>?_,?_⟩
      · obtain ⟨q0,-⟩:=hk;have q0:ac.tmps.getD 22 undef=.pointer (some ⟨w.heap.size+1,3,none⟩):=q0;have c0:=cellOf (hW.1.blk X2 m2 (by decide)) 3 _ rfl;have c1:=cellOf (hW.1.blk X2 m2 (by decide)) 4 _ rfl;have c2:=cellOf (hW.1.blk X2 m2 (by decide)) 5 _ rfl;have c3:=cellOf (hW.1.blk X2 m2 (by decide)) 6 _ rfl;have c4:=cellOf (hW.1.blk X2 m2 (by decide)) 7 _ rfl;have c5:=cellOf (hW.1.blk X2 m2 (by decide)) 8 _ rfl;have c6:=cellOf (hW.1.blk X2 m2 (by decide)) 9 _ rfl;have c7:=cellOf (hW.1.blk X2 m2 (by decide)) 10 _ rfl;have c8:=cellOf (hW.1.blk X2 m2 (by decide)) 11 _ rfl;go_simp;exact hK _ _ (Wr.refl _ _ _) (hW) rfl
      refine ⟨fun S ac wc h0 hd hc hW hk K hK=>?_,?_⟩
      · obtain ⟨q0,-⟩:=hk;have q0:ac.tmps.getD 23 undef=.agg #[.int .i64 e0,.int .i64 e1,.int .i64 e2,.slice pe3 e3 ce3,.slice pe4 e4 ce4,.int .i64 e5,.slice pe6 e6 ce6,.slice pe7 e7 ce7,.slice pe8 e8 ce8]:=q0;go_simp;refine (CX.out wc hW.1).mono ?_;rintro r7 w7 ⟨rfl,b7⟩;go_simp;exact hK _ _ (Wr.of (hW.le HB.out) b7) (hW.rd HB.out b7) rfl
      refine ⟨fun S ac wc h0 hd hc hW hk K hK=>?_,?_⟩
      · obtain ⟨q0,q1,-⟩:=hk;have q0:ac.tmps.getD 21 undef=.pointer (some ⟨b,0,none⟩):=q0;have q1:ac.tmps.getD 24 undef=.string (str ze):=q1;have s15:S 15=true:=hd.at 15 (by kernel_rfl);have s13:S 13=true:=hc.yes 15 13 rfl (by kernel_rfl) s15;have s9:S 9=true:=hc.yes 13 9 rfl (by kernel_rfl) s13;have s8:S 8=true:=hc.yes 9 8 rfl (by kernel_rfl) s9;have n20:S 20=false:=h0;have hI:IsS B b t2 wc:=hW.2 t2 (by show (bif S 8 then _ else _)=_;simp only [s8,s13,n20,cond_true,cond_false]);go_simp;refine (CS.out wc hI (hW.le HB.out)).mono ?_;rintro r7 w7 ⟨rfl,h7,b7⟩;rw [decide_eq_false G3.out];go_simp;exact hK _ _ b7 ⟨hW.1.trans b7,fun u hu=>by replace hu:(bif plus 20 S 8 then _ else _)=some u:=hu;simp only [plus,beq_self_eq_true,Bool.true_or,Bool.or_false,Bool.false_or,Nat.reduceBEq,Nat.reduceAdd,s8,s13,cond_true,cond_false,Option.some.injEq] at hu;rw [← hu];exact h7⟩ rfl
      refine ⟨fun S ac wc h0 hd hc hW hk K hK=>?_,?_⟩
      · obtain ⟨q0,q1,-⟩:=hk;have q0:ac.tmps.getD 20 undef=.bool true:=q0;have q1:ac.tmps.getD 25 undef=.bool false:=q1;go_simp;exact hK _ _ (Wr.refl _ _ _) (hW) rfl
      refine ⟨fun S ac wc h0 hd hc hW hk K hK=>?_,?_⟩
      · obtain ⟨q0,-⟩:=hk;have q0:ac.tmps.getD 26 undef=.bool false:=q0;go_simp;exact hK _ _ (Wr.refl _ _ _) (hW) rfl
      refine ⟨fun S w h0 hd hc hW=>⟨hW,rfl⟩,?_⟩;refine ⟨fun S w h0 hd hc hW=>⟨hW,rfl⟩,?_⟩;refine ⟨fun S w h0 hd hc hW=>⟨hW,rfl⟩,?_⟩;refine ⟨fun S ac wc h0 hd hc hW hk K hK=>?_,?_⟩
      · obtain ⟨q0,q1,-⟩:=hk;have q0:ac.tmps.getD 27 undef=.bool false:=q0;have q1:ac.tmps.getD 30 undef=undef:=q1;go_simp;exact hK _ _ (Wr.refl _ _ _) (hW) rfl
      refine ⟨fun S ac wc h0 hd hc hW hk K hK=>?_,?_⟩
      · obtain ⟨q0,-⟩:=hk;have q0:ac.tmps.getD 31 undef=.bool false:=q0;go_simp;exact hK _ _ (Wr.refl _ _ _) (hW) rfl
      trivial
  rintro vs wx ⟨hv0,hb⟩;simp only [puts,Act.put,List.setIfInBounds_toArray,List.set_cons_zero,List.set_cons_succ,hv0];have Z:Hid (Parts B b t4 w (.returned (.bool false)) wx):=Parts.no (fun hh=>G3.out (Nat.le_trans M3.out hh)) (W1.out.trans hb);clear hb;go_wp2
  go_ret;exact Z.out
theorem block_yes {B b : Nat} {w w1 : World} {kr e0 e1 e2 e5 : Int} {np cp nc cc e3 ce3 e4 ce4 e6 ce6 e7 ce7 e8 ce8 : Nat} {pp pc pe3 pe4 pe6 pe7 pe8 : Option Addr} {zn zp ze t0 t1 t2 t3 t4 : List UInt8} (H : BlockH B b w w1 kr e0 e1 e2 e5 np cp nc cc e3 ce3 e4 ce4 e6 ce6 e7 ce7 e8 ce8 pp pc pe3 pe4 pe6 pe7 pe8 zn zp ze t0 t1 t2 t3 t4) (G1 : Hid (t1.length ≤ 40000)) (G2 : Hid (t2.length ≤ 40000)) (G3 : Hid (t3.length ≤ 40000)) :
    Calls Tryz.prog 122 #[.pointer (some ⟨b,0,none⟩),.agg #[.int .i64 kr,.slice pp np cp,.slice pc nc cc,.int .i64 e0,.int .i64 e1,.int .i64 e2,.slice pe3 e3 ce3,.slice pe4 e4 ce4,.int .i64 e5,.slice pe6 e6 ce6,.slice pe7 e7 ce7,.slice pe8 e8 ce8]] w (Parts B b t4 w):=by
  obtain ⟨E1,I1,W1,HB,HL,X1,X2,m1,m2,CN,CP,CX,CL1,CE0,CS0,CL20,M1,M2,M3⟩:=H;have CE:=CE0 G1.out;have CS:=CS0 G2.out;have CL2:=CL20 G3.out;clear CE0 CS0 CL20;go_enter Tryz.func122,Tryz.ntmps122
  go_wp2_with fail
  rw [E1.out];have ST0:stW w1 B b (fun S=>(bif S 8 then (bif S 13 then (bif S 20 then (bif S 25 then some t4 else some t3) else some t2) else some t1) else some t0)) (fun _=>false) w1.drew:=⟨⟨(Below.refl _ _).drew,(Lib.OthersKept.refl _ _ _).drew⟩,fun u hu=>by replace hu:some t0=some u:=hu;cases hu;exact I1.out⟩;refine wp_puts [5,6,7,8,9,10,11,12,13,14,15,16,17,18,19,20,21,22,23,24,25,26,27,28,29,30,31,4] (fun vs w'=>vs 4=.bool (decide (t4.length≤40000))∧(Wr B b w1 w'∧IsS B b t4 w')) ?_ ?_
  · refine wp_region_stage (PTab.E ([(2,fun v _=>v=.pointer (some ⟨w.heap.size,0,none⟩)),(3,fun v _=>v=.pointer (some ⟨w.heap.size+1,0,none⟩)),(5,fun v _=>v=.pointer (some ⟨b,0,none⟩)),(6,fun v _=>v=.pointer (some ⟨w.heap.size+1,0,none⟩)),(7,fun v _=>v=.int .i64 kr),(8,fun v _=>v=.string (str zn)),(9,fun v _=>v=.pointer (some ⟨w.heap.size+1,1,none⟩)),(10,fun v _=>v=.slice pp np cp),(11,fun v _=>v=.string (str zp)),(13,fun v _=>v=.bool true),(14,fun v _=>v=.bool true),(15,fun v _=>v=.pointer (some ⟨w.heap.size+1,2,none⟩)),(16,fun v _=>v=.slice pc nc cc),(17,fun v _=>v=.func (.func 155) #[] #[.pointer (some ⟨w.heap.size,0,none⟩)]),(18,fun v _=>v=.bool true),(19,fun v _=>v=.bool true),(20,fun v _=>v=.bool true),(21,fun v _=>v=.pointer (some ⟨b,0,none⟩)),(22,fun v _=>v=.pointer (some ⟨w.heap.size+1,3,none⟩)),(23,fun v _=>v=.agg #[.int .i64 e0,.int .i64 e1,.int .i64 e2,.slice pe3 e3 ce3,.slice pe4 e4 ce4,.int .i64 e5,.slice pe6 e6 ce6,.slice pe7 e7 ce7,.slice pe8 e8 ce8]),(24,fun v _=>v=.string (str ze)),(25,fun v _=>v=.bool true),(26,fun v _=>v=.bool true),(27,fun v _=>v=.bool true),(28,fun v _=>v=.pointer (some ⟨b,0,none⟩)),(30,fun v _=>v=.bool (decide (t4.length≤40000))),(31,fun v _=>v=.bool (decide (t4.length≤40000))),(4,fun v _=>v=.bool (decide (t4.length≤40000))),(12,fun v w=>SRw b 4 #[.string ⟨#[98,108,111,99,107]⟩,.string (str zn),.string (str zp),.string ⟨#[123]⟩] v w),(29,fun v w=>SRw b 1 #[.string ⟨#[125]⟩] v w)]:PTab)) (stW w1 B b (fun S=>(bif S 8 then (bif S 13 then (bif S 20 then (bif S 25 then some t4 else some t3) else some t2) else some t1) else some t0))) (Wr B b) (outs:=[2,3]) (gs:=[(9,some true),(15,some true),(22,some true)]) (bs:=[true,true,true,true,true,true,true,true,true,true,true,true,true,true,true,true,true,true,true,true,true,true,true,true,true,true,true,true]) (by kernel_rfl) (n:=32) rfl (Nat.le_refl _) (by kernel_rfl) (PTab_stable _ ⟨fun _ _ _ _ h=>h,fun _ _ _ _ h=>h,fun _ _ _ _ h=>h,fun _ _ _ _ h=>h,fun _ _ _ _ h=>h,fun _ _ _ _ h=>h,fun _ _ _ _ h=>h,fun _ _ _ _ h=>h,fun _ _ _ _ h=>h,fun _ _ _ _ h=>h,fun _ _ _ _ h=>h,fun _ _ _ _ h=>h,fun _ _ _ _ h=>h,fun _ _ _ _ h=>h,fun _ _ _ _ h=>h,fun _ _ _ _ h=>h,fun _ _ _ _ h=>h,fun _ _ _ _ h=>h,fun _ _ _ _ h=>h,fun _ _ _ _ h=>h,fun _ _ _ _ h=>h,fun _ _ _ _ h=>h,fun _ _ _ _ h=>h,fun _ _ _ _ h=>h,fun _ _ _ _ h=>h,fun _ _ _ _ h=>h,fun _ _ _ _ h=>h,fun _ _ _ _ h=>h,fun v w w' hr h=>h.on hr,fun v w w' hr h=>h.on hr,trivial⟩) ?hG (ST0) ⟨rfl,rfl,trivial⟩ ?hA ?hend
    case hG=>exact ⟨fun t ht v w h=>by cases ht;exact h,fun t ht v w h=>by cases ht;exact h,fun t ht v w h=>by cases ht;exact h,trivial⟩
    case hend=>exact fun vs S w' hS hW hk=>⟨rfl,vs,rfl,hk 4 (by kernel_rfl),⟨hW.1,hW.2 t4 (by show (bif S 8 then _ else _)=_;simp only [hS 8 (by decide),hS 13 (by decide),hS 20 (by decide),hS 25 (by decide),cond_true])⟩⟩
    case hA =>
      refine ⟨fun S ac wc h0 hd hc hW hk K hK=>?_,?_⟩
      · obtain ⟨q0,-⟩:=hk;have q0:ac.tmps.getD 2 undef=.pointer (some ⟨w.heap.size,0,none⟩):=q0;have c0:=cellOf (hW.1.blk X1 m1 (by decide)) 0 _ rfl;go_simp;exact hK _ _ (Wr.refl _ _ _) (hW) rfl
      refine ⟨fun S ac wc h0 hd hc hW hk K hK=>?_,?_⟩
      · obtain ⟨q0,-⟩:=hk;have q0:ac.tmps.getD 3 undef=.pointer (some ⟨w.heap.size+1,0,none⟩):=q0;go_simp;exact hK _ _ (Wr.refl _ _ _) (hW) rfl
      refine ⟨fun S ac wc h0 hd hc hW hk K hK=>?_,?_⟩
      · obtain ⟨q0,-⟩:=hk;have q0:ac.tmps.getD 6 undef=.pointer (some ⟨w.heap.size+1,0,none⟩):=q0;have c0:=cellOf (hW.1.blk X2 m2 (by decide)) 0 _ rfl;go_simp;exact hK _ _ (Wr.refl _ _ _) (hW) rfl
      refine ⟨fun S ac wc h0 hd hc hW hk K hK=>?_,?_⟩
      · obtain ⟨q0,-⟩:=hk;have q0:ac.tmps.getD 7 undef=.int .i64 kr:=q0;go_simp;refine (CN.out wc hW.1).mono ?_;rintro r7 w7 ⟨rfl,b7⟩;go_simp;exact hK _ _ (Wr.of (hW.le HB.out) b7) (hW.rd HB.out b7) rfl
      refine ⟨fun S ac wc h0 hd hc hW hk K hK=>?_,?_⟩
      · obtain ⟨q0,-⟩:=hk;have q0:ac.tmps.getD 3 undef=.pointer (some ⟨w.heap.size+1,0,none⟩):=q0;go_simp;exact hK _ _ (Wr.refl _ _ _) (hW) rfl
      refine ⟨fun S ac wc h0 hd hc hW hk K hK=>?_,?_⟩
      · obtain ⟨q0,-⟩:=hk;have q0:ac.tmps.getD 9 undef=.pointer (some ⟨w.heap.size+1,1,none⟩):=q0;have c0:=cellOf (hW.1.blk X2 m2 (by decide)) 1 _ rfl;go_simp;exact hK _ _ (Wr.refl _ _ _) (hW) rfl
      refine ⟨fun S ac wc h0 hd hc hW hk K hK=>?_,?_⟩
      · obtain ⟨q0,-⟩:=hk;have q0:ac.tmps.getD 10 undef=.slice pp np cp:=q0;go_simp;refine (CP.out wc hW.1).mono ?_;rintro r7 w7 ⟨rfl,b7⟩;go_simp;exact hK _ _ (Wr.of (hW.le HB.out) b7) (hW.rd HB.out b7) rfl
      refine ⟨fun S ac wc h0 hd hc hW hk K hK=>?_,?_⟩
      · obtain ⟨q0,q1,-⟩:=hk;have q0:ac.tmps.getD 8 undef=.string (str zn):=q0;have q1:ac.tmps.getD 11 undef=.string (str zp):=q1;simp only [Array.getD_eq_getD_getElem?] at q0 q1;go_simp;exact hK _ _ (Wr.of (hW.le HB.out) (bel1 _ _)) (hW.rd HB.out (bel1 _ _)) (SRw.new (B:=0) (bs:=[]) _ (hW.1.lt HL.out))
      refine ⟨fun S ac wc h0 hd hc hW hk K hK=>?_,?_⟩
      · obtain ⟨q0,q1,-⟩:=hk;have q0:ac.tmps.getD 5 undef=.pointer (some ⟨b,0,none⟩):=q0;have q1:(fun v w=>SRw b 4 #[.string ⟨#[98,108,111,99,107]⟩,.string (str zn),.string (str zp),.string ⟨#[123]⟩] v w) (ac.tmps.getD 12 undef) wc:=q1;generalize q1e:ac.tmps.getD 12 undef=uq1 at q1;obtain ⟨h,rfl,hne,hb⟩:=q1;have n8:S 8=false:=h0;have n9:S 9=false:=hc.no 9 8 rfl (by kernel_rfl) n8;have n13:S 13=false:=hc.no 13 9 rfl (by kernel_rfl) n9;have hI:IsS B b t0 wc:=hW.2 t0 (by show (bif S 8 then _ else _)=_;simp only [n8,cond_true,cond_false]);go_simp;refine (CL1.out h wc hI (hW.le HB.out) hb).mono ?_;rintro r7 w7 ⟨rfl,h7,b7⟩;rw [decide_eq_true G1.out];go_simp;exact hK _ _ b7 ⟨hW.1.trans b7,fun u hu=>by replace hu:(bif plus 8 S 8 then _ else _)=some u:=hu;simp only [plus,beq_self_eq_true,Bool.true_or,Bool.or_false,Bool.false_or,Nat.reduceBEq,Nat.reduceAdd,n13,cond_true,cond_false,Option.some.injEq] at hu;rw [← hu];exact h7⟩ rfl
      refine ⟨fun S ac wc h0 hd hc hW hk K hK=>?_,?_⟩
      · obtain ⟨q0,-⟩:=hk;have q0:ac.tmps.getD 13 undef=.bool true:=q0;go_simp;exact hK _ _ (Wr.refl _ _ _) (hW) rfl
      refine ⟨fun S ac wc h0 hd hc hW hk K hK=>?_,?_⟩
      · obtain ⟨q0,-⟩:=hk;have q0:ac.tmps.getD 3 undef=.pointer (some ⟨w.heap.size+1,0,none⟩):=q0;go_simp;exact hK _ _ (Wr.refl _ _ _) (hW) rfl
      refine ⟨fun S ac wc h0 hd hc hW hk K hK=>?_,?_⟩
      · obtain ⟨q0,-⟩:=hk;have q0:ac.tmps.getD 15 undef=.pointer (some ⟨w.heap.size+1,2,none⟩):=q0;have c0:=cellOf (hW.1.blk X2 m2 (by decide)) 2 _ rfl;go_simp;exact hK _ _ (Wr.refl _ _ _) (hW) rfl
      refine ⟨fun S ac wc h0 hd hc hW hk K hK=>?_,?_⟩
      · obtain ⟨q0,-⟩:=hk;have q0:ac.tmps.getD 2 undef=.pointer (some ⟨w.heap.size,0,none⟩):=q0;go_simp;exact hK _ _ (Wr.refl _ _ _) (hW) rfl
      refine ⟨fun S ac wc h0 hd hc hW hk K hK=>?_,?_⟩
      · obtain ⟨q0,q1,-⟩:=hk;have q0:ac.tmps.getD 16 undef=.slice pc nc cc:=q0;have q1:ac.tmps.getD 17 undef=.func (.func 155) #[] #[.pointer (some ⟨w.heap.size,0,none⟩)]:=q1;have s9:S 9=true:=hd.at 9 (by kernel_rfl);have s8:S 8=true:=hc.yes 9 8 rfl (by kernel_rfl) s9;have n13:S 13=false:=h0;have n15:S 15=false:=hc.no 15 13 rfl (by kernel_rfl) n13;have n20:S 20=false:=hc.no 20 15 rfl (by kernel_rfl) n15;have hI:IsS B b t1 wc:=hW.2 t1 (by show (bif S 8 then _ else _)=_;simp only [s8,n13,cond_true,cond_false]);go_simp;refine (CE.out wc hW.1 hI).mono ?_;rintro r7 w7 (⟨rfl,h8,b8⟩ | ⟨rfl,h8,b8⟩)
        · have b7:=h8.1.wr;have h7:=h8.1.is;go_simp;exact hK _ _ b7 ⟨hW.1.trans b7,fun u hu=>by replace hu:(bif plus 13 S 8 then _ else _)=some u:=hu;simp only [plus,beq_self_eq_true,Bool.true_or,Bool.or_false,Bool.false_or,Nat.reduceBEq,Nat.reduceAdd,s8,n20,cond_true,cond_false,Option.some.injEq] at hu;rw [← hu];exact h7⟩ rfl
        · exact absurd G2.out h8.2
      refine ⟨fun S ac wc h0 hd hc hW hk K hK=>?_,?_⟩
      · obtain ⟨q0,q1,-⟩:=hk;have q0:ac.tmps.getD 14 undef=.bool true:=q0;have q1:ac.tmps.getD 18 undef=.bool true:=q1;go_simp;exact hK _ _ (Wr.refl _ _ _) (hW) rfl
      refine ⟨fun S ac wc h0 hd hc hW hk K hK=>?_,?_⟩
      · obtain ⟨q0,-⟩:=hk;have q0:ac.tmps.getD 19 undef=.bool true:=q0;go_simp;exact hK _ _ (Wr.refl _ _ _) (hW) rfl
      refine ⟨fun S ac wc h0 hd hc hW hk K hK=>?_,?_⟩
      · obtain ⟨q0,-⟩:=hk;have q0:ac.tmps.getD 2 undef=.pointer (some ⟨w.heap.size,0,none⟩):=q0;have c0:=cellOf (hW.1.blk X1 m1 (by decide)) 0 _ rfl;go_simp;exact hK _ _ (Wr.refl _ _ _) (hW) rfl
      refine ⟨fun S ac wc h0 hd hc hW hk K hK=>?_,?_⟩
      · obtain ⟨q0,-⟩:=hk;have q0:ac.tmps.getD 3 undef=.pointer (some ⟨w.heap.size+1,0,none⟩):=q0;go_simp;exact hK _ _ (Wr.refl _ _ _) (hW) rfl
      refine ⟨fun S ac wc h0 hd hc hW hk K hK=>?_,?_⟩
      · obtain ⟨q0,-⟩:=hk;have q0:ac.tmps.getD 22 undef=.pointer (some ⟨w.heap.size+1,3,none⟩):=q0;have c0:=cellOf (hW.1.blk X2 m2 (by decide)) 3 _ rfl;have c1:=cellOf (hW.1.blk X2 m2 (by decide)) 4 _ rfl;have c2:=cellOf (hW.1.blk X2 m2 (by decide)) 5 _ rfl;have c3:=cellOf (hW.1.blk X2 m2 (by decide)) 6 _ rfl;have c4:=cellOf (hW.1.blk X2 m2 (by decide)) 7 _ rfl;have c5:=cellOf (hW.1.blk X2 m2 (by decide)) 8 _ rfl;have c6:=cellOf (hW.1.blk X2 m2 (by decide)) 9 _ rfl;have c7:=cellOf (hW.1.blk X2 m2 (by decide)) 10 _ rfl;have c8:=cellOf (hW.1.blk X2 m2 (by decide)) 11 _ rfl;go_simp;exact hK _ _ (Wr.refl _ _ _) (hW) rfl
      refine ⟨fun S ac wc h0 hd hc hW hk K hK=>?_,?_⟩
      · obtain ⟨q0,-⟩:=hk;have q0:ac.tmps.getD 23 undef=.agg #[.int .i64 e0,.int .i64 e1,.int .i64 e2,.slice pe3 e3 ce3,.slice pe4 e4 ce4,.int .i64 e5,.slice pe6 e6 ce6,.slice pe7 e7 ce7,.slice pe8 e8 ce8]:=q0;go_simp;refine (CX.out wc hW.1).mono ?_;rintro r7 w7 ⟨rfl,b7⟩;go_simp;exact hK _ _ (Wr.of (hW.le HB.out) b7) (hW.rd HB.out b7) rfl
      refine ⟨fun S ac wc h0 hd hc hW hk K hK=>?_,?_⟩
      · obtain ⟨q0,q1,-⟩:=hk;have q0:ac.tmps.getD 21 undef=.pointer (some ⟨b,0,none⟩):=q0;have q1:ac.tmps.getD 24 undef=.string (str ze):=q1;have s15:S 15=true:=hd.at 15 (by kernel_rfl);have s13:S 13=true:=hc.yes 15 13 rfl (by kernel_rfl) s15;have s9:S 9=true:=hc.yes 13 9 rfl (by kernel_rfl) s13;have s8:S 8=true:=hc.yes 9 8 rfl (by kernel_rfl) s9;have n20:S 20=false:=h0;have n22:S 22=false:=hc.no 22 20 rfl (by kernel_rfl) n20;have n25:S 25=false:=hc.no 25 22 rfl (by kernel_rfl) n22;have hI:IsS B b t2 wc:=hW.2 t2 (by show (bif S 8 then _ else _)=_;simp only [s8,s13,n20,cond_true,cond_false]);go_simp;refine (CS.out wc hI (hW.le HB.out)).mono ?_;rintro r7 w7 ⟨rfl,h7,b7⟩;rw [decide_eq_true G3.out];go_simp;exact hK _ _ b7 ⟨hW.1.trans b7,fun u hu=>by replace hu:(bif plus 20 S 8 then _ else _)=some u:=hu;simp only [plus,beq_self_eq_true,Bool.true_or,Bool.or_false,Bool.false_or,Nat.reduceBEq,Nat.reduceAdd,s8,s13,n25,cond_true,cond_false,Option.some.injEq] at hu;rw [← hu];exact h7⟩ rfl
      refine ⟨fun S ac wc h0 hd hc hW hk K hK=>?_,?_⟩
      · obtain ⟨q0,q1,-⟩:=hk;have q0:ac.tmps.getD 20 undef=.bool true:=q0;have q1:ac.tmps.getD 25 undef=.bool true:=q1;go_simp;exact hK _ _ (Wr.refl _ _ _) (hW) rfl
      refine ⟨fun S ac wc h0 hd hc hW hk K hK=>?_,?_⟩
      · obtain ⟨q0,-⟩:=hk;have q0:ac.tmps.getD 26 undef=.bool true:=q0;go_simp;exact hK _ _ (Wr.refl _ _ _) (hW) rfl
      refine ⟨fun S ac wc h0 hd hc hW hk K hK=>?_,?_⟩
      · obtain ⟨q0,-⟩:=hk;have q0:ac.tmps.getD 2 undef=.pointer (some ⟨w.heap.size,0,none⟩):=q0;have c0:=cellOf (hW.1.blk X1 m1 (by decide)) 0 _ rfl;go_simp;exact hK _ _ (Wr.refl _ _ _) (hW) rfl
      refine ⟨fun S ac wc h0 hd hc hW hk K hK=>?_,?_⟩
      · clear hk;go_simp;exact hK _ _ (Wr.of (hW.le HB.out) (bel1 _ _)) (hW.rd HB.out (bel1 _ _)) (SRw.new (B:=0) (bs:=[]) _ (hW.1.lt HL.out))
      refine ⟨fun S ac wc h0 hd hc hW hk K hK=>?_,?_⟩
      · obtain ⟨q0,q1,-⟩:=hk;have q0:ac.tmps.getD 28 undef=.pointer (some ⟨b,0,none⟩):=q0;have q1:(fun v w=>SRw b 1 #[.string ⟨#[125]⟩] v w) (ac.tmps.getD 29 undef) wc:=q1;generalize q1e:ac.tmps.getD 29 undef=uq1 at q1;obtain ⟨h,rfl,hne,hb⟩:=q1;have s22:S 22=true:=hd.at 22 (by kernel_rfl);have s20:S 20=true:=hc.yes 22 20 rfl (by kernel_rfl) s22;have s15:S 15=true:=hc.yes 20 15 rfl (by kernel_rfl) s20;have s13:S 13=true:=hc.yes 15 13 rfl (by kernel_rfl) s15;have s9:S 9=true:=hc.yes 13 9 rfl (by kernel_rfl) s13;have s8:S 8=true:=hc.yes 9 8 rfl (by kernel_rfl) s9;have n25:S 25=false:=h0;have hI:IsS B b t3 wc:=hW.2 t3 (by show (bif S 8 then _ else _)=_;simp only [s8,s13,s20,n25,cond_true,cond_false]);go_simp;refine (CL2.out h wc hI (hW.le HB.out) hb).mono ?_;rintro r7 w7 ⟨rfl,h7,b7⟩;go_simp;exact hK _ _ b7 ⟨hW.1.trans b7,fun u hu=>by replace hu:(bif plus 25 S 8 then _ else _)=some u:=hu;simp only [plus,beq_self_eq_true,Bool.true_or,Bool.or_false,Bool.false_or,Nat.reduceBEq,Nat.reduceAdd,s8,s13,s20,cond_true,cond_false,Option.some.injEq] at hu;rw [← hu];exact h7⟩ rfl
      refine ⟨fun S ac wc h0 hd hc hW hk K hK=>?_,?_⟩
      · obtain ⟨q0,q1,-⟩:=hk;have q0:ac.tmps.getD 27 undef=.bool true:=q0;have q1:ac.tmps.getD 30 undef=.bool (decide (t4.length≤40000)):=q1;go_simp;exact hK _ _ (Wr.refl _ _ _) (hW) rfl
      refine ⟨fun S ac wc h0 hd hc hW hk K hK=>?_,?_⟩
      · obtain ⟨q0,-⟩:=hk;have q0:ac.tmps.getD 31 undef=.bool (decide (t4.length≤40000)):=q0;go_simp;exact hK _ _ (Wr.refl _ _ _) (hW) rfl
      trivial
  rintro vs wx ⟨hv0,hb⟩;simp only [puts,Act.put,List.setIfInBounds_toArray,List.set_cons_zero,List.set_cons_succ,hv0];have Z:Hid (Parts B b t4 w (.returned (.bool (decide (t4.length≤40000)))) wx):=Parts.of hb.2 (W1.out.trans hb.1);clear hb;go_wp2
  go_ret;exact Z.out
theorem blockH_of {B b : Nat} {w : World} {kr e0 e1 e2 e5 : Int} {np cp nc cc e3 ce3 e4 ce4 e6 ce6 e7 ce7 e8 ce8 : Nat} {pp pc pe3 pe4 pe6 pe7 pe8 : Option Addr} {zn zp ze t0 t1 t2 t3 t4 : List UInt8}
    (hI:IsS B b t0 w) (hB:B≤w.heap.size):let w1:=((w.alloc (.cells #[.pointer (some ⟨b,0,none⟩)] 136)).alloc (.cells #[.int .i64 kr,.slice pp np cp,.slice pc nc cc,.int .i64 e0,.int .i64 e1,.int .i64 e2,.slice pe3 e3 ce3,.slice pe4 e4 ce4,.int .i64 e5,.slice pe6 e6 ce6,.slice pe7 e7 ce7,.slice pe8 e8 ce8] 52));Hid (((w.alloc (.cells #[.pointer (some ⟨b,0,none⟩)] 136)).alloc (.cells #[.int .i64 kr,.slice pp np cp,.slice pc nc cc,.int .i64 e0,.int .i64 e1,.int .i64 e2,.slice pe3 e3 ce3,.slice pe4 e4 ce4,.int .i64 e5,.slice pe6 e6 ce6,.slice pe7 e7 ce7,.slice pe8 e8 ce8] 52))=w1)∧Hid (IsS B b t0 w1)∧Hid (Wr B b w w1)∧Hid (B≤w1.heap.size)∧Hid (b<w1.heap.size)∧Blk w1 w.heap.size #[.pointer (some ⟨b,0,none⟩)] 136∧Blk w1 (w.heap.size+1) #[.int .i64 kr,.slice pp np cp,.slice pc nc cc,.int .i64 e0,.int .i64 e1,.int .i64 e2,.slice pe3 e3 ce3,.slice pe4 e4 ce4,.int .i64 e5,.slice pe6 e6 ce6,.slice pe7 e7 ce7,.slice pe8 e8 ce8] 52∧w.heap.size≠b∧w.heap.size+1≠b:=by
  have b1:Below w.heap.size w ((w.alloc (.cells #[.pointer (some ⟨b,0,none⟩)] 136)).alloc (.cells #[.int .i64 kr,.slice pp np cp,.slice pc nc cc,.int .i64 e0,.int .i64 e1,.int .i64 e2,.slice pe3 e3 ce3,.slice pe4 e4 ce4,.int .i64 e5,.slice pe6 e6 ce6,.slice pe7 e7 ce7,.slice pe8 e8 ce8] 52)):=bel2 _ _ _;have hl:=hI.lt;exact ⟨rfl,bld_below hI b1,Wr.of hB b1,Nat.le_trans hB b1.size,Nat.lt_of_lt_of_le hl b1.size,Blk.new1 _ _ _ _ _,Blk.new2 _ _ _ _,by omega,by omega⟩
theorem block_parts {B b : Nat} {w w1 : World} {kr e0 e1 e2 e5 : Int} {np cp nc cc e3 ce3 e4 ce4 e6 ce6 e7 ce7 e8 ce8 : Nat} {pp pc pe3 pe4 pe6 pe7 pe8 : Option Addr} {zn zp ze t0 t1 t2 t3 t4 : List UInt8} (H : BlockH B b w w1 kr e0 e1 e2 e5 np cp nc cc e3 ce3 e4 ce4 e6 ce6 e7 ce7 e8 ce8 pp pc pe3 pe4 pe6 pe7 pe8 zn zp ze t0 t1 t2 t3 t4) :
    Calls Tryz.prog 122 #[.pointer (some ⟨b,0,none⟩),.agg #[.int .i64 kr,.slice pp np cp,.slice pc nc cc,.int .i64 e0,.int .i64 e1,.int .i64 e2,.slice pe3 e3 ce3,.slice pe4 e4 ce4,.int .i64 e5,.slice pe6 e6 ce6,.slice pe7 e7 ce7,.slice pe8 e8 ce8]] w (Parts B b t4 w):=by
  by_cases g1:t1.length≤40000
  · by_cases g2:t2.length≤40000
    · by_cases g3:t3.length≤40000
      · exact block_yes H g1 g2 g3
      · exact block_no2 H g1 g2 g3
    · exact block_no1 H g1 g2
  · exact block_no0 H g1
structure FuncH (B b : Nat) (w w1 : World) (kr : Int) (np cp nq cq nb cb : Nat) (pp pq pb : Option Addr) (zn zp zq t0 t1 t2 t3 : List UInt8) : Prop where
  E1:Hid ((w.alloc (.cells #[.int .i64 kr,.slice pp np cp,.slice pq nq cq,.slice pb nb cb] 42))=w1)
  I1:Hid (IsS B b t0 w1)
  W1:Hid (Wr B b w w1)
  HB:Hid (B≤w1.heap.size)
  HL:Hid (b<w1.heap.size)
  X2:Blk w1 w.heap.size #[.int .i64 kr,.slice pp np cp,.slice pq nq cq,.slice pb nb cb] 42
  m2:w.heap.size≠b
  CN:Hid (∀ wx,Wr B b w1 wx→Calls Tryz.prog 120 #[.int .i64 kr] wx fun e w'=>e=.returned (.string (str zn))∧Below wx.heap.size wx w')
  CP:Hid (∀ wx,Wr B b w1 wx→Calls Tryz.prog 121 #[.slice pp np cp] wx fun e w'=>e=.returned (.string (str zp))∧Below wx.heap.size wx w')
  CQ:Hid (∀ wx,Wr B b w1 wx→Calls Tryz.prog 121 #[.slice pq nq cq] wx fun e w'=>e=.returned (.string (str zq))∧Below wx.heap.size wx w')
  CL1:Hid (∀ h wx,IsS B b t0 wx→B≤wx.heap.size→Blk wx h #[.string ⟨#[102,117,110,99]⟩,.string (str zn),.string (str zp),.string ⟨#[45,62]⟩,.string (str zq),.string ⟨#[123]⟩] 9→Calls Tryz.prog 119 #[.pointer (some ⟨b,0,none⟩),.slice (some ⟨h,0,none⟩) 6 6] wx (Lined B b t1 wx))
  CE0:t1.length≤40000→Hid (∀ wx,Wr B b w1 wx→IsS B b t1 wx→Calls Tryz.prog 82 #[.slice pb nb cb,.func (.func 122) #[.pointer (some ⟨b,0,none⟩)] #[]] wx (Parts B b t2 wx))
  CL20:t2.length≤40000→Hid (∀ h wx,IsS B b t2 wx→B≤wx.heap.size→Blk wx h #[.string ⟨#[125]⟩] 9→Calls Tryz.prog 119 #[.pointer (some ⟨b,0,none⟩),.slice (some ⟨h,0,none⟩) 1 1] wx (Lined B b t3 wx))
  M1:Hid (t1.length≤t3.length)
  M2:Hid (t2.length≤t3.length)
theorem func_no0 {B b : Nat} {w w1 : World} {kr : Int} {np cp nq cq nb cb : Nat} {pp pq pb : Option Addr} {zn zp zq t0 t1 t2 t3 : List UInt8} (H : FuncH B b w w1 kr np cp nq cq nb cb pp pq pb zn zp zq t0 t1 t2 t3) (G1 : Hid (¬ t1.length ≤ 40000)) :
    Calls Tryz.prog 87 #[.pointer (some ⟨b,0,none⟩),.agg #[.int .i64 kr,.slice pp np cp,.slice pq nq cq,.slice pb nb cb]] w (Parts B b t3 w):=by
  obtain ⟨E1,I1,W1,HB,HL,X2,m2,CN,CP,CQ,CL1,CE0,CL20,M1,M2⟩:=H;clear CE0 CL20;go_enter Tryz.func87,Tryz.ntmps87
  go_wp2_with fail
  rw [E1.out];have ST0:stW w1 B b (fun S=>(bif S 11 then some t1 else some t0)) (fun _=>false) w1.drew:=⟨⟨(Below.refl _ _).drew,(Lib.OthersKept.refl _ _ _).drew⟩,fun u hu=>by replace hu:some t0=some u:=hu;cases hu;exact I1.out⟩;refine wp_puts [5,6,7,8,9,10,11,12,13,14,15,16,17,18,19,20,21,22,23,24,25,26,27,28,4] (fun vs w'=>vs 4=.bool false∧Wr B b w1 w') ?_ ?_
  · refine wp_region_stage (PTab.E ([(0,fun v _=>v=.pointer (some ⟨b,0,none⟩)),(3,fun v _=>v=.pointer (some ⟨w.heap.size,0,none⟩)),(5,fun v _=>v=.pointer (some ⟨b,0,none⟩)),(6,fun v _=>v=.pointer (some ⟨w.heap.size,0,none⟩)),(7,fun v _=>v=.int .i64 kr),(8,fun v _=>v=.string (str zn)),(9,fun v _=>v=.pointer (some ⟨w.heap.size,1,none⟩)),(10,fun v _=>v=.slice pp np cp),(11,fun v _=>v=.string (str zp)),(12,fun v _=>v=.pointer (some ⟨w.heap.size,2,none⟩)),(13,fun v _=>v=.slice pq nq cq),(14,fun v _=>v=.string (str zq)),(16,fun v _=>v=.bool false),(17,fun v _=>v=.bool false),(18,fun v _=>v=undef),(19,fun v _=>v=undef),(20,fun v _=>v=undef),(21,fun v _=>v=undef),(22,fun v _=>v=undef),(23,fun v _=>v=.bool false),(24,fun v _=>v=.bool false),(25,fun v _=>v=undef),(26,fun v _=>v=undef),(27,fun v _=>v=undef),(28,fun v _=>v=.bool false),(4,fun v _=>v=.bool false),(15,fun v w=>SRw b 6 #[.string ⟨#[102,117,110,99]⟩,.string (str zn),.string (str zp),.string ⟨#[45,62]⟩,.string (str zq),.string ⟨#[123]⟩] v w)]:PTab)) (stW w1 B b (fun S=>(bif S 11 then some t1 else some t0))) (Wr B b) (outs:=[0,3]) (gs:=[(12,some false),(19,some false)]) (bs:=[true,true,true,true,true,true,true,true,true,true,true,true,true,false,false,false,false,false,true,true,false,false,false,true,true]) (by kernel_rfl) (n:=29) rfl (Nat.le_refl _) (by kernel_rfl) (PTab_stable _ ⟨fun _ _ _ _ h=>h,fun _ _ _ _ h=>h,fun _ _ _ _ h=>h,fun _ _ _ _ h=>h,fun _ _ _ _ h=>h,fun _ _ _ _ h=>h,fun _ _ _ _ h=>h,fun _ _ _ _ h=>h,fun _ _ _ _ h=>h,fun _ _ _ _ h=>h,fun _ _ _ _ h=>h,fun _ _ _ _ h=>h,fun _ _ _ _ h=>h,fun _ _ _ _ h=>h,fun _ _ _ _ h=>h,fun _ _ _ _ h=>h,fun _ _ _ _ h=>h,fun _ _ _ _ h=>h,fun _ _ _ _ h=>h,fun _ _ _ _ h=>h,fun _ _ _ _ h=>h,fun _ _ _ _ h=>h,fun _ _ _ _ h=>h,fun _ _ _ _ h=>h,fun _ _ _ _ h=>h,fun _ _ _ _ h=>h,fun v w w' hr h=>h.on hr,trivial⟩) ?hG (ST0) ⟨rfl,rfl,trivial⟩ ?hA ?hend
    case hG=>exact ⟨fun t ht v w h=>by cases ht;exact h,fun t ht v w h=>by cases ht;exact h,trivial⟩
    case hend=>exact fun vs S w' hS hW hk=>⟨rfl,vs,rfl,hk 4 (by kernel_rfl),hW.1⟩
    case hA =>
      refine ⟨fun S ac wc h0 hd hc hW hk K hK=>?_,?_⟩
      · obtain ⟨q0,-⟩:=hk;have q0:ac.tmps.getD 0 undef=.pointer (some ⟨b,0,none⟩):=q0;go_simp;exact hK _ _ (Wr.refl _ _ _) (hW) rfl
      refine ⟨fun S ac wc h0 hd hc hW hk K hK=>?_,?_⟩
      · obtain ⟨q0,-⟩:=hk;have q0:ac.tmps.getD 3 undef=.pointer (some ⟨w.heap.size,0,none⟩):=q0;go_simp;exact hK _ _ (Wr.refl _ _ _) (hW) rfl
      refine ⟨fun S ac wc h0 hd hc hW hk K hK=>?_,?_⟩
      · obtain ⟨q0,-⟩:=hk;have q0:ac.tmps.getD 6 undef=.pointer (some ⟨w.heap.size,0,none⟩):=q0;have c0:=cellOf (hW.1.blk X2 m2 (by decide)) 0 _ rfl;go_simp;exact hK _ _ (Wr.refl _ _ _) (hW) rfl
      refine ⟨fun S ac wc h0 hd hc hW hk K hK=>?_,?_⟩
      · obtain ⟨q0,-⟩:=hk;have q0:ac.tmps.getD 7 undef=.int .i64 kr:=q0;go_simp;refine (CN.out wc hW.1).mono ?_;rintro r7 w7 ⟨rfl,b7⟩;go_simp;exact hK _ _ (Wr.of (hW.le HB.out) b7) (hW.rd HB.out b7) rfl
      refine ⟨fun S ac wc h0 hd hc hW hk K hK=>?_,?_⟩
      · obtain ⟨q0,-⟩:=hk;have q0:ac.tmps.getD 3 undef=.pointer (some ⟨w.heap.size,0,none⟩):=q0;go_simp;exact hK _ _ (Wr.refl _ _ _) (hW) rfl
      refine ⟨fun S ac wc h0 hd hc hW hk K hK=>?_,?_⟩
      · obtain ⟨q0,-⟩:=hk;have q0:ac.tmps.getD 9 undef=.pointer (some ⟨w.heap.size,1,none⟩):=q0;have c0:=cellOf (hW.1.blk X2 m2 (by decide)) 1 _ rfl;go_simp;exact hK _ _ (Wr.refl _ _ _) (hW) rfl
      refine ⟨fun S ac wc h0 hd hc hW hk K hK=>?_,?_⟩
      · obtain ⟨q0,-⟩:=hk;have q0:ac.tmps.getD 10 undef=.slice pp np cp:=q0;go_simp;refine (CP.out wc hW.1).mono ?_;rintro r7 w7 ⟨rfl,b7⟩;go_simp;exact hK _ _ (Wr.of (hW.le HB.out) b7) (hW.rd HB.out b7) rfl
      refine ⟨fun S ac wc h0 hd hc hW hk K hK=>?_,?_⟩
      · obtain ⟨q0,-⟩:=hk;have q0:ac.tmps.getD 3 undef=.pointer (some ⟨w.heap.size,0,none⟩):=q0;go_simp;exact hK _ _ (Wr.refl _ _ _) (hW) rfl
      refine ⟨fun S ac wc h0 hd hc hW hk K hK=>?_,?_⟩
      · obtain ⟨q0,-⟩:=hk;have q0:ac.tmps.getD 12 undef=.pointer (some ⟨w.heap.size,2,none⟩):=q0;have c0:=cellOf (hW.1.blk X2 m2 (by decide)) 2 _ rfl;go_simp;exact hK _ _ (Wr.refl _ _ _) (hW) rfl
      refine ⟨fun S ac wc h0 hd hc hW hk K hK=>?_,?_⟩
      · obtain ⟨q0,-⟩:=hk;have q0:ac.tmps.getD 13 undef=.slice pq nq cq:=q0;go_simp;refine (CQ.out wc hW.1).mono ?_;rintro r7 w7 ⟨rfl,b7⟩;go_simp;exact hK _ _ (Wr.of (hW.le HB.out) b7) (hW.rd HB.out b7) rfl
      refine ⟨fun S ac wc h0 hd hc hW hk K hK=>?_,?_⟩
      · obtain ⟨q0,q1,q2,-⟩:=hk;have q0:ac.tmps.getD 8 undef=.string (str zn):=q0;have q1:ac.tmps.getD 11 undef=.string (str zp):=q1;have q2:ac.tmps.getD 14 undef=.string (str zq):=q2;simp only [Array.getD_eq_getD_getElem?] at q0 q1 q2;go_simp;exact hK _ _ (Wr.of (hW.le HB.out) (bel1 _ _)) (hW.rd HB.out (bel1 _ _)) (SRw.new (B:=0) (bs:=[]) _ (hW.1.lt HL.out))
      refine ⟨fun S ac wc h0 hd hc hW hk K hK=>?_,?_⟩
      · obtain ⟨q0,q1,-⟩:=hk;have q0:ac.tmps.getD 5 undef=.pointer (some ⟨b,0,none⟩):=q0;have q1:(fun v w=>SRw b 6 #[.string ⟨#[102,117,110,99]⟩,.string (str zn),.string (str zp),.string ⟨#[45,62]⟩,.string (str zq),.string ⟨#[123]⟩] v w) (ac.tmps.getD 15 undef) wc:=q1;generalize q1e:ac.tmps.getD 15 undef=uq1 at q1;obtain ⟨h,rfl,hne,hb⟩:=q1;have n11:S 11=false:=h0;have hI:IsS B b t0 wc:=hW.2 t0 (by show (bif S 11 then _ else _)=_;simp only [n11,cond_true,cond_false]);go_simp;refine (CL1.out h wc hI (hW.le HB.out) hb).mono ?_;rintro r7 w7 ⟨rfl,h7,b7⟩;rw [decide_eq_false G1.out];go_simp;exact hK _ _ b7 ⟨hW.1.trans b7,fun u hu=>by replace hu:(bif plus 11 S 11 then _ else _)=some u:=hu;simp only [plus,beq_self_eq_true,Bool.true_or,Bool.or_false,Bool.false_or,Nat.reduceBEq,Nat.reduceAdd,cond_true,cond_false,Option.some.injEq] at hu;rw [← hu];exact h7⟩ rfl
      refine ⟨fun S ac wc h0 hd hc hW hk K hK=>?_,?_⟩
      · obtain ⟨q0,-⟩:=hk;have q0:ac.tmps.getD 16 undef=.bool false:=q0;go_simp;exact hK _ _ (Wr.refl _ _ _) (hW) rfl
      refine ⟨fun S w h0 hd hc hW=>⟨hW,rfl⟩,?_⟩;refine ⟨fun S w h0 hd hc hW=>⟨hW,rfl⟩,?_⟩;refine ⟨fun S w h0 hd hc hW=>⟨hW,rfl⟩,?_⟩;refine ⟨fun S w h0 hd hc hW=>⟨hW,rfl⟩,?_⟩;refine ⟨fun S w h0 hd hc hW=>⟨hW,rfl⟩,?_⟩;refine ⟨fun S ac wc h0 hd hc hW hk K hK=>?_,?_⟩
      · obtain ⟨q0,q1,-⟩:=hk;have q0:ac.tmps.getD 17 undef=.bool false:=q0;have q1:ac.tmps.getD 22 undef=undef:=q1;go_simp;exact hK _ _ (Wr.refl _ _ _) (hW) rfl
      refine ⟨fun S ac wc h0 hd hc hW hk K hK=>?_,?_⟩
      · obtain ⟨q0,-⟩:=hk;have q0:ac.tmps.getD 23 undef=.bool false:=q0;go_simp;exact hK _ _ (Wr.refl _ _ _) (hW) rfl
      refine ⟨fun S w h0 hd hc hW=>⟨hW,rfl⟩,?_⟩;refine ⟨fun S w h0 hd hc hW=>⟨hW,rfl⟩,?_⟩;refine ⟨fun S w h0 hd hc hW=>⟨hW,rfl⟩,?_⟩;refine ⟨fun S ac wc h0 hd hc hW hk K hK=>?_,?_⟩
      · obtain ⟨q0,q1,-⟩:=hk;have q0:ac.tmps.getD 24 undef=.bool false:=q0;have q1:ac.tmps.getD 27 undef=undef:=q1;go_simp;exact hK _ _ (Wr.refl _ _ _) (hW) rfl
      refine ⟨fun S ac wc h0 hd hc hW hk K hK=>?_,?_⟩
      · obtain ⟨q0,-⟩:=hk;have q0:ac.tmps.getD 28 undef=.bool false:=q0;go_simp;exact hK _ _ (Wr.refl _ _ _) (hW) rfl
      trivial
  rintro vs wx ⟨hv0,hb⟩;simp only [puts,Act.put,List.setIfInBounds_toArray,List.set_cons_zero,List.set_cons_succ,hv0];have Z:Hid (Parts B b t3 w (.returned (.bool false)) wx):=Parts.no (fun hh=>G1.out (Nat.le_trans M1.out hh)) (W1.out.trans hb);clear hb;go_wp2
  go_ret;exact Z.out
theorem func_no1 {B b : Nat} {w w1 : World} {kr : Int} {np cp nq cq nb cb : Nat} {pp pq pb : Option Addr} {zn zp zq t0 t1 t2 t3 : List UInt8} (H : FuncH B b w w1 kr np cp nq cq nb cb pp pq pb zn zp zq t0 t1 t2 t3) (G1 : Hid (t1.length ≤ 40000)) (G2 : Hid (¬ t2.length ≤ 40000)) :
    Calls Tryz.prog 87 #[.pointer (some ⟨b,0,none⟩),.agg #[.int .i64 kr,.slice pp np cp,.slice pq nq cq,.slice pb nb cb]] w (Parts B b t3 w):=by
  obtain ⟨E1,I1,W1,HB,HL,X2,m2,CN,CP,CQ,CL1,CE0,CL20,M1,M2⟩:=H;have CE:=CE0 G1.out;clear CE0 CL20;go_enter Tryz.func87,Tryz.ntmps87
  go_wp2_with fail
  rw [E1.out];have ST0:stW w1 B b (fun S=>(bif S 11 then (bif S 17 then none else some t1) else some t0)) (fun _=>false) w1.drew:=⟨⟨(Below.refl _ _).drew,(Lib.OthersKept.refl _ _ _).drew⟩,fun u hu=>by replace hu:some t0=some u:=hu;cases hu;exact I1.out⟩;refine wp_puts [5,6,7,8,9,10,11,12,13,14,15,16,17,18,19,20,21,22,23,24,25,26,27,28,4] (fun vs w'=>vs 4=.bool false∧Wr B b w1 w') ?_ ?_
  · refine wp_region_stage (PTab.E ([(0,fun v _=>v=.pointer (some ⟨b,0,none⟩)),(3,fun v _=>v=.pointer (some ⟨w.heap.size,0,none⟩)),(5,fun v _=>v=.pointer (some ⟨b,0,none⟩)),(6,fun v _=>v=.pointer (some ⟨w.heap.size,0,none⟩)),(7,fun v _=>v=.int .i64 kr),(8,fun v _=>v=.string (str zn)),(9,fun v _=>v=.pointer (some ⟨w.heap.size,1,none⟩)),(10,fun v _=>v=.slice pp np cp),(11,fun v _=>v=.string (str zp)),(12,fun v _=>v=.pointer (some ⟨w.heap.size,2,none⟩)),(13,fun v _=>v=.slice pq nq cq),(14,fun v _=>v=.string (str zq)),(16,fun v _=>v=.bool true),(17,fun v _=>v=.bool true),(18,fun v _=>v=.pointer (some ⟨w.heap.size,3,none⟩)),(19,fun v _=>v=.slice pb nb cb),(20,fun v _=>v=.pointer (some ⟨b,0,none⟩)),(21,fun v _=>v=.func (.func 122) #[.pointer (some ⟨b,0,none⟩)] #[]),(22,fun v _=>v=.bool false),(23,fun v _=>v=.bool false),(24,fun v _=>v=.bool false),(25,fun v _=>v=undef),(26,fun v _=>v=undef),(27,fun v _=>v=undef),(28,fun v _=>v=.bool false),(4,fun v _=>v=.bool false),(15,fun v w=>SRw b 6 #[.string ⟨#[102,117,110,99]⟩,.string (str zn),.string (str zp),.string ⟨#[45,62]⟩,.string (str zq),.string ⟨#[123]⟩] v w)]:PTab)) (stW w1 B b (fun S=>(bif S 11 then (bif S 17 then none else some t1) else some t0))) (Wr B b) (outs:=[0,3]) (gs:=[(12,some true),(19,some false)]) (bs:=[true,true,true,true,true,true,true,true,true,true,true,true,true,true,true,true,true,true,true,true,false,false,false,true,true]) (by kernel_rfl) (n:=29) rfl (Nat.le_refl _) (by kernel_rfl) (PTab_stable _ ⟨fun _ _ _ _ h=>h,fun _ _ _ _ h=>h,fun _ _ _ _ h=>h,fun _ _ _ _ h=>h,fun _ _ _ _ h=>h,fun _ _ _ _ h=>h,fun _ _ _ _ h=>h,fun _ _ _ _ h=>h,fun _ _ _ _ h=>h,fun _ _ _ _ h=>h,fun _ _ _ _ h=>h,fun _ _ _ _ h=>h,fun _ _ _ _ h=>h,fun _ _ _ _ h=>h,fun _ _ _ _ h=>h,fun _ _ _ _ h=>h,fun _ _ _ _ h=>h,fun _ _ _ _ h=>h,fun _ _ _ _ h=>h,fun _ _ _ _ h=>h,fun _ _ _ _ h=>h,fun _ _ _ _ h=>h,fun _ _ _ _ h=>h,fun _ _ _ _ h=>h,fun _ _ _ _ h=>h,fun _ _ _ _ h=>h,fun v w w' hr h=>h.on hr,trivial⟩) ?hG (ST0) ⟨rfl,rfl,trivial⟩ ?hA ?hend
    case hG=>exact ⟨fun t ht v w h=>by cases ht;exact h,fun t ht v w h=>by cases ht;exact h,trivial⟩
    case hend=>exact fun vs S w' hS hW hk=>⟨rfl,vs,rfl,hk 4 (by kernel_rfl),hW.1⟩
    case hA =>
      refine ⟨fun S ac wc h0 hd hc hW hk K hK=>?_,?_⟩
      · obtain ⟨q0,-⟩:=hk;have q0:ac.tmps.getD 0 undef=.pointer (some ⟨b,0,none⟩):=q0;go_simp;exact hK _ _ (Wr.refl _ _ _) (hW) rfl
      refine ⟨fun S ac wc h0 hd hc hW hk K hK=>?_,?_⟩
      · obtain ⟨q0,-⟩:=hk;have q0:ac.tmps.getD 3 undef=.pointer (some ⟨w.heap.size,0,none⟩):=q0;go_simp;exact hK _ _ (Wr.refl _ _ _) (hW) rfl
      refine ⟨fun S ac wc h0 hd hc hW hk K hK=>?_,?_⟩
      · obtain ⟨q0,-⟩:=hk;have q0:ac.tmps.getD 6 undef=.pointer (some ⟨w.heap.size,0,none⟩):=q0;have c0:=cellOf (hW.1.blk X2 m2 (by decide)) 0 _ rfl;go_simp;exact hK _ _ (Wr.refl _ _ _) (hW) rfl
      refine ⟨fun S ac wc h0 hd hc hW hk K hK=>?_,?_⟩
      · obtain ⟨q0,-⟩:=hk;have q0:ac.tmps.getD 7 undef=.int .i64 kr:=q0;go_simp;refine (CN.out wc hW.1).mono ?_;rintro r7 w7 ⟨rfl,b7⟩;go_simp;exact hK _ _ (Wr.of (hW.le HB.out) b7) (hW.rd HB.out b7) rfl
      refine ⟨fun S ac wc h0 hd hc hW hk K hK=>?_,?_⟩
      · obtain ⟨q0,-⟩:=hk;have q0:ac.tmps.getD 3 undef=.pointer (some ⟨w.heap.size,0,none⟩):=q0;go_simp;exact hK _ _ (Wr.refl _ _ _) (hW) rfl
      refine ⟨fun S ac wc h0 hd hc hW hk K hK=>?_,?_⟩
      · obtain ⟨q0,-⟩:=hk;have q0:ac.tmps.getD 9 undef=.pointer (some ⟨w.heap.size,1,none⟩):=q0;have c0:=cellOf (hW.1.blk X2 m2 (by decide)) 1 _ rfl;go_simp;exact hK _ _ (Wr.refl _ _ _) (hW) rfl
      refine ⟨fun S ac wc h0 hd hc hW hk K hK=>?_,?_⟩
      · obtain ⟨q0,-⟩:=hk;have q0:ac.tmps.getD 10 undef=.slice pp np cp:=q0;go_simp;refine (CP.out wc hW.1).mono ?_;rintro r7 w7 ⟨rfl,b7⟩;go_simp;exact hK _ _ (Wr.of (hW.le HB.out) b7) (hW.rd HB.out b7) rfl
      refine ⟨fun S ac wc h0 hd hc hW hk K hK=>?_,?_⟩
      · obtain ⟨q0,-⟩:=hk;have q0:ac.tmps.getD 3 undef=.pointer (some ⟨w.heap.size,0,none⟩):=q0;go_simp;exact hK _ _ (Wr.refl _ _ _) (hW) rfl
      refine ⟨fun S ac wc h0 hd hc hW hk K hK=>?_,?_⟩
      · obtain ⟨q0,-⟩:=hk;have q0:ac.tmps.getD 12 undef=.pointer (some ⟨w.heap.size,2,none⟩):=q0;have c0:=cellOf (hW.1.blk X2 m2 (by decide)) 2 _ rfl;go_simp;exact hK _ _ (Wr.refl _ _ _) (hW) rfl
      refine ⟨fun S ac wc h0 hd hc hW hk K hK=>?_,?_⟩
      · obtain ⟨q0,-⟩:=hk;have q0:ac.tmps.getD 13 undef=.slice pq nq cq:=q0;go_simp;refine (CQ.out wc hW.1).mono ?_;rintro r7 w7 ⟨rfl,b7⟩;go_simp;exact hK _ _ (Wr.of (hW.le HB.out) b7) (hW.rd HB.out b7) rfl
      refine ⟨fun S ac wc h0 hd hc hW hk K hK=>?_,?_⟩
      · obtain ⟨q0,q1,q2,-⟩:=hk;have q0:ac.tmps.getD 8 undef=.string (str zn):=q0;have q1:ac.tmps.getD 11 undef=.string (str zp):=q1;have q2:ac.tmps.getD 14 undef=.string (str zq):=q2;simp only [Array.getD_eq_getD_getElem?] at q0 q1 q2;go_simp;exact hK _ _ (Wr.of (hW.le HB.out) (bel1 _ _)) (hW.rd HB.out (bel1 _ _)) (SRw.new (B:=0) (bs:=[]) _ (hW.1.lt HL.out))
      refine ⟨fun S ac wc h0 hd hc hW hk K hK=>?_,?_⟩
      · obtain ⟨q0,q1,-⟩:=hk;have q0:ac.tmps.getD 5 undef=.pointer (some ⟨b,0,none⟩):=q0;have q1:(fun v w=>SRw b 6 #[.string ⟨#[102,117,110,99]⟩,.string (str zn),.string (str zp),.string ⟨#[45,62]⟩,.string (str zq),.string ⟨#[123]⟩] v w) (ac.tmps.getD 15 undef) wc:=q1;generalize q1e:ac.tmps.getD 15 undef=uq1 at q1;obtain ⟨h,rfl,hne,hb⟩:=q1;have n11:S 11=false:=h0;have n12:S 12=false:=hc.no 12 11 rfl (by kernel_rfl) n11;have n17:S 17=false:=hc.no 17 12 rfl (by kernel_rfl) n12;have hI:IsS B b t0 wc:=hW.2 t0 (by show (bif S 11 then _ else _)=_;simp only [n11,cond_true,cond_false]);go_simp;refine (CL1.out h wc hI (hW.le HB.out) hb).mono ?_;rintro r7 w7 ⟨rfl,h7,b7⟩;rw [decide_eq_true G1.out];go_simp;exact hK _ _ b7 ⟨hW.1.trans b7,fun u hu=>by replace hu:(bif plus 11 S 11 then _ else _)=some u:=hu;simp only [plus,beq_self_eq_true,Bool.true_or,Bool.or_false,Bool.false_or,Nat.reduceBEq,Nat.reduceAdd,n17,cond_true,cond_false,Option.some.injEq] at hu;rw [← hu];exact h7⟩ rfl
      refine ⟨fun S ac wc h0 hd hc hW hk K hK=>?_,?_⟩
      · obtain ⟨q0,-⟩:=hk;have q0:ac.tmps.getD 16 undef=.bool true:=q0;go_simp;exact hK _ _ (Wr.refl _ _ _) (hW) rfl
      refine ⟨fun S ac wc h0 hd hc hW hk K hK=>?_,?_⟩
      · obtain ⟨q0,-⟩:=hk;have q0:ac.tmps.getD 3 undef=.pointer (some ⟨w.heap.size,0,none⟩):=q0;go_simp;exact hK _ _ (Wr.refl _ _ _) (hW) rfl
      refine ⟨fun S ac wc h0 hd hc hW hk K hK=>?_,?_⟩
      · obtain ⟨q0,-⟩:=hk;have q0:ac.tmps.getD 18 undef=.pointer (some ⟨w.heap.size,3,none⟩):=q0;have c0:=cellOf (hW.1.blk X2 m2 (by decide)) 3 _ rfl;go_simp;exact hK _ _ (Wr.refl _ _ _) (hW) rfl
      refine ⟨fun S ac wc h0 hd hc hW hk K hK=>?_,?_⟩
      · obtain ⟨q0,-⟩:=hk;have q0:ac.tmps.getD 0 undef=.pointer (some ⟨b,0,none⟩):=q0;go_simp;exact hK _ _ (Wr.refl _ _ _) (hW) rfl
      refine ⟨fun S ac wc h0 hd hc hW hk K hK=>?_,?_⟩
      · obtain ⟨q0,-⟩:=hk;have q0:ac.tmps.getD 20 undef=.pointer (some ⟨b,0,none⟩):=q0;go_simp;exact hK _ _ (Wr.refl _ _ _) (hW) rfl
      refine ⟨fun S ac wc h0 hd hc hW hk K hK=>?_,?_⟩
      · obtain ⟨q0,q1,-⟩:=hk;have q0:ac.tmps.getD 19 undef=.slice pb nb cb:=q0;have q1:ac.tmps.getD 21 undef=.func (.func 122) #[.pointer (some ⟨b,0,none⟩)] #[]:=q1;have s12:S 12=true:=hd.at 12 (by kernel_rfl);have s11:S 11=true:=hc.yes 12 11 rfl (by kernel_rfl) s12;have n17:S 17=false:=h0;have hI:IsS B b t1 wc:=hW.2 t1 (by show (bif S 11 then _ else _)=_;simp only [s11,n17,cond_true,cond_false]);go_simp;refine (CE.out wc hW.1 hI).mono ?_;rintro r7 w7 (⟨rfl,h7,b7⟩ | ⟨rfl,h7,b7⟩)
        · exact absurd h7.2 G2.out
        · have b7:=h7.1;go_simp;exact hK _ _ b7 ⟨hW.1.trans b7,fun u hu=>by replace hu:(bif plus 17 S 11 then _ else _)=some u:=hu;simp only [plus,beq_self_eq_true,Bool.true_or,Bool.false_or,Nat.reduceBEq,Nat.reduceAdd,s11,cond_true,cond_false,reduceCtorEq] at hu⟩ rfl
      refine ⟨fun S ac wc h0 hd hc hW hk K hK=>?_,?_⟩
      · obtain ⟨q0,q1,-⟩:=hk;have q0:ac.tmps.getD 17 undef=.bool true:=q0;have q1:ac.tmps.getD 22 undef=.bool false:=q1;go_simp;exact hK _ _ (Wr.refl _ _ _) (hW) rfl
      refine ⟨fun S ac wc h0 hd hc hW hk K hK=>?_,?_⟩
      · obtain ⟨q0,-⟩:=hk;have q0:ac.tmps.getD 23 undef=.bool false:=q0;go_simp;exact hK _ _ (Wr.refl _ _ _) (hW) rfl
      refine ⟨fun S w h0 hd hc hW=>⟨hW,rfl⟩,?_⟩;refine ⟨fun S w h0 hd hc hW=>⟨hW,rfl⟩,?_⟩;refine ⟨fun S w h0 hd hc hW=>⟨hW,rfl⟩,?_⟩;refine ⟨fun S ac wc h0 hd hc hW hk K hK=>?_,?_⟩
      · obtain ⟨q0,q1,-⟩:=hk;have q0:ac.tmps.getD 24 undef=.bool false:=q0;have q1:ac.tmps.getD 27 undef=undef:=q1;go_simp;exact hK _ _ (Wr.refl _ _ _) (hW) rfl
      refine ⟨fun S ac wc h0 hd hc hW hk K hK=>?_,?_⟩
      · obtain ⟨q0,-⟩:=hk;have q0:ac.tmps.getD 28 undef=.bool false:=q0;go_simp;exact hK _ _ (Wr.refl _ _ _) (hW) rfl
      trivial
  rintro vs wx ⟨hv0,hb⟩;simp only [puts,Act.put,List.setIfInBounds_toArray,List.set_cons_zero,List.set_cons_succ,hv0];have Z:Hid (Parts B b t3 w (.returned (.bool false)) wx):=Parts.no (fun hh=>G2.out (Nat.le_trans M2.out hh)) (W1.out.trans hb);clear hb;go_wp2
  go_ret;exact Z.out
theorem func_yes {B b : Nat} {w w1 : World} {kr : Int} {np cp nq cq nb cb : Nat} {pp pq pb : Option Addr} {zn zp zq t0 t1 t2 t3 : List UInt8} (H : FuncH B b w w1 kr np cp nq cq nb cb pp pq pb zn zp zq t0 t1 t2 t3) (G1 : Hid (t1.length ≤ 40000)) (G2 : Hid (t2.length ≤ 40000)) :
    Calls Tryz.prog 87 #[.pointer (some ⟨b,0,none⟩),.agg #[.int .i64 kr,.slice pp np cp,.slice pq nq cq,.slice pb nb cb]] w (Parts B b t3 w):=by
  obtain ⟨E1,I1,W1,HB,HL,X2,m2,CN,CP,CQ,CL1,CE0,CL20,M1,M2⟩:=H;have CE:=CE0 G1.out;have CL2:=CL20 G2.out;clear CE0 CL20;go_enter Tryz.func87,Tryz.ntmps87
  go_wp2_with fail
  rw [E1.out];have ST0:stW w1 B b (fun S=>(bif S 11 then (bif S 17 then (bif S 22 then some t3 else some t2) else some t1) else some t0)) (fun _=>false) w1.drew:=⟨⟨(Below.refl _ _).drew,(Lib.OthersKept.refl _ _ _).drew⟩,fun u hu=>by replace hu:some t0=some u:=hu;cases hu;exact I1.out⟩;refine wp_puts [5,6,7,8,9,10,11,12,13,14,15,16,17,18,19,20,21,22,23,24,25,26,27,28,4] (fun vs w'=>vs 4=.bool (decide (t3.length≤40000))∧(Wr B b w1 w'∧IsS B b t3 w')) ?_ ?_
  · refine wp_region_stage (PTab.E ([(0,fun v _=>v=.pointer (some ⟨b,0,none⟩)),(3,fun v _=>v=.pointer (some ⟨w.heap.size,0,none⟩)),(5,fun v _=>v=.pointer (some ⟨b,0,none⟩)),(6,fun v _=>v=.pointer (some ⟨w.heap.size,0,none⟩)),(7,fun v _=>v=.int .i64 kr),(8,fun v _=>v=.string (str zn)),(9,fun v _=>v=.pointer (some ⟨w.heap.size,1,none⟩)),(10,fun v _=>v=.slice pp np cp),(11,fun v _=>v=.string (str zp)),(12,fun v _=>v=.pointer (some ⟨w.heap.size,2,none⟩)),(13,fun v _=>v=.slice pq nq cq),(14,fun v _=>v=.string (str zq)),(16,fun v _=>v=.bool true),(17,fun v _=>v=.bool true),(18,fun v _=>v=.pointer (some ⟨w.heap.size,3,none⟩)),(19,fun v _=>v=.slice pb nb cb),(20,fun v _=>v=.pointer (some ⟨b,0,none⟩)),(21,fun v _=>v=.func (.func 122) #[.pointer (some ⟨b,0,none⟩)] #[]),(22,fun v _=>v=.bool true),(23,fun v _=>v=.bool true),(24,fun v _=>v=.bool true),(25,fun v _=>v=.pointer (some ⟨b,0,none⟩)),(27,fun v _=>v=.bool (decide (t3.length≤40000))),(28,fun v _=>v=.bool (decide (t3.length≤40000))),(4,fun v _=>v=.bool (decide (t3.length≤40000))),(15,fun v w=>SRw b 6 #[.string ⟨#[102,117,110,99]⟩,.string (str zn),.string (str zp),.string ⟨#[45,62]⟩,.string (str zq),.string ⟨#[123]⟩] v w),(26,fun v w=>SRw b 1 #[.string ⟨#[125]⟩] v w)]:PTab)) (stW w1 B b (fun S=>(bif S 11 then (bif S 17 then (bif S 22 then some t3 else some t2) else some t1) else some t0))) (Wr B b) (outs:=[0,3]) (gs:=[(12,some true),(19,some true)]) (bs:=[true,true,true,true,true,true,true,true,true,true,true,true,true,true,true,true,true,true,true,true,true,true,true,true,true]) (by kernel_rfl) (n:=29) rfl (Nat.le_refl _) (by kernel_rfl) (PTab_stable _ ⟨fun _ _ _ _ h=>h,fun _ _ _ _ h=>h,fun _ _ _ _ h=>h,fun _ _ _ _ h=>h,fun _ _ _ _ h=>h,fun _ _ _ _ h=>h,fun _ _ _ _ h=>h,fun _ _ _ _ h=>h,fun _ _ _ _ h=>h,fun _ _ _ _ h=>h,fun _ _ _ _ h=>h,fun _ _ _ _ h=>h,fun _ _ _ _ h=>h,fun _ _ _ _ h=>h,fun _ _ _ _ h=>h,fun _ _ _ _ h=>h,fun _ _ _ _ h=>h,fun _ _ _ _ h=>h,fun _ _ _ _ h=>h,fun _ _ _ _ h=>h,fun _ _ _ _ h=>h,fun _ _ _ _ h=>h,fun _ _ _ _ h=>h,fun _ _ _ _ h=>h,fun _ _ _ _ h=>h,fun v w w' hr h=>h.on hr,fun v w w' hr h=>h.on hr,trivial⟩) ?hG (ST0) ⟨rfl,rfl,trivial⟩ ?hA ?hend
    case hG=>exact ⟨fun t ht v w h=>by cases ht;exact h,fun t ht v w h=>by cases ht;exact h,trivial⟩
    case hend=>exact fun vs S w' hS hW hk=>⟨rfl,vs,rfl,hk 4 (by kernel_rfl),⟨hW.1,hW.2 t3 (by show (bif S 11 then _ else _)=_;simp only [hS 11 (by decide),hS 17 (by decide),hS 22 (by decide),cond_true])⟩⟩
    case hA =>
      refine ⟨fun S ac wc h0 hd hc hW hk K hK=>?_,?_⟩
      · obtain ⟨q0,-⟩:=hk;have q0:ac.tmps.getD 0 undef=.pointer (some ⟨b,0,none⟩):=q0;go_simp;exact hK _ _ (Wr.refl _ _ _) (hW) rfl
      refine ⟨fun S ac wc h0 hd hc hW hk K hK=>?_,?_⟩
      · obtain ⟨q0,-⟩:=hk;have q0:ac.tmps.getD 3 undef=.pointer (some ⟨w.heap.size,0,none⟩):=q0;go_simp;exact hK _ _ (Wr.refl _ _ _) (hW) rfl
      refine ⟨fun S ac wc h0 hd hc hW hk K hK=>?_,?_⟩
      · obtain ⟨q0,-⟩:=hk;have q0:ac.tmps.getD 6 undef=.pointer (some ⟨w.heap.size,0,none⟩):=q0;have c0:=cellOf (hW.1.blk X2 m2 (by decide)) 0 _ rfl;go_simp;exact hK _ _ (Wr.refl _ _ _) (hW) rfl
      refine ⟨fun S ac wc h0 hd hc hW hk K hK=>?_,?_⟩
      · obtain ⟨q0,-⟩:=hk;have q0:ac.tmps.getD 7 undef=.int .i64 kr:=q0;go_simp;refine (CN.out wc hW.1).mono ?_;rintro r7 w7 ⟨rfl,b7⟩;go_simp;exact hK _ _ (Wr.of (hW.le HB.out) b7) (hW.rd HB.out b7) rfl
      refine ⟨fun S ac wc h0 hd hc hW hk K hK=>?_,?_⟩
      · obtain ⟨q0,-⟩:=hk;have q0:ac.tmps.getD 3 undef=.pointer (some ⟨w.heap.size,0,none⟩):=q0;go_simp;exact hK _ _ (Wr.refl _ _ _) (hW) rfl
      refine ⟨fun S ac wc h0 hd hc hW hk K hK=>?_,?_⟩
      · obtain ⟨q0,-⟩:=hk;have q0:ac.tmps.getD 9 undef=.pointer (some ⟨w.heap.size,1,none⟩):=q0;have c0:=cellOf (hW.1.blk X2 m2 (by decide)) 1 _ rfl;go_simp;exact hK _ _ (Wr.refl _ _ _) (hW) rfl
      refine ⟨fun S ac wc h0 hd hc hW hk K hK=>?_,?_⟩
      · obtain ⟨q0,-⟩:=hk;have q0:ac.tmps.getD 10 undef=.slice pp np cp:=q0;go_simp;refine (CP.out wc hW.1).mono ?_;rintro r7 w7 ⟨rfl,b7⟩;go_simp;exact hK _ _ (Wr.of (hW.le HB.out) b7) (hW.rd HB.out b7) rfl
      refine ⟨fun S ac wc h0 hd hc hW hk K hK=>?_,?_⟩
      · obtain ⟨q0,-⟩:=hk;have q0:ac.tmps.getD 3 undef=.pointer (some ⟨w.heap.size,0,none⟩):=q0;go_simp;exact hK _ _ (Wr.refl _ _ _) (hW) rfl
      refine ⟨fun S ac wc h0 hd hc hW hk K hK=>?_,?_⟩
      · obtain ⟨q0,-⟩:=hk;have q0:ac.tmps.getD 12 undef=.pointer (some ⟨w.heap.size,2,none⟩):=q0;have c0:=cellOf (hW.1.blk X2 m2 (by decide)) 2 _ rfl;go_simp;exact hK _ _ (Wr.refl _ _ _) (hW) rfl
      refine ⟨fun S ac wc h0 hd hc hW hk K hK=>?_,?_⟩
      · obtain ⟨q0,-⟩:=hk;have q0:ac.tmps.getD 13 undef=.slice pq nq cq:=q0;go_simp;refine (CQ.out wc hW.1).mono ?_;rintro r7 w7 ⟨rfl,b7⟩;go_simp;exact hK _ _ (Wr.of (hW.le HB.out) b7) (hW.rd HB.out b7) rfl
      refine ⟨fun S ac wc h0 hd hc hW hk K hK=>?_,?_⟩
      · obtain ⟨q0,q1,q2,-⟩:=hk;have q0:ac.tmps.getD 8 undef=.string (str zn):=q0;have q1:ac.tmps.getD 11 undef=.string (str zp):=q1;have q2:ac.tmps.getD 14 undef=.string (str zq):=q2;simp only [Array.getD_eq_getD_getElem?] at q0 q1 q2;go_simp;exact hK _ _ (Wr.of (hW.le HB.out) (bel1 _ _)) (hW.rd HB.out (bel1 _ _)) (SRw.new (B:=0) (bs:=[]) _ (hW.1.lt HL.out))
      refine ⟨fun S ac wc h0 hd hc hW hk K hK=>?_,?_⟩
      · obtain ⟨q0,q1,-⟩:=hk;have q0:ac.tmps.getD 5 undef=.pointer (some ⟨b,0,none⟩):=q0;have q1:(fun v w=>SRw b 6 #[.string ⟨#[102,117,110,99]⟩,.string (str zn),.string (str zp),.string ⟨#[45,62]⟩,.string (str zq),.string ⟨#[123]⟩] v w) (ac.tmps.getD 15 undef) wc:=q1;generalize q1e:ac.tmps.getD 15 undef=uq1 at q1;obtain ⟨h,rfl,hne,hb⟩:=q1;have n11:S 11=false:=h0;have n12:S 12=false:=hc.no 12 11 rfl (by kernel_rfl) n11;have n17:S 17=false:=hc.no 17 12 rfl (by kernel_rfl) n12;have hI:IsS B b t0 wc:=hW.2 t0 (by show (bif S 11 then _ else _)=_;simp only [n11,cond_true,cond_false]);go_simp;refine (CL1.out h wc hI (hW.le HB.out) hb).mono ?_;rintro r7 w7 ⟨rfl,h7,b7⟩;rw [decide_eq_true G1.out];go_simp;exact hK _ _ b7 ⟨hW.1.trans b7,fun u hu=>by replace hu:(bif plus 11 S 11 then _ else _)=some u:=hu;simp only [plus,beq_self_eq_true,Bool.true_or,Bool.or_false,Bool.false_or,Nat.reduceBEq,Nat.reduceAdd,n17,cond_true,cond_false,Option.some.injEq] at hu;rw [← hu];exact h7⟩ rfl
      refine ⟨fun S ac wc h0 hd hc hW hk K hK=>?_,?_⟩
      · obtain ⟨q0,-⟩:=hk;have q0:ac.tmps.getD 16 undef=.bool true:=q0;go_simp;exact hK _ _ (Wr.refl _ _ _) (hW) rfl
      refine ⟨fun S ac wc h0 hd hc hW hk K hK=>?_,?_⟩
      · obtain ⟨q0,-⟩:=hk;have q0:ac.tmps.getD 3 undef=.pointer (some ⟨w.heap.size,0,none⟩):=q0;go_simp;exact hK _ _ (Wr.refl _ _ _) (hW) rfl
      refine ⟨fun S ac wc h0 hd hc hW hk K hK=>?_,?_⟩
      · obtain ⟨q0,-⟩:=hk;have q0:ac.tmps.getD 18 undef=.pointer (some ⟨w.heap.size,3,none⟩):=q0;have c0:=cellOf (hW.1.blk X2 m2 (by decide)) 3 _ rfl;go_simp;exact hK _ _ (Wr.refl _ _ _) (hW) rfl
      refine ⟨fun S ac wc h0 hd hc hW hk K hK=>?_,?_⟩
      · obtain ⟨q0,-⟩:=hk;have q0:ac.tmps.getD 0 undef=.pointer (some ⟨b,0,none⟩):=q0;go_simp;exact hK _ _ (Wr.refl _ _ _) (hW) rfl
      refine ⟨fun S ac wc h0 hd hc hW hk K hK=>?_,?_⟩
      · obtain ⟨q0,-⟩:=hk;have q0:ac.tmps.getD 20 undef=.pointer (some ⟨b,0,none⟩):=q0;go_simp;exact hK _ _ (Wr.refl _ _ _) (hW) rfl
      refine ⟨fun S ac wc h0 hd hc hW hk K hK=>?_,?_⟩
      · obtain ⟨q0,q1,-⟩:=hk;have q0:ac.tmps.getD 19 undef=.slice pb nb cb:=q0;have q1:ac.tmps.getD 21 undef=.func (.func 122) #[.pointer (some ⟨b,0,none⟩)] #[]:=q1;have s12:S 12=true:=hd.at 12 (by kernel_rfl);have s11:S 11=true:=hc.yes 12 11 rfl (by kernel_rfl) s12;have n17:S 17=false:=h0;have n19:S 19=false:=hc.no 19 17 rfl (by kernel_rfl) n17;have n22:S 22=false:=hc.no 22 19 rfl (by kernel_rfl) n19;have hI:IsS B b t1 wc:=hW.2 t1 (by show (bif S 11 then _ else _)=_;simp only [s11,n17,cond_true,cond_false]);go_simp;refine (CE.out wc hW.1 hI).mono ?_;rintro r7 w7 (⟨rfl,h8,b8⟩ | ⟨rfl,h8,b8⟩)
        · have b7:=h8.1.wr;have h7:=h8.1.is;go_simp;exact hK _ _ b7 ⟨hW.1.trans b7,fun u hu=>by replace hu:(bif plus 17 S 11 then _ else _)=some u:=hu;simp only [plus,beq_self_eq_true,Bool.true_or,Bool.or_false,Bool.false_or,Nat.reduceBEq,Nat.reduceAdd,s11,n22,cond_true,cond_false,Option.some.injEq] at hu;rw [← hu];exact h7⟩ rfl
        · exact absurd G2.out h8.2
      refine ⟨fun S ac wc h0 hd hc hW hk K hK=>?_,?_⟩
      · obtain ⟨q0,q1,-⟩:=hk;have q0:ac.tmps.getD 17 undef=.bool true:=q0;have q1:ac.tmps.getD 22 undef=.bool true:=q1;go_simp;exact hK _ _ (Wr.refl _ _ _) (hW) rfl
      refine ⟨fun S ac wc h0 hd hc hW hk K hK=>?_,?_⟩
      · obtain ⟨q0,-⟩:=hk;have q0:ac.tmps.getD 23 undef=.bool true:=q0;go_simp;exact hK _ _ (Wr.refl _ _ _) (hW) rfl
      refine ⟨fun S ac wc h0 hd hc hW hk K hK=>?_,?_⟩
      · obtain ⟨q0,-⟩:=hk;have q0:ac.tmps.getD 0 undef=.pointer (some ⟨b,0,none⟩):=q0;go_simp;exact hK _ _ (Wr.refl _ _ _) (hW) rfl
      refine ⟨fun S ac wc h0 hd hc hW hk K hK=>?_,?_⟩
      · clear hk;go_simp;exact hK _ _ (Wr.of (hW.le HB.out) (bel1 _ _)) (hW.rd HB.out (bel1 _ _)) (SRw.new (B:=0) (bs:=[]) _ (hW.1.lt HL.out))
      refine ⟨fun S ac wc h0 hd hc hW hk K hK=>?_,?_⟩
      · obtain ⟨q0,q1,-⟩:=hk;have q0:ac.tmps.getD 25 undef=.pointer (some ⟨b,0,none⟩):=q0;have q1:(fun v w=>SRw b 1 #[.string ⟨#[125]⟩] v w) (ac.tmps.getD 26 undef) wc:=q1;generalize q1e:ac.tmps.getD 26 undef=uq1 at q1;obtain ⟨h,rfl,hne,hb⟩:=q1;have s19:S 19=true:=hd.at 19 (by kernel_rfl);have s17:S 17=true:=hc.yes 19 17 rfl (by kernel_rfl) s19;have s12:S 12=true:=hc.yes 17 12 rfl (by kernel_rfl) s17;have s11:S 11=true:=hc.yes 12 11 rfl (by kernel_rfl) s12;have n22:S 22=false:=h0;have hI:IsS B b t2 wc:=hW.2 t2 (by show (bif S 11 then _ else _)=_;simp only [s11,s17,n22,cond_true,cond_false]);go_simp;refine (CL2.out h wc hI (hW.le HB.out) hb).mono ?_;rintro r7 w7 ⟨rfl,h7,b7⟩;go_simp;exact hK _ _ b7 ⟨hW.1.trans b7,fun u hu=>by replace hu:(bif plus 22 S 11 then _ else _)=some u:=hu;simp only [plus,beq_self_eq_true,Bool.true_or,Bool.or_false,Bool.false_or,Nat.reduceBEq,Nat.reduceAdd,s11,s17,cond_true,cond_false,Option.some.injEq] at hu;rw [← hu];exact h7⟩ rfl
      refine ⟨fun S ac wc h0 hd hc hW hk K hK=>?_,?_⟩
      · obtain ⟨q0,q1,-⟩:=hk;have q0:ac.tmps.getD 24 undef=.bool true:=q0;have q1:ac.tmps.getD 27 undef=.bool (decide (t3.length≤40000)):=q1;go_simp;exact hK _ _ (Wr.refl _ _ _) (hW) rfl
      refine ⟨fun S ac wc h0 hd hc hW hk K hK=>?_,?_⟩
      · obtain ⟨q0,-⟩:=hk;have q0:ac.tmps.getD 28 undef=.bool (decide (t3.length≤40000)):=q0;go_simp;exact hK _ _ (Wr.refl _ _ _) (hW) rfl
      trivial
  rintro vs wx ⟨hv0,hb⟩;simp only [puts,Act.put,List.setIfInBounds_toArray,List.set_cons_zero,List.set_cons_succ,hv0];have Z:Hid (Parts B b t3 w (.returned (.bool (decide (t3.length≤40000)))) wx):=Parts.of hb.2 (W1.out.trans hb.1);clear hb;go_wp2
  go_ret;exact Z.out
theorem funcH_of {B b : Nat} {w : World} {kr : Int} {np cp nq cq nb cb : Nat} {pp pq pb : Option Addr} {zn zp zq t0 t1 t2 t3 : List UInt8}
    (hI:IsS B b t0 w) (hB:B≤w.heap.size):let w1:=(w.alloc (.cells #[.int .i64 kr,.slice pp np cp,.slice pq nq cq,.slice pb nb cb] 42));Hid ((w.alloc (.cells #[.int .i64 kr,.slice pp np cp,.slice pq nq cq,.slice pb nb cb] 42))=w1)∧Hid (IsS B b t0 w1)∧Hid (Wr B b w w1)∧Hid (B≤w1.heap.size)∧Hid (b<w1.heap.size)∧Blk w1 w.heap.size #[.int .i64 kr,.slice pp np cp,.slice pq nq cq,.slice pb nb cb] 42∧w.heap.size≠b:=by
  have b1:Below w.heap.size w (w.alloc (.cells #[.int .i64 kr,.slice pp np cp,.slice pq nq cq,.slice pb nb cb] 42)):=bel1 _ _;have hl:=hI.lt;exact ⟨rfl,bld_below hI b1,Wr.of hB b1,Nat.le_trans hB b1.size,Nat.lt_of_lt_of_le hl b1.size,Blk.new _ _ _,by omega⟩
theorem func_parts {B b : Nat} {w w1 : World} {kr : Int} {np cp nq cq nb cb : Nat} {pp pq pb : Option Addr} {zn zp zq t0 t1 t2 t3 : List UInt8} (H : FuncH B b w w1 kr np cp nq cq nb cb pp pq pb zn zp zq t0 t1 t2 t3) :
    Calls Tryz.prog 87 #[.pointer (some ⟨b,0,none⟩),.agg #[.int .i64 kr,.slice pp np cp,.slice pq nq cq,.slice pb nb cb]] w (Parts B b t3 w):=by
  by_cases g1:t1.length≤40000
  · by_cases g2:t2.length≤40000
    · exact func_yes H g1 g2
    · exact func_no1 H g1 g2
  · exact func_no0 H g1
end Go.Proofs.YtalfbnllodhkiacGreatDoor
namespace Go.Proofs.YtalfbnllodhkiacGreatDoor
set_option linter.unusedSimpArgs false
set_option linter.unusedVariables false
def tsOk {n : Nat} (l : List (TT n)) : Prop := l.length ≤ 8 ∧ ∀ t ∈ l, ∃ regs : Int, regs ≤ 16 ∧ t.check regs = 0
structure MBlock.fine {n : Nat} (x : MBlock n) (funcs : Nat) : Prop where
  regs:0≤x.regs∧x.regs≤16
  params:tsOk x.params
  code:∀ y∈x.code,y.form funcs=0
  fin:∃ nb,nb≤12∧x.fin.form nb=0
structure MFunc.fine {n : Nat} (x : MFunc n) (funcs : Nat) : Prop where
  regs:0≤x.regs∧x.regs≤6
  params:tsOk x.params
  results:tsOk x.results
  blocks:∀ y∈x.blocks,y.fine funcs
theorem firstF_all {α : Type} {f : Nat → α → Int × Int} : ∀ {l : List α} {j : Nat}, (firstF f j l).1 = 0 → ∀ (i : Nat) x, l[i]? = some x → (f (j + i) x).1 = 0
  | [],j,h,i,x,hx=>by simp at hx
  | y::l,j,h,i,x,hx=>by
    rw [firstF] at h;by_cases h0:(f j y).1=0
    · rw [if_neg (by simpa using h0)] at h
      cases i with
      | zero=>simp at hx;subst hx;exact h0
      | succ i =>
        have:=firstF_all h i x (by simpa using hx)
        rwa [show j+1+i=j+(i+1) by omega] at this
    · rw [if_pos h0] at h;exact absurd h h0
theorem ts_of {n : Nat} {regs : Int} {l : List (TT n)} (hr : regs ≤ 16) (h : listC regs l = 0) : tsOk l := by
  unfold listC at h;split at h
  · cases h
  · exact ⟨by omega,fun t ht=>⟨regs,hr,firstL_zero_iff.1 h t ht⟩⟩
theorem block_of {n funcs f b : Nat} {fn : MFunc n} {x : MBlock n} (h0 : 0 ≤ fn.regs) (hb : fn.blocks.length ≤ 12) (h : (MBlock.fault funcs f fn b x).1 = 0) : x.fine funcs := by
  unfold MBlock.fault at h;split at h
  · cases h
  rename_i h1
  split at h
  · rename_i h2;exact absurd h h2
  rename_i h2
  split at h
  · cases h
  split at h
  · cases h
  split at h
  · rename_i h5;exact absurd h h5
  rename_i h5
  split at h
  · rename_i h6;exact absurd h h6
  rename_i h6
  refine ⟨by omega,ts_of (by omega) (Decidable.not_not.1 h2),fun y hy=>?_,_,hb,Decidable.not_not.1 h6⟩;obtain ⟨i,hi⟩:=List.getElem?_of_mem hy;exact firstF_all (Decidable.not_not.1 h5) i y hi
theorem func_of {n funcs f : Nat} {x : MFunc n} (h : (MFunc.fault funcs f x).1 = 0) : x.fine funcs := by
  unfold MFunc.fault at h;split at h
  · cases h
  rename_i h1
  split at h
  · rename_i h2;exact absurd h h2
  rename_i h2
  split at h
  · rename_i h3;exact absurd h h3
  rename_i h3
  split at h
  · cases h
  rename_i h4
  split at h
  · cases h
  refine ⟨by omega,ts_of (by omega) (Decidable.not_not.1 h2),ts_of (by omega) (Decidable.not_not.1 h3),fun y hy=>?_⟩;obtain ⟨i,hi⟩:=List.getElem?_of_mem hy;exact block_of (by omega) (by omega) (firstF_all h i y hi)
theorem mod_of {n : Nat} {m : List (MFunc n)} (h : (modFault m).1 = 0) : ∀ x ∈ m, x.fine m.length := by
  unfold modFault at h;split at h
  · cases h
  intro x hx;obtain ⟨i,hi⟩:=List.getElem?_of_mem hx;exact func_of (firstF_all h i x hi)
theorem form_zero {funcs : Nat} {x : MIns} (h : x.form funcs = 0) : (fieldsOf x.op).isNone = false ∧ x.formless = false ∧ (x.op = 2 → 1 ≤ x.k ∧ x.k ≤ 9) ∧ (x.args.length ≤ 8 ∨ x.op ≠ 5 ∧ x.op ≠ 14) ∧ (x.op = 14 → x.regs.length ≤ 6) := by
  unfold MIns.form at h;split at h
  · cases h
  split at h
  · cases h
  split at h
  · cases h
  split at h
  · cases h
  split at h
  · cases h
  split at h
  · cases h
  split at h
  · cases h
  rename_i h1 h2 h3 h4 h5 h6 h7
  refine ⟨Bool.eq_false_iff.2 h1,Bool.eq_false_iff.2 h2,by omega,by omega,by omega⟩
theorem end_zero {nb : Nat} {e : MEnd} (hb : nb ≤ 12) (h : e.form nb = 0) : (e.op = 1 ∨ e.op = 2 ∨ e.op = 3) ∧ (e.op ≠ 2 → e.a = 0) ∧ (e.op ≠ 3 → e.args = []) ∧ e.args.length ≤ 8 ∧ e.yes.form nb (decide (e.op ≠ 3)) = 0 ∧ e.no.form nb (decide (e.op = 2)) = 0 := by
  unfold MEnd.form at h;split at h
  · cases h
  split at h
  · cases h
  split at h
  · cases h
  split at h
  · rename_i h1;exact absurd h h1
  rename_i h1 h2 h3 h4
  refine ⟨by omega,by omega,fun hh=>List.length_eq_zero_iff.1 (by omega),by omega,Decidable.not_not.1 h4,h⟩
end Go.Proofs.YtalfbnllodhkiacGreatDoor
namespace Go.Proofs.YtalfbnllodhkiacGreatDoor
open Go.ChangeShapes Go.WideShapes Go.ChangeAt Go.RowKit Go.Shelf
set_option linter.unusedSimpArgs false
set_option linter.unusedVariables false
theorem enters_stepIns : ∀ (args : Array Value) (w : World), (callFunc 155 args).run Tryz.prog w = .ok (.enter 155 args) w := fun _ _ => by kernel_rfl
theorem enters_rblock : ∀ (args : Array Value) (w : World), (callFunc 122 args).run Tryz.prog w = .ok (.enter 122 args) w := fun _ _ => by kernel_rfl
theorem enters_func : ∀ (args : Array Value) (w : World), (callFunc 87 args).run Tryz.prog w = .ok (.enter 87 args) w := fun _ _ => by kernel_rfl
theorem hall {B : Nat} {w w' : World} (hb : Below B w w') {α : Type} {A : Lay α} {y : α} {ds : List Value} (h : A.In w (Lt B) y ds) : A.In w' All y ds := Lay.mono (Lay.lt h hb) fun _ _ _ => trivial
theorem flat_take {α : Type} {t : α → List UInt8} {l : List α} {i : Nat} {x : α} (hx : l[i]? = some x) : (l.take (i + 1)).flatMap t = (l.take i).flatMap t ++ t x := by
  rw [List.take_add_one,hx,Option.toList_some,List.flatMap_append];simp
theorem flat_le {α : Type} (t : α → List UInt8) (l : List α) (i : Nat) : ((l.take i).flatMap t).length ≤ (l.flatMap t).length := by
  have:=List.take_append_drop i l
  have e:(l.flatMap t).length=((l.take i).flatMap t).length+((l.drop i).flatMap t).length:=by
    rw [← List.length_append,← List.flatMap_append,this]
  omega
theorem parts_step {α : Type} {t : α → List UInt8} {l : List α} {B b i : Nat} {bs : List UInt8} {w wx : World} {x : α} (hx : l[i]? = some x) (hI : Sh w B b (bs ++ (l.take i).flatMap t) wx) {e : Ending} {w' : World} (h : Parts B b (bs ++ (l.take i).flatMap t ++ t x) wx e w') :
    Tells B wx (fun w'=>Sh w B b (bs++(l.take (i+1)).flatMap t) w'∧(bs++(l.take (i+1)).flatMap t).length≤40000) (fun w'=>Wr B b w w'∧¬ (bs++l.flatMap t).length≤40000) e w':=by
  have e1:bs++(l.take i).flatMap t++t x=bs++(l.take (i+1)).flatMap t:=by rw [flat_take hx,List.append_assoc]
  rw [e1] at h;rcases h with ⟨rfl,h,hb⟩ | ⟨rfl,h,hb⟩
  · exact Tells.yes ⟨⟨h.1.is,hI.wr.trans h.1.wr⟩,h.2⟩ hb
  · refine Tells.no ⟨hI.wr.trans h.1,fun hh=>h.2 ?_⟩ hb
    have:=flat_le t l (i+1)
    rw [List.length_append] at hh ⊢;omega
theorem parts_end {α : Type} {t : α → List UInt8} {l : List α} {B b : Nat} {bs : List UInt8} {w : World} {e : Ending} {w' : World} (h : Tells B w (fun w' => Sh w B b (bs ++ (l.take l.length).flatMap t) w' ∧ (bs ++ (l.take l.length).flatMap t).length ≤ 40000) (fun w' => Wr B b w w' ∧ ¬ (bs ++ l.flatMap t).length ≤ 40000) e w') : Parts B b (bs ++ l.flatMap t) w e w' := by
  rw [List.take_length] at h;exact h
theorem Lined.parts {B b : Nat} {t : List UInt8} {w : World} {e : Ending} {w' : World} (h : Lined B b t w e w') : Parts B b t w e w' := by
  obtain ⟨rfl,h1,h2⟩:=h;exact Parts.of h1 h2
theorem block_any {n B b : Nat} {bs : List UInt8} {w : World} (x : MBlock n) (cs : List Value) (hI : IsS B b bs w) (hB : B ≤ w.heap.size) (hbs : bs.length ≤ 40000) (h0 : (blockL n).In w (Lt B) x cs) (hp : PowB B w) (hs : x.small) (ht : tinyTs x.params) (hc : ∀ y ∈ x.code, (fieldsOf y.op).isNone = false) (hf : x.fin.op = 1 ∨ x.fin.op = 2 ∨ x.fin.op = 3) :
    Calls Tryz.prog 122 #[.pointer (some ⟨b,0,none⟩),.agg cs.toArray] w (Parts B b (bs++x.txt) w):=by
  obtain ⟨a1,k1,a2,k2,es,rfl,h1,h2,he,hr⟩:=block_form h0;have he0:=he;have hel:=end_len he hs.2.2.1;have htl:=typs_len h1 ht hs.2.1.1;obtain ⟨e1,e2,a3,k3,rfl,hy,hno,-,-⟩:=end_form he;obtain ⟨a4,k4,a5,k5,rfl,-,-,-⟩:=to_form hy;obtain ⟨a6,k6,a7,k7,rfl,-,-,-⟩:=to_form hno;clear he hy hno;simp only [List.cons_append,List.nil_append] at he0 ⊢;have hr0:=Lib.itoa_length_le _ hr.1 hr.2;have hW:∀ {cc:Array Value} {wx:World},Wr B b ((w.alloc (.cells #[.pointer (some ⟨b,0,none⟩)] 136)).alloc (.cells cc 52)) wx→Below B w wx:=fun h=>((bel2 _ _ _).mono hB).trans h.below;obtain ⟨q1,q2,q3,q4,q5,q6,q7,q8,q9⟩:=blockH_of (kr:=x.regs) (np:=x.params.length) (cp:=k1) (nc:=x.code.length) (cc:=k2) (pp:=a1) (pc:=a2) (e0:=x.fin.op) (e1:=x.fin.a) (e2:=x.fin.yes.block) (pe3:=a4) (e3:=x.fin.yes.regs.length) (ce3:=k4) (pe4:=a5) (e4:=x.fin.yes.args.length) (ce4:=k5) (e5:=x.fin.no.block) (pe6:=a6) (e6:=x.fin.no.regs.length) (ce6:=k6) (pe7:=a7) (e7:=x.fin.no.args.length) (ce7:=k7) (pe8:=a3) (e8:=x.fin.args.length) (ce8:=k3) (zn:=[]) (zp:=[]) (ze:=[]) (t1:=[]) (t2:=[]) (t3:=[]) (t4:=[]) hI hB
  refine block_parts (BlockH.mk (t0:=bs) (t1:=bs++x.head) (t2:=bs++x.head++codeT x.code) (t3:=bs++x.head++codeT x.code++lineT x.fin.txt) (t4:=bs++x.txt) (zn:=Lib.itoa x.regs) (zp:=typsT x.params) (ze:=x.fin.txt) q1 q2 q3 q4 q5 q6 q7 q8 q9
    (fun wx hw=>number_any _ hr wx (hp wx (hW hw)))
    (fun wx hw=>typeList_any _ _ _ wx (hall (hW hw) h1) ht (hp wx (hW hw)) (by have:=hs.2.1.1;omega))
    (fun wx hw=>endText_any x.fin hf _ wx (hall (hW hw) he0) (hp wx (hW hw)) hs.2.2.1)
    (fun h wx hi hb hk=>?_) (fun g1 wx hw hi=>?_) (fun g2 wx hi hb=>step_any hi hb g2 (by omega)) (fun g3 h wx hi hb hk=>?_) ?_ ?_ ?_)
  · have:=line_any (bk:=h) (k:=4) (xs:=[wBlock,Lib.itoa x.regs,typsT x.params,[123]]) hi hb hk rfl (by decide) hbs (by rw [join_four];simp [wBlock];omega)
    rw [join_four] at this;rw [show x.head=wBlock++([32]++(Lib.itoa x.regs++([32]++(typsT x.params++([32]++[123])))))++[10] by simp [MBlock.head,nT]];exact this
  · have hwx:=hW hw;have hBx:B≤wx.heap.size:=Nat.le_trans hB hwx.size;have hbx:Blk wx w.heap.size #[.pointer (some ⟨b,0,none⟩)] 136:=hw.blk (Blk.new1 _ _ _ _ _) (by have:=hI.lt;omega) (by decide)
    have:=everyI_any (B:=B) (l:=x.code) (F:=155) (fs:=#[]) (cs:=#[.pointer (some ⟨w.heap.size,0,none⟩)]) (fun i wy=>Sh wx B b (bs++x.head++(x.code.take i).flatMap fun y=>lineT y.txt) wy∧(bs++x.head++(x.code.take i).flatMap fun y=>lineT y.txt).length≤40000) (fun wy=>Wr B b wx wy∧¬ (bs++x.head++x.code.flatMap fun y=>lineT y.txt).length≤40000) enters_stepIns (Lay.lt h2 hwx) hBx
      ⟨by simpa using Sh.start hi,by simpa using g1⟩ (fun i wy wz h hb=>⟨h.1.below hBx hb,h.2⟩) (fun i y ds wy hy hb hd hh=>?_) hs.1
    · exact this.mono fun e w' h=>parts_end h
    · have hm:=List.mem_of_getElem? hy;have hd':insL.In wy All y ds:=Lay.mono hd fun _ _ _=>trivial
      have:=stepIns_any y ds hh.1.is (hh.1.le hBx) hh.2 (hh.1.wr.blk hbx (by have:=hI.lt;omega) (by decide)) hd' (hp wy (hwx.trans hb)) (hs.2.2.2 y hm) (hc y hm) (by have:=ins_len hd' (hs.2.2.2 y hm);omega)
      exact this.mono fun e w' h=>parts_step hy hh.1 h.parts
  · have:=line_any (bk:=h) (k:=1) (xs:=[[125]]) hi hb hk rfl (by decide) g3 (by rw [join_single];simp)
    rw [join_single] at this;rw [show bs++x.txt=bs++x.head++codeT x.code++lineT x.fin.txt++([125]++[10]) by simp [MBlock.txt]];exact this
  · show _≤_;simp [MBlock.txt]
  · show _≤_;simp [MBlock.txt]
  · show _≤_;simp [MBlock.txt]
theorem func_any {n funcs B b : Nat} {bs : List UInt8} {w : World} (x : MFunc n) (cs : List Value) (hI : IsS B b bs w) (hB : B ≤ w.heap.size) (hbs : bs.length ≤ 40000) (h0 : (funcL n).In w (Lt B) x cs) (hp : PowB B w) (hs : x.small) (ht : x.tiny) (hf : x.fine funcs) :
    Calls Tryz.prog 87 #[.pointer (some ⟨b,0,none⟩),.agg cs.toArray] w (Parts B b (bs++x.txt) w):=by
  obtain ⟨a1,k1,a2,k2,a3,k3,rfl,h1,h2,h3,hr⟩:=func_form h0;have htl:=typs_len h1 ht.1 hs.2.1.1;have htl2:=typs_len h2 ht.2.1 hs.2.2.1.1;have hr0:=Lib.itoa_length_le _ hr.1 hr.2;have hW:∀ {cc:Array Value} {wx:World},Wr B b (w.alloc (.cells cc 42)) wx→Below B w wx:=fun h=>((bel1 _ _).mono hB).trans h.below;obtain ⟨q1,q2,q3,q4,q5,q6,q7⟩:=funcH_of (kr:=x.regs) (np:=x.params.length) (cp:=k1) (pp:=a1) (nq:=x.results.length) (cq:=k2) (pq:=a2) (nb:=x.blocks.length) (cb:=k3) (pb:=a3) (zn:=[]) (zp:=[]) (zq:=[]) (t1:=[]) (t2:=[]) (t3:=[]) hI hB
  refine func_parts (FuncH.mk (t0:=bs) (t1:=bs++x.head) (t2:=bs++x.head++blocksT x.blocks) (t3:=bs++x.txt) (zn:=Lib.itoa x.regs) (zp:=typsT x.params) (zq:=typsT x.results) q1 q2 q3 q4 q5 q6 q7
    (fun wx hw=>number_any _ hr wx (hp wx (hW hw)))
    (fun wx hw=>typeList_any _ _ _ wx (hall (hW hw) h1) ht.1 (hp wx (hW hw)) (by have:=hs.2.1.1;omega))
    (fun wx hw=>typeList_any _ _ _ wx (hall (hW hw) h2) ht.2.1 (hp wx (hW hw)) (by have:=hs.2.2.1.1;omega))
    (fun h wx hi hb hk=>?_) (fun g1 wx hw hi=>?_) (fun g3 h wx hi hb hk=>?_) ?_ ?_)
  · have:=line_any (bk:=h) (k:=6) (xs:=[wFunc,Lib.itoa x.regs,typsT x.params,[45,62],typsT x.results,[123]]) hi hb hk rfl (by decide) hbs (by rw [join_six];simp [wFunc];omega)
    rw [join_six] at this;rw [show x.head=wFunc++([32]++(Lib.itoa x.regs++([32]++(typsT x.params++([32]++([45,62]++([32]++(typsT x.results++([32]++[123])))))))))++[10] by simp [MFunc.head,nT]];exact this
  · have hwx:=hW hw;have hBx:B≤wx.heap.size:=Nat.le_trans hB hwx.size
    have:=everyB_any (B:=B) (l:=x.blocks) (F:=122) (fs:=#[.pointer (some ⟨b,0,none⟩)]) (cs:=#[]) (fun i wy=>Sh wx B b (bs++x.head++(x.blocks.take i).flatMap MBlock.txt) wy∧(bs++x.head++(x.blocks.take i).flatMap MBlock.txt).length≤40000) (fun wy=>Wr B b wx wy∧¬ (bs++x.head++x.blocks.flatMap MBlock.txt).length≤40000) enters_rblock (Lay.lt h3 hwx) hBx
      ⟨by simpa using Sh.start hi,by simpa using g1⟩ (fun i wy wz h hb=>⟨h.1.below hBx hb,h.2⟩) (fun i y ds wy hy hb hd hh=>?_) hs.1
    · exact this.mono fun e w' h=>parts_end h
    · have hm:=List.mem_of_getElem? hy;have hfy:=hf.blocks y hm;obtain ⟨nb,hnb,hfin⟩:=hfy.fin
      have:=block_any y ds hh.1.is (hh.1.le hBx) hh.2 hd (hp.on (hwx.trans hb)) (hs.2.2.2 y hm) (ht.2.2 y hm) (fun z hz=>(form_zero (hfy.code z hz)).1) (end_zero hnb hfin).1
      exact this.mono fun e w' h=>parts_step hy hh.1 h
  · have:=line_any (bk:=h) (k:=1) (xs:=[[125]]) hi hb hk rfl (by decide) g3 (by rw [join_single];simp)
    rw [join_single] at this;rw [show bs++x.txt=bs++x.head++blocksT x.blocks++([125]++[10]) by simp [MFunc.txt]];exact this
  · show _≤_;simp [MFunc.txt]
  · show _≤_;simp [MFunc.txt]
theorem module_any {n B b : Nat} {w : World} (m : List (MFunc n)) (p : Option Addr) (c : Nat) (hI : IsS B b [] w) (hB : B ≤ w.heap.size) (h0 : (modL n).In w (Lt B) m [.slice p m.length c]) (hp : PowB B w) (hs : msmall m) (ht : ∀ x ∈ m, x.tiny) (hf : ∀ x ∈ m, x.fine m.length) :
    Calls Tryz.prog 46 #[.pointer (some ⟨b,0,none⟩),.agg #[.slice p m.length c]] w (Parts B b (modTxt m) w):=by
  have b1:Below w.heap.size w (w.alloc (.cells #[.slice p m.length c] 25)):=bel1 _ _
  have C:Hid (Calls Tryz.prog 80 #[.slice p m.length c,.func (.func 87) #[.pointer (some ⟨b,0,none⟩)] #[]] (w.alloc (.cells #[.slice p m.length c] 25)) (Parts B b (modTxt m) w)):=by
    have hBx:B≤(w.alloc (.cells #[.slice p m.length c] 25)).heap.size:=Nat.le_trans hB b1.size
    have:=everyF_any (B:=B) (l:=m) (F:=87) (fs:=#[.pointer (some ⟨b,0,none⟩)]) (cs:=#[]) (fun i wy=>Sh (w.alloc (.cells #[.slice p m.length c] 25)) B b ([]++(m.take i).flatMap MFunc.txt) wy∧([]++(m.take i).flatMap MFunc.txt).length≤40000) (fun wy=>Wr B b (w.alloc (.cells #[.slice p m.length c] 25)) wy∧¬ ([]++m.flatMap MFunc.txt).length≤40000) enters_func (Lay.lt h0 (b1.mono hB)) hBx
      ⟨by simpa using Sh.start (bld_below hI b1),by simp⟩ (fun i wy wz h hb=>⟨h.1.below hBx hb,h.2⟩) (fun i y ds wy hy hb hd hh=>?_) hs.1
    · exact this.mono fun e w' h=>(parts_end h).pre (Wr.of hB b1)
    · have hm:=List.mem_of_getElem? hy
      have:=func_any y ds hh.1.is (hh.1.le hBx) hh.2 hd (hp.on ((b1.mono hB).trans hb)) (hs.2 y hm) (ht y hm) (hf y hm)
      exact this.mono fun e w' h=>parts_step hy hh.1 h
  generalize modTxt m=t at C ⊢;clear b1 hI hB h0 hp hs ht hf;have c0:(w.alloc (.cells #[.slice p m.length c] 25)).cell? ⟨w.heap.size,0,none⟩=some (.slice p m.length c):=cellOf (blockNew w _ _) 0 _ rfl;go_enter Tryz.func46,Tryz.ntmps46
  go_wp2_with fail
  refine C.out.mono ?_;intro e w2 h2;have Z:Hid (Parts B b t w e w2):=h2;rcases h2 with ⟨rfl,-,-⟩ | ⟨rfl,-,-⟩
  · clear C;go_wp2
    go_ret;exact Z.out
  · clear C;go_wp2
    go_ret;exact Z.out
end Go.Proofs.YtalfbnllodhkiacGreatDoor
