import Derived.Test.YtjodmledadbgeacGreatDoorP2
import Derived.Deep.DeepCutAuto
import Derived.Deep.CutBlock
set_option maxHeartbeats 16000000
set_option maxRecDepth 100000
namespace Go.Proofs.YtjodmledadbgeacGreatDoor
open Go.RowKit
set_option linter.unusedVariables false
structure Fr (n : Nat) (a : Act) (L : List (Tmp × Value)) : Prop where
  size:a.tmps.size=n
  defers:a.defers=[]
  sl:∀ t v,L.lookup t=some v→a.tmps.getD t undef=v
section
variable {P : Program} {n : Nat} {a : Act} {L : List (Tmp × Value)} {w w' : World} {Q : Exit → Act → World → Prop} {ops : Array Oper} {o : Oper} {rest : List Oper} {t : Tmp} {v : Value}
theorem Fr.put (h : Fr n a L) (ht : Nat.blt t n = true) : Fr n (a.put (some t) v) ((t, v) :: L) := by
  have ht':t < n:=by simpa [Nat.blt,Nat.ble_eq,Nat.succ_le_iff] using ht
  refine ⟨by simpa [Act.put] using h.size,h.defers,fun s u hs=>?_⟩
  by_cases e:s=t
  · subst e
    simp at hs
    subst hs
    have:s < a.tmps.size:=by rw [h.size];exact ht'
    simp [Act.put,Array.getD,this]
  · have e':(s == t)=false:=by simpa using e
    simp only [List.lookup_cons,e'] at hs
    have:=h.sl s u hs
    have hne:t≠s:=fun x=>e x.symm
    rw [Array.getD_eq_getD_getElem?] at this ⊢
    simp only [Act.put]
    rw [Array.getElem?_setIfInBounds_ne hne]
    exact this
theorem Fr.cons (h : Fr n a L) (e : a.tmps.getD t undef = v) : Fr n a ((t, v) :: L) := by
  refine ⟨h.size,h.defers,fun s u hs=>?_⟩
  by_cases e':s=t
  · subst e'
    simp at hs
    subst hs
    exact e
  · have e'':(s == t)=false:=by simpa using e'
    simp only [List.lookup_cons,e''] at hs
    exact h.sl s u hs
theorem Fr.nil (h : Fr n a L) : Fr n a [] := ⟨h.size, h.defers, fun s u hs => by simp at hs⟩
theorem Fr.keep {L' : List (Tmp × Value)} (h : Fr n a L) (k : Fr n a L') (e : L.lookup t = some v) : Fr n a ((t, v) :: L') := k.cons (h.sl t v e)
theorem fr_region {id : Nat} {l : List Oper} (h : ∀ ops : Array Oper, (∀ g : Nat, (ops[g]?).bind (fun o : Oper => o.dst) = (l[g]?).bind (fun o : Oper => o.dst)) → wpList P ops Q l a w) : (Code.region id l.toArray false).wp P Q a w :=
  wp_region_lit (h _ fun g=>by simp)
theorem fr_pure (hF : Fr n a L) (hd : o.dst = some t) (hg : o.guard = none) (ht : Nat.blt t n = true)
    (h:∀ K:Act→World→Prop,K (a.put (some t) v) w'→o.wp P a w K Q)
    (k:∀ a',Fr n a' ((t,v)::L)→wpList P ops Q rest a' w'):wpList P ops Q (o::rest) a w :=
  wpList_plain hg fun K hK=>h K (hK _ _ (k _ (hF.put ht)))
theorem fr_skip (hF : Fr n a L) (hd : o.dst = none) (hg : o.guard = none)
    (h:∀ K:Act→World→Prop,K a w'→o.wp P a w K Q)
    (k:wpList P ops Q rest a w'):wpList P ops Q (o::rest) a w :=
  wpList_plain hg fun K hK=>h K (hK _ _ k)
theorem wanted_g {g tg : Nat} {want : Bool} {u : Value} (hF : Fr n a L) (hg : o.guard = some (g, want)) (hs : (ops[g]?).bind (fun o : Oper => o.dst) = some tg) (htg : Nat.blt tg n = true) (hv : L.lookup tg = some u) :
    Region.wanted o (yielded ops a.tmps)=(match u with | .bool b=>b == want | _=>false):=by
  have htg':tg < a.tmps.size:=by rw [hF.size];simpa [Nat.blt,Nat.ble_eq,Nat.succ_le_iff] using htg
  have:=hF.sl tg u hv
  have hx:a.tmps[tg]?=some u:=by rw [← this];simp [Array.getD,htg']
  simp only [Region.wanted,hg,yielded,hs,Option.bind_some,hx]
  cases u <;> simp
theorem fr_pure_g {g tg : Nat} {want : Bool} (hF : Fr n a L) (hd : o.dst = some t) (hg : o.guard = some (g, want)) (hs : (ops[g]?).bind (fun o : Oper => o.dst) = some tg) (htg : Nat.blt tg n = true) (hv : L.lookup tg = some (.bool want)) (ht : Nat.blt t n = true)
    (h:∀ K:Act→World→Prop,K (a.put (some t) v) w'→o.wp P a w K Q)
    (k:∀ a',Fr n a' ((t,v)::L)→wpList P ops Q rest a' w'):wpList P ops Q (o::rest) a w :=
  wpList_step fun K hK=>by
    rw [wanted_g hF hg hs htg hv]
    simp only [beq_self_eq_true,if_true]
    exact h K (hK _ _ (k _ (hF.put ht)))
theorem fr_off {g tg : Nat} {want : Bool} {u : Value} (hF : Fr n a L) (hd : o.dst = some t) (hg : o.guard = some (g, want)) (hs : (ops[g]?).bind (fun o : Oper => o.dst) = some tg) (htg : Nat.blt tg n = true) (hv : L.lookup tg = some u) (hu : (match u with | .bool b => b == want | _ => false) = false) (ht : Nat.blt t n = true)
    (k:∀ a',Fr n a' ((t,undef)::L)→wpList P ops Q rest a' w):wpList P ops Q (o::rest) a w :=
  wpList_step fun K hK=>by
    rw [wanted_g hF hg hs htg hv,hu]
    simp only [Bool.false_eq_true,if_false,hd]
    exact hK _ _ (k _ (hF.put ht))
theorem fr_cond {x y : Code} {b : Bool} (hF : Fr n a L) (hv : L.lookup t = some (.bool b)) (ht : b = true → x.wp P Q a w) (hf : b = false → y.wp P Q a w) : (Code.cond (.tmp t) x y).wp P Q a w :=
  wp_cond_split (hF.sl t _ hv) ht hf
theorem fr_true {x y : Code} (hF : Fr n a L) (hv : L.lookup t = some (.bool true)) (h : x.wp P Q a w) : (Code.cond (.tmp t) x y).wp P Q a w := wp_cond_true (hF.sl t _ hv) h
theorem fr_false {x y : Code} (hF : Fr n a L) (hv : L.lookup t = some (.bool false)) (h : y.wp P Q a w) : (Code.cond (.tmp t) x y).wp P Q a w := wp_cond_false (hF.sl t _ hv) h
theorem wpList_append {l1 l2 : List Oper} (h : wpList P ops (Exit.then (fun a w => wpList P ops Q l2 a w) Q) l1 a w) : wpList P ops Q (l1 ++ l2) a w := by
  induction l1 generalizing a w with
  | nil=>exact h
  | cons o l ih =>
    simp only [List.cons_append]
    unfold wpList at h ⊢
    split
    · rename_i hw
      rw [if_pos hw] at h
      refine h.imp (fun h=>Oper.wp_mono (fun a w h'=>ih h') ?_) id
      unfold Oper.wp at *
      generalize (execOp a.eval o).run P w=r at *
      cases r with
      | ok n w'=>cases n <;> exact h
      | halt x w'=>cases x <;> exact h
    · rename_i hw
      rw [if_neg hw] at h
      exact ih h
theorem cut_k {l : List Oper} (k : Nat) (Φ : Act → World → Prop) (h1 : ∀ K : Act → World → Prop, (∀ a w, Φ a w → K a w) → wpList P ops (Exit.then K Q) (l.take k) a w) (h2 : ∀ a w, Φ a w → wpList P ops Q (l.drop k) a w) : wpList P ops Q l a w := by
  have:=wpList_append (l1:=l.take k) (l2:=l.drop k) (h1 _ h2)
  rwa [List.take_append_drop] at this
theorem of_then_ret {K : Act → World → Prop} (h : Q .ret a w) : Exit.then K Q .ret a w := h
theorem of_block_ret {id : Nat} (h : Q .ret a w) : Exit.inBlock id Q .ret a w := h
open Classical in
theorem fr_loop {c : Code} (I : Nat → Act → World → Prop) (q : Nat) (h0 : I q a w)
    (round:∀ q a w,I q a w→∀ K:Act→World→Prop,(∀ a' w' q',q' < q→I q' a' w'→K a' w')→c.wp P (Exit.then K Q) a w):(Code.loop c).wp P Q a w:=by
  have hex:∀ {a w},(∃ q,I q a w)→∃ q,I q a w∧∀ r,I r a w→q≤r:=by
    rintro a w ⟨q,hq⟩
    induction q using Nat.strongRecOn with
    | _ q ih =>
      by_cases hl:∃ r,r < q∧I r a w
      · obtain ⟨r,hr,hi⟩:=hl
        exact ih r hr hi
      · exact ⟨q,hq,fun r hr=>Nat.le_of_not_lt fun h=>hl ⟨r,h,hr⟩⟩
  refine wp_loop (fun a w=>∃ q,I q a w) (fun a w=>if h:∃ q,I q a w then Classical.choose (hex h) else 0) ⟨q,h0⟩ fun a w hI=>?_
  have hs:=Classical.choose_spec (hex hI)
  refine round _ a w hs.1 _ fun a' w' q' hq' hI'=>⟨⟨q',hI'⟩,?_⟩
  have h':∃ q,I q a' w':=⟨q',hI'⟩
  have hs':=Classical.choose_spec (hex h')
  rw [dif_pos h',dif_pos hI]
  exact Nat.lt_of_le_of_lt (hs'.2 q' hI') hq'
theorem fr_enter {f : FuncId} {fn : Func} {c : Code} {args : Array Value} {R : Ending → World → Prop} (hf : P.funcs[f]? = some fn) (hb : fn.body = some c) (hn : fn.ntmps = n) (ha : Nat.ble args.size n = true)
    (h:∀ a,Fr n a (args.toList.zipIdx.map fun x=>(x.2,x.1))→c.wp P (bodyPost P fn R) a w):Calls P f args w R:=by
  have ha':args.size≤n:=by simpa [Nat.ble_eq] using ha
  refine calls_of_wp hf hb (h _ ⟨by simp [hn];omega,rfl,fun t v hl=>?_⟩)
  have:∀ (l:List Value) (k t:Nat),((l.zipIdx k).map fun x=>(x.2,x.1)).lookup t=some v→k≤t∧l[t - k]?=some v:=by
    intro l
    induction l with
    | nil=>intro k t h;simp at h
    | cons x l ih =>
      intro k t h
      by_cases e:t=k
      · subst e;simp at h;subst h;simp
      · have e':(t == k)=false:=by simpa using e
        simp only [List.zipIdx_cons,List.map_cons,List.lookup_cons,e'] at h
        obtain ⟨h1,h2⟩:=ih (k+1) t h
        refine ⟨by omega,?_⟩
        have:t - k=(t - (k+1))+1:=by omega
        rw [this]
        simpa using h2
  obtain ⟨_,h2⟩:=this _ 0 t hl
  simp at h2
  have hlt:t < args.size:=(Array.getElem?_eq_some_iff.1 h2).1
  rw [Array.getD_eq_getD_getElem?,Array.getElem?_append_left hlt,h2]
  rfl
end
section
variable {P : Program} {Q : Exit → Act → World → Prop}
theorem wp_then {o : Oper} {a : Act} {w : World} {K N : Act → World → Prop} (h : o.wp P a w K (Exit.then N Q)) : o.wp P a w K Q := by
  unfold Oper.wp at *
  generalize (execOp a.eval o).run P w=r at *
  cases r with
  | ok n w'=>cases n <;> exact h
  | halt x w'=>cases x <;> exact h
def waitsB (k : Nat) (o : Oper) : Bool := (List.range k).all fun j => o.after.any fun e => Region.binds .any e && e.on == j
def tailB (k : Nat) : List Oper → Bool
  | []=>true
  | o::l=>waitsB k o && tailB (k+1) l
def guardsB (n : Nat) (l : List Oper) : Bool := l.all fun o => match o.guard with | some (g, _) => decide (g < n) | none => true
theorem tail_at : ∀ (l : List Oper) (k i : Nat) (o : Oper), tailB k l = true → l[i]? = some o → ∀ j, j < k + i → ∃ e ∈ o.after, Region.binds .any e = true ∧ e.on = j
  | [],_,_,_,_,h=>by simp at h
  | x::l,k,0,o,h,ho=>by
    simp at ho;subst ho
    simp only [tailB,Bool.and_eq_true] at h
    intro j hj
    have:=List.all_eq_true.1 h.1 j (by simpa using hj)
    obtain ⟨q,hq,he⟩:=Array.any_eq_true.1 this
    simp only [Bool.and_eq_true,beq_iff_eq] at he
    exact ⟨_,Array.getElem_mem hq,he.1,he.2⟩
  | x::l,k,i+1,o,h,ho=>by
    simp only [tailB,Bool.and_eq_true] at h
    simp at ho
    intro j hj
    exact tail_at l (k+1) i o h.2 ho j (by omega)
theorem ready_mem {ops : Array Oper} {listed : Array Bool} {i : Nat} : i ∈ Region.ready .any ops listed ↔ i < ops.size ∧ listed.getD i true = false ∧ ∃ o, ops[i]? = some o ∧ ∀ e ∈ o.after, Region.binds .any e = true → listed.getD e.on false = true := by
  unfold Region.ready
  rw [List.mem_filter]
  simp only [List.mem_range,Bool.and_eq_true,Bool.not_eq_true']
  refine and_congr_right fun h1=>and_congr_right fun h2=>?_
  rw [Array.getElem?_eq_getElem h1]
  simp only [Option.map_some,Option.getD_some,Option.some.injEq,exists_eq_left']
  rw [Array.all_eq_true_iff_forall_mem]
  refine forall_congr' fun e=>forall_congr' fun he=>?_
  cases Region.binds .any e <;> simp
theorem wpAny_seq {l : List Oper} (hb : backB 0 l = true) {k0 : Nat} (ht : tailB k0 (l.drop k0) = true) : ∀ (m k fuel : Nat) (listed : Array Bool) (a : Act) (w : World), k + m = l.length → k0 ≤ k → m ≤ fuel → listed.size = l.length →
    (∀ j,j < l.length→listed.getD j false=decide (j < k))→wpList P l.toArray Q (l.drop k) a w→wpAny P .any l.toArray Q fuel listed a w:=by
  intro m
  induction m with
  | zero =>
    intro k fuel listed a w hk _ _ hs hl h
    have hr:Region.ready .any l.toArray listed=[]:=by
      rw [List.eq_nil_iff_forall_not_mem]
      intro i hi
      obtain ⟨h1,h2,_⟩:=ready_mem.1 hi
      have h1':i < l.length:=by simpa using h1
      have:=hl i h1'
      have hd:decide (i < k)=true:=by simp;omega
      rw [hd] at this
      have hi':i < listed.size:=by omega
      simp [Array.getD,hi'] at this h2
      rw [this] at h2;cases h2
    have hq:Q .normal a w:=by
      rw [List.drop_of_length_le (by omega)] at h
      exact h
    cases fuel with
    | zero=>exact ⟨hr,hq⟩
    | succ fuel=>exact ⟨fun _=>hq,fun i hi=>by rw [hr] at hi;cases hi⟩
  | succ m ih =>
    intro k fuel listed a w hk hk0 hf hs hl h
    have hlt:k < l.length:=by omega
    obtain ⟨fuel,rfl⟩:∃ f,fuel=f+1:=⟨fuel - 1,by omega⟩
    have hks:k < listed.size:=by omega
    have hkr:k ∈ Region.ready .any l.toArray listed:=by
      refine ready_mem.2 ⟨by simpa using hlt,?_,l[k],by simp [hlt],fun e he hbd=>?_⟩
      · have:=hl k hlt
        simp [Array.getD,hks] at this ⊢;exact this
      · have:=back_at l 0 k l[k] hb (by simp [hlt]) e he hbd
        rw [hl _ (by omega)];simp;omega
    refine ⟨fun hr=>absurd (hr ▸ hkr) (by simp),fun i hi=>?_⟩
    have hik:i=k:=by
      obtain ⟨h1,h2,o,ho,h3⟩:=ready_mem.1 hi
      have h1':i < l.length:=by simpa using h1
      have hnl:listed.getD i false=false:=by
        have hi':i < listed.size:=by omega
        simp [Array.getD,hi'] at h2 ⊢;exact h2
      have hge:k≤i:=by
        have:=hl i h1'
        rw [hnl] at this
        have:¬ i < k:=by simpa using this.symm
        omega
      rcases Nat.eq_or_lt_of_le hge with e | hgt
      · exact e.symm
      · exfalso
        obtain ⟨e,he,hbd,hon⟩:=tail_at (l.drop k0) k0 (i - k0) o ht (by rw [List.getElem?_drop,show k0+(i - k0)=i by omega];simpa using ho) k (by omega)
        have:=h3 e he hbd
        rw [hon,hl k hlt] at this
        simp at this
    subst hik
    rw [List.drop_eq_getElem_cons hlt] at h
    have ho:l.toArray[i]?=some l[i]:=by simp [hlt]
    have next:∀ a w,wpList P l.toArray Q (l.drop (i+1)) a w→wpAny P .any l.toArray Q fuel (listed.setIfInBounds i true) a w:=fun a w h' =>
      ih (i+1) fuel _ a w (by omega) (by omega) (by omega) (by simpa using hs) (fun j hj=>by
        by_cases e:j=i
        · subst e;simp [Array.getD,hks]
        · have hne:i≠j:=fun x=>e x.symm
          rw [Array.getD_eq_getD_getElem?,Array.getElem?_setIfInBounds_ne hne,← Array.getD_eq_getD_getElem?,hl j hj]
          simp;omega) h'
    unfold wpOp
    rw [ho]
    simp only
    unfold wpList at h
    split
    · rename_i hw
      rw [if_pos hw] at h
      exact h.imp (Oper.wp_mono next) id
    · rename_i hw
      rw [if_neg hw] at h
      exact next _ _ h
theorem wpAny_tail {l l2 : List Oper} (hb : backB 0 (l ++ l2) = true) (hg : guardsB l.length l = true) (ht : tailB l.length l2 = true) : ∀ (fuel : Nat) (listed : Array Bool) (a : Act) (w : World), listed.size = l.length →
    wpAny P .any l.toArray (Exit.then (fun a w=>wpList P (l++l2).toArray Q l2 a w) Q) fuel listed a w →
    wpAny P .any (l++l2).toArray Q (fuel+l2.length) (listed++Array.replicate l2.length false) a w:=by
  have hbl:∀ (i:Nat) (o:Oper),l[i]?=some o→∀ e ∈ o.after,Region.binds .any e=true→e.on < i:=fun i o ho e he hbd=>by
    have hi:i < l.length:=(List.getElem?_eq_some_iff.1 ho).1
    have:=back_at (l++l2) 0 i o hb (by rw [List.getElem?_append_left hi];exact ho) e he hbd
    omega
  have get1:∀ (listed:Array Bool) (j:Nat) (d:Bool),listed.size=l.length→j < l.length→(listed++Array.replicate l2.length false).getD j d=listed.getD j d:=fun listed j d hs hj=>by
    rw [Array.getD_eq_getD_getElem?,Array.getD_eq_getD_getElem?,Array.getElem?_append_left (by omega)]
  have get2:∀ (listed:Array Bool) (j:Nat),listed.size=l.length→l.length≤j→(listed++Array.replicate l2.length false).getD j false=false:=fun listed j hs hj=>by
    rw [Array.getD_eq_getD_getElem?,Array.getElem?_append_right (by omega)]
    cases h:(Array.replicate l2.length false)[j - listed.size]? with
    | none=>rfl
    | some b =>
      have:=Array.mem_of_getElem? h
      simp at this
      simp [this.2]
  -- all of the first part are listed
  have done:∀ (fuel:Nat) (listed:Array Bool) (a:Act) (w:World),listed.size=l.length→(∀ j,j < l.length→listed.getD j false=true)→wpList P (l++l2).toArray Q l2 a w →
      wpAny P .any (l++l2).toArray Q (fuel+l2.length) (listed++Array.replicate l2.length false) a w:=fun fuel listed a w hs hall h=>by
    refine wpAny_seq hb (k0:=l.length) (by simpa using ht) l2.length l.length _ _ a w (by simp) (Nat.le_refl _) (by omega) (by simp [hs]) (fun j hj=>?_) (by simpa using h)
    by_cases hj':j < l.length
    · rw [get1 listed j false hs hj',hall j hj'];simp [hj']
    · rw [get2 listed j hs (by omega)];simp;omega
  have allOf:∀ (listed:Array Bool),listed.size=l.length→Region.ready .any l.toArray listed=[]→∀ j,j < l.length→listed.getD j false=true:=fun listed hs hr j=>by
    induction j using Nat.strongRecOn with
    | _ j ih =>
      intro hj
      cases hc:listed.getD j false with
      | true=>rfl
      | false =>
        exfalso
        have hj':j < listed.size:=by omega
        have hnt:listed.getD j true=false:=by simp [Array.getD,hj'] at hc ⊢;exact hc
        have:j ∈ Region.ready .any l.toArray listed:=ready_mem.2 ⟨by simpa using hj,hnt,l[j],by simp [hj],fun e he hbd=>by
          have:=hbl j l[j] (by simp [hj]) e he hbd
          exact ih e.on this (by omega)⟩
        rw [hr] at this;cases this
  intro fuel
  induction fuel with
  | zero =>
    intro listed a w hs h
    exact done 0 listed a w hs (allOf listed hs h.1) h.2
  | succ fuel ih =>
    intro listed a w hs h
    by_cases hall:∀ j,j < l.length→listed.getD j false=true
    · refine done (fuel+1) listed a w hs hall (h.1 ?_)
      rw [List.eq_nil_iff_forall_not_mem]
      intro i hi
      obtain ⟨h1,h2,_⟩:=ready_mem.1 hi
      have h1':i < l.length:=by simpa using h1
      have:=hall i h1'
      have hi':i < listed.size:=by omega
      simp [Array.getD,hi'] at this h2
      rw [this] at h2;cases h2
    · have hnr:Region.ready .any l.toArray listed≠[]:=fun e=>hall (allOf listed hs e)
      have same:∀ i,i ∈ Region.ready .any (l++l2).toArray (listed++Array.replicate l2.length false) ↔ i ∈ Region.ready .any l.toArray listed:=fun i=>by
        rw [ready_mem,ready_mem]
        by_cases hi:i < l.length
        · have e1:(l++l2).toArray[i]?=l.toArray[i]?:=by simp [List.getElem?_append_left hi]
          rw [get1 listed i true hs hi,e1]
          constructor
          · rintro ⟨_,h2,o,ho,h3⟩
            refine ⟨by simpa using hi,h2,o,ho,fun e he hbd=>?_⟩
            have:=hbl i o (by simpa using ho) e he hbd
            have h4:=h3 e he hbd
            rwa [get1 listed e.on false hs (by omega)] at h4
          · rintro ⟨_,h2,o,ho,h3⟩
            refine ⟨by simp;omega,h2,o,ho,fun e he hbd=>?_⟩
            have:=hbl i o (by simpa using ho) e he hbd
            rw [get1 listed e.on false hs (by omega)]
            exact h3 e he hbd
        · constructor
          · rintro ⟨h1,h2,o,ho,h3⟩
            exfalso
            refine hall fun j hj=>?_
            have ho':(l++l2)[i]?=some o:=by simpa using ho
            rw [List.getElem?_append_right (by omega)] at ho'
            obtain ⟨e,he,hbd,hon⟩:=tail_at l2 l.length (i - l.length) o ht ho' j (by omega)
            have:=h3 e he hbd
            rwa [hon,get1 listed j false hs hj] at this
          · rintro ⟨h1,_⟩
            exact absurd (by simpa using h1) hi
      rw [show fuel+1+l2.length=(fuel+l2.length)+1 by omega]
      refine ⟨fun hr=>?_,fun i hi=>?_⟩
      · exfalso
        apply hnr
        rw [List.eq_nil_iff_forall_not_mem]
        intro i hi
        have:=(same i).2 hi
        rw [hr] at this;cases this
      · have hi':=(same i).1 hi
        have h':=h.2 i hi'
        obtain ⟨h1,_⟩:=ready_mem.1 hi'
        have hlt:i < l.length:=by simpa using h1
        have ho:l.toArray[i]?=some l[i]:=by simp [hlt]
        have ho2:(l++l2).toArray[i]?=some l[i]:=by simp [List.getElem?_append_left hlt,hlt]
        unfold wpOp at h' ⊢
        rw [ho] at h'
        rw [ho2]
        simp only at h' ⊢
        have hy:Region.wanted l[i] (yielded (l++l2).toArray a.tmps)=Region.wanted l[i] (yielded l.toArray a.tmps):=by
          unfold Region.wanted
          cases hgd:(l[i]).guard with
          | none=>rfl
          | some gw =>
            obtain ⟨g,want⟩:=gw
            have:=List.all_eq_true.1 hg l[i] (List.getElem_mem hlt)
            rw [hgd] at this
            have hgl:g < l.length:=by simpa using this
            simp only
            have:yielded (l++l2).toArray a.tmps g=yielded l.toArray a.tmps g:=by
              unfold yielded
              have:(l++l2).toArray[g]?=l.toArray[g]?:=by simp [List.getElem?_append_left hgl]
              rw [this]
            rw [this]
        rw [hy]
        have nx:∀ a w,wpAny P .any l.toArray (Exit.then (fun a w=>wpList P (l++l2).toArray Q l2 a w) Q) fuel (listed.setIfInBounds i true) a w→wpAny P .any (l++l2).toArray Q (fuel+l2.length) ((listed++Array.replicate l2.length false).setIfInBounds i true) a w:=fun a w hh=>by
          have:=ih (listed.setIfInBounds i true) a w (by simpa using hs) hh
          have e:(listed++Array.replicate l2.length false).setIfInBounds i true=listed.setIfInBounds i true++Array.replicate l2.length false:=by
            rw [Array.setIfInBounds_append_left (by omega)]
          rw [e];exact this
        split
        · rename_i hw
          rw [if_pos hw] at h'
          rcases h' with h' | h'
          · exact .inl (Oper.wp_mono nx (wp_then h'))
          · exact .inr h'
        · rename_i hw
          rw [if_neg hw] at h'
          exact nx _ _ h'
end
end Go.Proofs.YtjodmledadbgeacGreatDoor
namespace Go.Proofs.YtjodmledadbgeacGreatDoor
open Go.ChangeShapes Go.WideShapes Go.ChangeAt Go.RowKit
set_option linter.unusedVariables false
structure Bx (w wr : World) (k r : Int) (a : Option Addr) (len c : Nat) : Prop where
  bel:Below w.heap.size w wr
  box:wr.heap[w.heap.size]?=some (.cells #[.int .i64 k,.int .i64 r,.slice a len c] 74 (0,0))
theorem Bx.start (w : World) (k r : Int) (a : Option Addr) (len c : Nat) : Bx w (w.alloc (.cells #[.int .i64 k, .int .i64 r, .slice a len c] 74)) k r a len c :=
  ⟨(Below.refl _ w).alloc (Nat.le_refl _) _,blockNew w _ _⟩
theorem Bx.lt {w wr : World} {k r : Int} {a : Option Addr} {len c : Nat} (h : Bx w wr k r a len c) : w.heap.size < wr.heap.size := lt_of_block h.box
theorem Bx.below {w wr w' : World} {k r : Int} {a : Option Addr} {len c : Nat} (h : Bx w wr k r a len c) (b : Below wr.heap.size wr w') : Bx w w' k r a len c :=
  ⟨h.bel.trans (b.mono h.bel.size),box_cells h.box b⟩
theorem Bx.alloc {w wr : World} {k r : Int} {a : Option Addr} {len c : Nat} (h : Bx w wr k r a len c) (o : Obj) : Bx w (wr.alloc o) k r a len c :=
  h.below ((Below.refl _ wr).alloc (Nat.le_refl _) _)
theorem Bx.drewN {w wr : World} {k r : Int} {a : Option Addr} {len c : Nat} (h : Bx w wr k r a len c) (m : Nat) : Bx w (wr.drewN m) k r a len c := ⟨⟨h.bel.os, h.bel.tape, h.bel.output, h.bel.size, h.bel.block⟩, h.box⟩
theorem Bx.drew {w wr : World} {k r : Int} {a : Option Addr} {len c : Nat} (h : Bx w wr k r a len c) : Bx w wr.drew k r a len c := h.drewN 1
def FaultAt (f : Nat) (n : Nat) : Prop := ∀ (t : TT n) (a : Option Addr) (c : Nat) (regs : Int) (w : World), TIn w All t a → t.count ≤ 100000 →
    Calls Tryz.prog f #[Tv t a c,.int .i64 regs] w fun e w'=>e=.returned (.int .i64 (t.fault regs))∧Below w.heap.size w w'
end Go.Proofs.YtjodmledadbgeacGreatDoor
namespace Go.Proofs.YtjodmledadbgeacGreatDoor
open Go.RowKit
set_option linter.unusedVariables false
structure Wd (w0 w : World) (Bs : List (Nat × Array Value × TypeId)) : Prop where
  bel:Below w0.heap.size w0 w
  blk:∀ (i:Nat) x,Bs[i]?=some x→Blk w x.1 x.2.1 x.2.2
  new:∀ (i:Nat) x,Bs[i]?=some x→w0.heap.size≤x.1
  nd:∀ (i j:Nat) x y,Bs[i]?=some x→Bs[j]?=some y→x.1=y.1→i=j
section
variable {w0 w w' : World} {Bs : List (Nat × Array Value × TypeId)}
theorem Wd.start (w : World) : Wd w w [] := ⟨Below.refl _ _, fun i x h => by simp at h, fun i x h => by simp at h, fun i j x y h => by simp at h⟩
theorem Wd.below (h : Wd w0 w Bs) (b : Below w.heap.size w w') : Wd w0 w' Bs := ⟨Below.andThen h.bel b, fun i x hx => (h.blk i x hx).below b, h.new, h.nd⟩
theorem Wd.get (h : Wd w0 w Bs) (i : Nat) {B : Nat} {c : Array Value} {t : TypeId} (hi : Bs[i]? = some (B, c, t)) : Blk w B c t := h.blk i _ hi
theorem Wd.new' (h : Wd w0 w Bs) (c : Array Value) (t : TypeId) : Wd w0 (w.alloc (.cells c t)) ((w.heap.size, c, t) :: Bs) := by
  refine ⟨Below.andThen h.bel (bel1 w _),fun i x hx=>?_,fun i x hx=>?_,fun i j x y hx hy e=>?_⟩
  · cases i with
    | zero=>simp at hx;subst hx;exact Blk.new w c t
    | succ i=>exact (h.blk i x (by simpa using hx)).alloc _
  · cases i with
    | zero=>simp at hx;subst hx;exact h.bel.size
    | succ i=>exact h.new i x (by simpa using hx)
  · cases i with
    | zero =>
      cases j with
      | zero=>rfl
      | succ j =>
        simp at hx hy;subst hx
        have:=(h.blk j y hy).lt
        simp at e;omega
    | succ i =>
      cases j with
      | zero =>
        simp at hx hy;subst hy
        have:=(h.blk i x hx).lt
        simp at e;omega
      | succ j=>rw [h.nd i j x y (by simpa using hx) (by simpa using hy) e]
theorem Wd.tail {x : Nat × Array Value × TypeId} (h : Wd w0 w (x :: Bs)) : Wd w0 w Bs :=
  ⟨h.bel,fun i y hy=>h.blk (i+1) y (by simpa using hy),fun i y hy=>h.new (i+1) y (by simpa using hy),fun i j y z hy hz e=>by have:=h.nd (i+1) (j+1) y z (by simpa using hy) (by simpa using hz) e;omega⟩
theorem Wd.set (h : Wd w0 w Bs) (i : Nat) {B : Nat} {c c' : Array Value} {t : TypeId} {Bs' : List (Nat × Array Value × TypeId)} (hi : Bs[i]? = some (B, c, t)) (j : Nat) (v : Value)
    (hc:c.setIfInBounds j v=c') (hB:Bs.set i (B,c',t)=Bs'):Wd w0 (w.setCell ⟨B,j,none⟩ v) Bs':=by
  subst hB
  subst hc
  have sp:∀ (k:Nat) x,(Bs.set i (B,c.setIfInBounds j v,t))[k]?=some x→(k=i∧x=(B,c.setIfInBounds j v,t)) ∨ (k≠i∧Bs[k]?=some x):=by
    intro k x hx
    rw [List.getElem?_set] at hx
    split at hx
    · rename_i e
      subst e
      have hil:i < Bs.length:=(List.getElem?_eq_some_iff.1 hi).1
      rw [if_pos hil] at hx
      exact .inl ⟨rfl,(Option.some.inj hx).symm⟩
    · rename_i e
      exact .inr ⟨fun e'=>e e'.symm,hx⟩
  have key:∀ (k:Nat) x,Bs[k]?=some x→k≠i→x.1≠B:=fun k x hx hk e=>hk (h.nd k i x _ hx hi e)
  refine ⟨h.bel.setCell (p:=⟨B,j,none⟩) (h.new i _ hi) v,fun k x hx=>?_,fun k x hx=>?_,fun k l x y hx hy e=>?_⟩
  · rcases sp k x hx with ⟨rfl,rfl⟩ | ⟨hk,hx⟩
    · exact blockSet (h.blk k _ hi) j v
    · exact (h.blk k x hx).setOther (fun e=>key k x hx hk e.symm) v
  · rcases sp k x hx with ⟨rfl,rfl⟩ | ⟨hk,hx⟩
    · exact h.new k (B,c,t) hi
    · exact h.new k x hx
  · rcases sp k x hx with ⟨hk,hx1⟩ | ⟨hk,hx1⟩
    · rcases sp l y hy with ⟨hl,hy1⟩ | ⟨hl,hy1⟩
      · rw [hk,hl]
      · rw [hx1] at e;exact absurd e.symm (key l y hy1 hl)
    · rcases sp l y hy with ⟨hl,hy1⟩ | ⟨hl,hy1⟩
      · rw [hy1] at e;exact absurd e (key k x hx1 hk)
      · exact h.nd k l x y hx1 hy1 e
def spliced (c : Array Value) (j : Nat) (vs : List Value) : Array Value := (c.toList.take j ++ (vs ++ c.toList.drop (j + vs.length))).toArray
theorem spliced_cons (c : Array Value) (j : Nat) (v : Value) (vs : List Value) (h : j + (v :: vs).length ≤ c.size) : spliced (c.setIfInBounds j v) (j + 1) vs = spliced c j (v :: vs) := by
  unfold spliced
  congr 1
  have hj:j < c.toList.length:=by simp at h ⊢;omega
  simp only [Array.toList_setIfInBounds]
  rw [List.take_set,List.drop_set_of_lt (by omega),List.take_add_one,List.getElem?_eq_getElem hj]
  simp only [Option.toList,List.length_cons]
  have:(c.toList.take j++[c.toList[j]]).set j v=c.toList.take j++[v]:=by
    rw [List.set_append_right _ _ (by simp;omega)]
    have hj':j < c.size:=by simpa using hj
    simp [Nat.min_eq_left (Nat.le_of_lt hj')]
  rw [this,Nat.add_assoc,Nat.add_comm 1]
  simp
theorem Wd.setAt (h : Wd w0 w Bs) (i : Nat) {B : Nat} {c c' : Array Value} {t : TypeId} {Bs' : List (Nat × Array Value × TypeId)} (hi : Bs[i]? = some (B, c, t)) (j : Nat) (vs : List Value)
    (hs:Nat.ble (j+vs.length) c.size=true) (hc:spliced c j vs=c') (hB:Bs.set i (B,c',t)=Bs'):Wd w0 (w.setCells B j vs) Bs':=by
  have hs':j+vs.length≤c.size:=by simpa [Nat.ble_eq] using hs
  clear hs
  induction vs generalizing w Bs c j with
  | nil =>
    subst hB
    have:c=c':=by rw [← hc];unfold spliced;simp
    subst this
    have:Bs.set i (B,c,t)=Bs:=by
      apply List.ext_getElem?
      intro k
      rw [List.getElem?_set]
      split
      · rename_i e;subst e;rw [hi];simp [(List.getElem?_eq_some_iff.1 hi).1]
      · rfl
    rw [this];exact h
  | cons v vs ih =>
    have hil:i < Bs.length:=(List.getElem?_eq_some_iff.1 hi).1
    refine ih (c:=c.setIfInBounds j v) (h.set i hi j v rfl rfl) (by rw [List.getElem?_set];simp [hil]) (j+1) ?_ ?_ ?_
    · rw [← hc,spliced_cons _ _ _ _ hs']
    · rw [List.set_set];exact hB
    · simp at hs' ⊢;omega
theorem Wd.drewN (h : Wd w0 w Bs) (m : Nat) : Wd w0 (w.drewN m) Bs := ⟨drewN_below h.bel, fun i x hx => h.blk i x hx, h.new, h.nd⟩
end
theorem wrap_succ (q : Nat) (h : q < 4611686018427387904) : IntKind.i64.wrap ((q : Int) + 1) = (q : Int) + 1 := by
  have:(q:Int) < 4611686018427387904:=by omega
  have e1:((q:Int)+1) % 2 ^ 64=(q:Int)+1:=by omega
  simp only [IntKind.wrap,IntKind.signed,IntKind.bits,e1,Bool.true_and]
  rw [if_neg (by simp only [decide_eq_true_eq];omega)]
theorem Fr.sl2 {n : Nat} {a : Act} {L : List (Tmp × Value)} (h : Fr n a L) (t : Tmp) (v : Value) (e : L.lookup t = some v) : a.tmps[t]?.getD undef = v := by
  rw [← Array.getD_eq_getD_getElem?];exact h.sl t v e
structure New (w w' : World) (B : Nat) : Prop where
  bel:Below w.heap.size w w'
  at_:B=w.heap.size
  size:w'.heap.size=B+1
theorem bel_cell {w w' : World} (b : Below w.heap.size w w') {p : Addr} {v : Value} (h : w.cell? p = some v) : w'.cell? p = some v :=
  (World.cell?_of_block (w:=w) (a:=p) (b.block p.block (World.block_lt_of_cell? w p h))).trans h
def Rd (P : Program) (f : FuncId) (args : Array Value) (w : World) (V : Value) : Prop := Calls P f args w fun e w' => e = .returned V ∧ Below w.heap.size w w'
noncomputable def bdec (A : Prop) : Bool := @decide A (Classical.propDecidable A)
theorem bdec_iff {A : Prop} : bdec A = true ↔ A := by unfold bdec; simp
theorem bdec_true {A : Prop} (h : A) : bdec A = true := bdec_iff.2 h
theorem bdec_false {A : Prop} (h : ¬ A) : bdec A = false := by
  cases e:bdec A with
  | false=>rfl
  | true=>exact absurd (bdec_iff.1 e) h
theorem bdec_of {A : Prop} {q : Bool} (h : q = true ↔ A) : q = bdec A := by
  cases q with
  | false=>exact (bdec_false fun ha=>by have:=h.2 ha;cases this).symm
  | true=>exact (bdec_true (h.1 rfl)).symm
section
variable {P : Program} {n : Nat} {a : Act} {L : List (Tmp × Value)} {w0 w w' : World} {Bs Bs' : List (Nat × Array Value × TypeId)} {Q : Exit → Act → World → Prop} {ops : Array Oper} {o : Oper} {rest : List Oper} {t : Tmp} {v : Value}
theorem fr_set (hF : Fr n a L) (hW : Wd w0 w' Bs') (hd : o.dst = none) (hg : o.guard = none)
    (h:∀ K:Act→World→Prop,K a w'→o.wp P a w K Q)
    (k:∀ w',Wd w0 w' Bs'→wpList P ops Q rest a w'):wpList P ops Q (o::rest) a w :=
  fr_skip hF hd hg h (k _ hW)
theorem ret_tmp {fn : Func} {R : Ending → World → Prop} (hF : Fr n a L) (hr : fn.results = #[.tmp t]) (hv : L.lookup t = some v) (hR : R (.returned v) w) : bodyPost P fn R .ret a w :=
  bodyPost_ret ((results_tmp hr _ _ _).trans (by rw [hF.sl t v hv])) hF.defers hR
end
abbrev PTab := List (Tmp × (Value → World → Prop))
def PTab.E (M : PTab) (t : Tmp) (v : Value) (w : World) : Prop := match M.lookup t with | some p => p v w | none => True
def Stable (R : World → World → Prop) : PTab → Prop
  | []=>True
  | x::r=>(∀ v w w',R w w'→x.2 v w→x.2 v w')∧Stable R r
theorem PTab_stable {R : World → World → Prop} : ∀ (M : PTab), Stable R M → ∀ t v w w', R w w' → PTab.E M t v w → PTab.E M t v w'
  | [],_,_,_,_,_,_,h=>h
  | x::r,hs,t,v,w,w',hr,h=>by
    unfold PTab.E at *
    obtain ⟨s,p⟩:=x
    by_cases e:t=s
    · subst e
      simp at h ⊢
      exact hs.1 _ _ _ hr h
    · have e':(t == s)=false:=by simpa using e
      simp only [List.lookup_cons,e'] at h ⊢
      exact PTab_stable r hs.2 t v w w' hr h
theorem fr_draw {P : Program} {n id : Nat} {l l2 : List Oper} {outs : List Tmp} {gs : List (Nat × Option Bool)} {bs : List Bool} {a : Act} {w : World} {L : List (Tmp × Value)} {Q : Exit → Act → World → Prop}
    (M:PTab) (W:World→Prop) (R:World→World→Prop)
    (hm:P.follows .mixedOrders=true) (hF:Fr n a L) (hL:(L.all fun p=>!(dstsOf l).contains p.1)=true) (hB:calmB l n outs gs bs=true)
    (hT:(backB 0 (l++l2) && (guardsB l.length l && tailB l.length l2))=true)
    (hR:Stable R M) (hG:GuardOk (PTab.E M) W l.toArray gs) (hW:W w.drew) (hO:OutsOk (PTab.E M) a w.drew outs)
    (hA:AllOk (PTab.E M) W R P l bs)
    (hend:∀ a' w',W w'→(∀ t,(dstsOf l).contains t=true→PTab.E M t (a'.tmps.getD t undef) w')→Fr n a' L→wpList P (l++l2).toArray Q l2 a' w') :
    (Code.region id (l++l2).toArray true).wp P Q a w:=by
  simp only [Bool.and_eq_true] at hT
  obtain ⟨hT1,hT2,hT3⟩:=hT
  refine wp_region_any hm ?_
  have key:wpAny P .any l.toArray (Exit.then (fun a w=>wpList P (l++l2).toArray Q l2 a w) Q) l.length (Array.replicate l.length false) a w.drew:=by
    refine wpAny_calm (E:=PTab.E M) (W:=W) (R:=R) (a0:=a) (outs:=outs) (gs:=gs) (bs:=bs) (by rw [hF.size];exact hB) (PTab_stable M hR) hG hA ?_ _ _ _ _ (by simp) ?_ ⟨hW,rfl,rfl,fun _ _=>rfl,fun t ht _=>outs_mem outs hO t ht,?_⟩
    · intro vs w' hw' hE
      have hlt:∀ t,(dstsOf l).contains t=true→t < a.tmps.size:=fun t ht=>by
        simp only [calmB,Bool.and_eq_true] at hB
        have:=List.all_eq_true.1 hB.1.1.1.2 t (by simpa using ht)
        rw [hF.size];simpa using this
      have hat:∀ t,(dstsOf l).contains t=true→(puts a vs (dstsOf l)).tmps.getD t undef=vs t:=fun t ht=>by
        have:=puts_at vs (dstsOf l) a t (hlt t ht)
        rw [if_pos (by simpa using ht)] at this
        rw [Array.getD_eq_getD_getElem?,this];rfl
      refine hend _ w' hw' (fun t ht=>by rw [hat t ht];exact hE t ht) ⟨by rw [puts_size,hF.size],by rw [puts_defers,hF.defers],fun t v hl=>?_⟩
      have hm:∃ p ∈ L,p.1=t:=by
        clear hL hO hend
        have:∀ (L:List (Tmp × Value)),L.lookup t=some v→∃ p ∈ L,p.1=t:=by
          intro L
          induction L with
          | nil=>intro h;simp at h
          | cons x r ih =>
            intro h
            by_cases e:t=x.1
            · exact ⟨x,by simp,e.symm⟩
            · have e':(t == x.1)=false:=beq_false_of_ne e
              rw [List.lookup_cons,e'] at h
              obtain ⟨p,hp,he⟩:=ih h
              exact ⟨p,by simp [hp],he⟩
        exact this L hl
      obtain ⟨p,hp,rfl⟩:=hm
      have hn:¬ p.1 ∈ dstsOf l:=by
        have:=List.all_eq_true.1 hL p hp
        simpa using this
      rw [← hF.sl p.1 v hl]
      by_cases hlt':p.1 < a.tmps.size
      · have:=puts_at vs (dstsOf l) a p.1 hlt'
        rw [if_neg hn] at this
        rw [Array.getD_eq_getD_getElem?,Array.getD_eq_getD_getElem?,this]
      · have h9:a.tmps.size≤p.1:=Nat.le_of_not_lt hlt'
        rw [Array.getD_eq_getD_getElem?,Array.getD_eq_getD_getElem?,Array.getElem?_eq_none (by rw [puts_size];exact h9),Array.getElem?_eq_none h9]
    · simp only [Array.toList_replicate]
      exact Nat.le_trans (List.length_filter_le _ _) (by simp)
    · intro j o t hj hd hl
      simp [Array.getD] at hl
  have:=wpAny_tail (Q:=Q) hT1 hT2 hT3 l.length (Array.replicate l.length false) a w.drew (by simp) key
  have e:(Array.replicate l.length false++Array.replicate l2.length false:Array Bool)=Array.replicate (l++l2).toArray.size false:=by
    simp
  have e2:l.length+l2.length=(l++l2).toArray.size:=by simp
  rw [e,e2] at this
  exact this
theorem fr_draw_k {P : Program} {n id : Nat} {lo : List Oper} {outs : List Tmp} {gs : List (Nat × Option Bool)} {bs : List Bool} {a : Act} {w : World} {L : List (Tmp × Value)} {Q : Exit → Act → World → Prop}
    (k:Nat) (M:PTab) (W:World→Prop) (R:World→World→Prop)
    (hm:P.follows .mixedOrders=true) (hF:Fr n a L) (hL:(L.all fun p=>!(dstsOf (lo.take k)).contains p.1)=true) (hB:calmB (lo.take k) n outs gs bs=true)
    (hT:(backB 0 lo && (guardsB (lo.take k).length (lo.take k) && tailB (lo.take k).length (lo.drop k)))=true)
    (hR:Stable R M) (hG:GuardOk (PTab.E M) W (lo.take k).toArray gs) (hW:W w.drew) (hO:OutsOk (PTab.E M) a w.drew outs)
    (hA:AllOk (PTab.E M) W R P (lo.take k) bs)
    (hend:∀ ops a' w',W w'→(∀ t,(dstsOf (lo.take k)).contains t=true→PTab.E M t (a'.tmps.getD t undef) w')→Fr n a' L→wpList P ops Q (lo.drop k) a' w') :
    (Code.region id lo.toArray true).wp P Q a w:=by
  have h:=fr_draw (id:=id) (l:=lo.take k) (l2:=lo.drop k) (Q:=Q) M W R hm hF hL hB (by rw [List.take_append_drop];exact hT) hR hG hW hO hA (hend _)
  rwa [List.take_append_drop] at h
section
variable {w0 w w' w00 : World} {Bs : List (Nat × Array Value × TypeId)}
theorem Wd.add (h : Wd w0 w Bs) {B : Nat} {c : Array Value} {t : TypeId} (hb : Blk w B c t) (h0 : Wd w0 w00 Bs) (hB : w00.heap.size ≤ B) : Wd w0 w ((B, c, t) :: Bs) := by
  refine ⟨h.bel,fun i x hx=>?_,fun i x hx=>?_,fun i j x y hx hy e=>?_⟩
  · cases i with
    | zero=>simp at hx;subst hx;exact hb
    | succ i=>exact h.blk i x (by simpa using hx)
  · cases i with
    | zero=>simp at hx;subst hx;have:=h0.bel.size;simp only;omega
    | succ i=>exact h.new i x (by simpa using hx)
  · cases i with
    | zero =>
      cases j with
      | zero=>rfl
      | succ j =>
        simp at hx hy;subst hx
        have:=(h0.blk j y hy).lt
        simp at e;omega
    | succ i =>
      cases j with
      | zero =>
        simp at hx hy;subst hy
        have:=(h0.blk i x hx).lt
        simp at e;omega
      | succ j=>rw [h.nd i j x y (by simpa using hx) (by simpa using hy) e]
end
end Go.Proofs.YtjodmledadbgeacGreatDoor
namespace Go.Proofs.YtjodmledadbgeacGreatDoor
open Go.ChangeShapes Go.WideShapes Go.ChangeAt Go.RowKit
set_option linter.unusedSimpArgs false
set_option linter.unusedVariables false
def evalL (L : List (Tmp × Value)) : Operand → Option Value
  | .tmp t=>L.lookup t
  | .const v=>some v
  | .func f=>some (.func (.func f) #[] #[])
  | _=>none
abbrev St (n : Nat) (L : List (Tmp × Value)) (ops : Array Oper) (Q : Exit → Act → World → Prop) (l : List Oper) (w : World) : Prop := ∀ a, Fr n a L → wpList Tryz.prog ops Q l a w
def Gok (ops : Array Oper) (n : Nat) (L : List (Tmp × Value)) : Option (Nat × Bool) → Prop
  | none=>True
  | some (g,want)=>∃ tg,(ops[g]?).bind (fun o:Oper=>o.dst)=some tg∧Nat.blt tg n=true∧L.lookup tg=some (.bool want)
section
variable {n : Nat} {a : Act} {L : List (Tmp × Value)} {w0 w : World} {Bs : List (Nat × Array Value × TypeId)} {Q : Exit → Act → World → Prop} {ops : Array Oper} {rest : List Oper} {t : Tmp} {u v : Value} {ty ty2 ty3 : TypeId} {pos : String} {aft : Array Edge} {gd : Option (Nat × Bool)} {x y z : Operand} {g tg : Nat} {want b : Bool}
theorem Fr.ev (h : Fr n a L) (e : evalL L x = some v) : a.eval x = v := by
  cases x <;> simp only [evalL,Option.some.injEq,reduceCtorEq] at e
  · exact h.sl _ _ e
  · exact e
  · subst e;rfl
theorem Gok.on {o : Oper} (hF : Fr n a L) (h : Gok ops n L o.guard) : Region.wanted o (yielded ops a.tmps) = true := by
  cases hg:o.guard with
  | none=>simp [Region.wanted,hg]
  | some p =>
    obtain ⟨g,want⟩:=p
    rw [hg] at h
    obtain ⟨tg,h1,h2,h3⟩:=h
    rw [wanted_g hF hg h1 h2 h3];simp
theorem St.go {l : List Oper} (hF : Fr n a L) (h : St n L ops Q l w) : wpList Tryz.prog ops Q l a w := h a hF
theorem rg {id : Nat} {l : List Oper} (hF : Fr n a L) (h : ∀ ops, St n L ops Q l w) : (Code.region id l.toArray false).wp Tryz.prog Q a w := fr_region fun ops _ => h ops a hF
theorem St.nil (h : ∀ a, Fr n a L → Q .normal a w) : St n L ops Q [] w := h
theorem s_step {o : Oper} (hg : Gok ops n L o.guard) (hd : o.dst = some t) (ht : Nat.blt t n = true)
    (h:∀ ev:Operand→Value,(∀ x v,evalL L x=some v→ev x=v)→(execOp ev o).run Tryz.prog w=.ok (.value v) w)
    (k:St n ((t,v)::L) ops Q rest w):St n L ops Q (o::rest) w:=fun a hF =>
  wpList_step fun K hK=>by
    rw [if_pos (hg.on hF)]
    unfold Oper.wp
    rw [h a.eval (fun x v e=>hF.ev e),Oper.upon_value,hd]
    exact hK _ _ (k _ (hF.put ht))
theorem so {op : Op} (hs : (ops[g]?).bind (fun o : Oper => o.dst) = some tg) (htg : Nat.blt tg n = true) (hv : L.lookup tg = some u) (hu : (match u with | .bool b => b == want | _ => false) = false) (ht : Nat.blt t n = true)
    (k:St n ((t,undef)::L) ops Q rest w):St n L ops Q (⟨some t,op,ty,pos,aft,some (g,want)⟩::rest) w:=fun a hF =>
  fr_off hF rfl rfl hs htg hv hu ht k
theorem sm (hg : Gok ops n L gd) (hx : evalL L x = some (v)) (ht : Nat.blt t n = true)
    (k:St n ((t,v)::L) ops Q rest w):St n L ops Q (⟨some t,.move x,ty,pos,aft,gd⟩::rest) w :=
  s_step hg rfl ht (fun ev hev=>by have e:=hev _ _ hx;simp [go_sem,e]) k
theorem sa (hg : Gok ops n L gd) (hx : evalL L x = some (v)) (ht : Nat.blt t n = true)
    (k:St n ((t,v)::L) ops Q rest w):St n L ops Q (⟨some t,.assign x,ty,pos,aft,gd⟩::rest) w :=
  s_step hg rfl ht (fun ev hev=>by have e:=hev _ _ hx;simp [go_sem,e]) k
theorem sn (hg : Gok ops n L gd) (hx : evalL L x = some (.bool b)) (ht : Nat.blt t n = true)
    (k:St n ((t,.bool (!b))::L) ops Q rest w):St n L ops Q (⟨some t,.unOp .not ty2 x,ty,pos,aft,gd⟩::rest) w :=
  s_step hg rfl ht (fun ev hev=>by have e:=hev _ _ hx;simp [go_sem,e]) k
theorem sp (hg : Gok ops n L gd) (hx : evalL L x = some (.bool true)) (hy : evalL L y = some (v)) (ht : Nat.blt t n = true)
    (k:St n ((t,v)::L) ops Q rest w):St n L ops Q (⟨some t,.pick x y z,ty,pos,aft,gd⟩::rest) w :=
  s_step hg rfl ht (fun ev hev=>by have e:=hev _ _ hx;have e2:=hev _ _ hy;simp [go_sem,e,e2]) k
theorem spf (hg : Gok ops n L gd) (hx : evalL L x = some (.bool false)) (hz : evalL L z = some (v)) (ht : Nat.blt t n = true)
    (k:St n ((t,v)::L) ops Q rest w):St n L ops Q (⟨some t,.pick x y z,ty,pos,aft,gd⟩::rest) w :=
  s_step hg rfl ht (fun ev hev=>by have e:=hev _ _ hx;have e2:=hev _ _ hz;simp [go_sem,e,e2]) k
theorem seq {p q : Int} (hg : Gok ops n L gd) (hx : evalL L x = some (.int .i64 p)) (hy : evalL L y = some (.int .i64 q)) (ht : Nat.blt t n = true)
    (k:St n ((t,.bool (p == q))::L) ops Q rest w):St n L ops Q (⟨some t,.binOp .eql 3 x y 3,ty,pos,aft,gd⟩::rest) w :=
  s_step hg rfl ht (fun ev hev=>by have e:=hev _ _ hx;have e2:=hev _ _ hy;simp [go_sem,e,e2]) k
theorem sne {p q : Int} (hg : Gok ops n L gd) (hx : evalL L x = some (.int .i64 p)) (hy : evalL L y = some (.int .i64 q)) (ht : Nat.blt t n = true)
    (k:St n ((t,.bool (p != q))::L) ops Q rest w):St n L ops Q (⟨some t,.binOp .neq 3 x y 3,ty,pos,aft,gd⟩::rest) w :=
  s_step hg rfl ht (fun ev hev=>by have e:=hev _ _ hx;have e2:=hev _ _ hy;simp [go_sem,e,e2]) k
theorem slt {p q : Int} (hg : Gok ops n L gd) (hx : evalL L x = some (.int .i64 p)) (hy : evalL L y = some (.int .i64 q)) (ht : Nat.blt t n = true)
    (k:St n ((t,.bool (decide (p < q)))::L) ops Q rest w):St n L ops Q (⟨some t,.binOp .lss 3 x y 3,ty,pos,aft,gd⟩::rest) w :=
  s_step hg rfl ht (fun ev hev=>by have e:=hev _ _ hx;have e2:=hev _ _ hy;simp [go_sem,e,e2]) k
theorem sgt {p q : Int} (hg : Gok ops n L gd) (hx : evalL L x = some (.int .i64 p)) (hy : evalL L y = some (.int .i64 q)) (ht : Nat.blt t n = true)
    (k:St n ((t,.bool (decide (q < p)))::L) ops Q rest w):St n L ops Q (⟨some t,.binOp .gtr 3 x y 3,ty,pos,aft,gd⟩::rest) w :=
  s_step hg rfl ht (fun ev hev=>by have e:=hev _ _ hx;have e2:=hev _ _ hy;simp [go_sem,e,e2]) k
theorem sge {p q : Int} (hg : Gok ops n L gd) (hx : evalL L x = some (.int .i64 p)) (hy : evalL L y = some (.int .i64 q)) (ht : Nat.blt t n = true)
    (k:St n ((t,.bool (decide (q≤p)))::L) ops Q rest w):St n L ops Q (⟨some t,.binOp .geq 3 x y 3,ty,pos,aft,gd⟩::rest) w :=
  s_step hg rfl ht (fun ev hev=>by have e:=hev _ _ hx;have e2:=hev _ _ hy;simp [go_sem,e,e2]) k
theorem seq6 {p q : Int} (hg : Gok ops n L gd) (hx : evalL L x = some (.int .i64 p)) (hy : evalL L y = some (.int .i64 q)) (ht : Nat.blt t n = true)
    (k:St n ((t,.bool (p == q))::L) ops Q rest w):St n L ops Q (⟨some t,.binOp .eql 2 x y 2,ty,pos,aft,gd⟩::rest) w :=
  s_step hg rfl ht (fun ev hev=>by have e:=hev _ _ hx;have e2:=hev _ _ hy;simp [go_sem,e,e2]) k
theorem sne6 {p q : Int} (hg : Gok ops n L gd) (hx : evalL L x = some (.int .i64 p)) (hy : evalL L y = some (.int .i64 q)) (ht : Nat.blt t n = true)
    (k:St n ((t,.bool (p != q))::L) ops Q rest w):St n L ops Q (⟨some t,.binOp .neq 2 x y 2,ty,pos,aft,gd⟩::rest) w :=
  s_step hg rfl ht (fun ev hev=>by have e:=hev _ _ hx;have e2:=hev _ _ hy;simp [go_sem,e,e2]) k
theorem sad {q : Nat} (hq : q < 4611686018427387904) (hg : Gok ops n L gd) (hx : evalL L x = some (.int .i64 (q : Int))) (hy : evalL L y = some (.int .i64 1)) (ht : Nat.blt t n = true)
    (k:St n ((t,.int .i64 ((q:Int)+1))::L) ops Q rest w):St n L ops Q (⟨some t,.binOp .add 3 x y 3,ty,pos,aft,gd⟩::rest) w :=
  s_step hg rfl ht (fun ev hev=>by have e:=hev _ _ hx;have e2:=hev _ _ hy;have e3:=wrap_succ q hq;simp [go_sem,e,e2,e3]) k
theorem slInts {p : Option Addr} {m c : Nat} (hg : Gok ops n L gd) (hx : evalL L x = some (.slice p m c)) (ht : Nat.blt t n = true)
    (k:St n ((t,.int .i64 (m:Int))::L) ops Q rest w):St n L ops Q (⟨some t,.call { callee:=.builtin .len,args:=#[x],argTypes:=#[39] },3,pos,aft,gd⟩::rest) w :=
  s_step hg rfl ht (fun ev hev=>by have e:=hev _ _ hx;simp [go_sem,e]) k
theorem slTypes {p : Option Addr} {m c : Nat} (hg : Gok ops n L gd) (hx : evalL L x = some (.slice p m c)) (ht : Nat.blt t n = true)
    (k:St n ((t,.int .i64 (m:Int))::L) ops Q rest w):St n L ops Q (⟨some t,.call { callee:=.builtin .len,args:=#[x],argTypes:=#[35] },3,pos,aft,gd⟩::rest) w :=
  s_step hg rfl ht (fun ev hev=>by have e:=hev _ _ hx;simp [go_sem,e]) k
theorem siTypes {p : Option Addr} {m c q B j : Nat} (hp : p = some ⟨B, j, none⟩) (hq : q < m) (hg : Gok ops n L gd) (hx : evalL L x = some (.slice p m c)) (hy : evalL L y = some (.int .i64 (q : Int))) (ht : Nat.blt t n = true)
    (k:St n ((t,.pointer (some ⟨B,j+q * 3,none⟩))::L) ops Q rest w):St n L ops Q (⟨some t,.indexAddr 35 x y,ty,pos,aft,gd⟩::rest) w :=
  s_step hg rfl ht (fun ev hev=>by have e:=hev _ _ hx;have e2:=hev _ _ hy;have h0:=Int.natCast_nonneg q;have h1:=Int.ofNat_lt.2 hq;subst hp;simp [go_sem,e,e2,h0,h1,hq]) k
theorem slInss {p : Option Addr} {m c : Nat} (hg : Gok ops n L gd) (hx : evalL L x = some (.slice p m c)) (ht : Nat.blt t n = true)
    (k:St n ((t,.int .i64 (m:Int))::L) ops Q rest w):St n L ops Q (⟨some t,.call { callee:=.builtin .len,args:=#[x],argTypes:=#[42] },3,pos,aft,gd⟩::rest) w :=
  s_step hg rfl ht (fun ev hev=>by have e:=hev _ _ hx;simp [go_sem,e]) k
theorem siInss {p : Option Addr} {m c q B j : Nat} (hp : p = some ⟨B, j, none⟩) (hq : q < m) (hg : Gok ops n L gd) (hx : evalL L x = some (.slice p m c)) (hy : evalL L y = some (.int .i64 (q : Int))) (ht : Nat.blt t n = true)
    (k:St n ((t,.pointer (some ⟨B,j+q * 8,none⟩))::L) ops Q rest w):St n L ops Q (⟨some t,.indexAddr 42 x y,ty,pos,aft,gd⟩::rest) w :=
  s_step hg rfl ht (fun ev hev=>by have e:=hev _ _ hx;have e2:=hev _ _ hy;have h0:=Int.natCast_nonneg q;have h1:=Int.ofNat_lt.2 hq;subst hp;simp [go_sem,e,e2,h0,h1,hq]) k
theorem slBlocks {p : Option Addr} {m c : Nat} (hg : Gok ops n L gd) (hx : evalL L x = some (.slice p m c)) (ht : Nat.blt t n = true)
    (k:St n ((t,.int .i64 (m:Int))::L) ops Q rest w):St n L ops Q (⟨some t,.call { callee:=.builtin .len,args:=#[x],argTypes:=#[36] },3,pos,aft,gd⟩::rest) w :=
  s_step hg rfl ht (fun ev hev=>by have e:=hev _ _ hx;simp [go_sem,e]) k
theorem siBlocks {p : Option Addr} {m c q B j : Nat} (hp : p = some ⟨B, j, none⟩) (hq : q < m) (hg : Gok ops n L gd) (hx : evalL L x = some (.slice p m c)) (hy : evalL L y = some (.int .i64 (q : Int))) (ht : Nat.blt t n = true)
    (k:St n ((t,.pointer (some ⟨B,j+q * 12,none⟩))::L) ops Q rest w):St n L ops Q (⟨some t,.indexAddr 36 x y,ty,pos,aft,gd⟩::rest) w :=
  s_step hg rfl ht (fun ev hev=>by have e:=hev _ _ hx;have e2:=hev _ _ hy;have h0:=Int.natCast_nonneg q;have h1:=Int.ofNat_lt.2 hq;subst hp;simp [go_sem,e,e2,h0,h1,hq]) k
theorem slFuncs {p : Option Addr} {m c : Nat} (hg : Gok ops n L gd) (hx : evalL L x = some (.slice p m c)) (ht : Nat.blt t n = true)
    (k:St n ((t,.int .i64 (m:Int))::L) ops Q rest w):St n L ops Q (⟨some t,.call { callee:=.builtin .len,args:=#[x],argTypes:=#[23] },3,pos,aft,gd⟩::rest) w :=
  s_step hg rfl ht (fun ev hev=>by have e:=hev _ _ hx;simp [go_sem,e]) k
theorem siFuncs {p : Option Addr} {m c q B j : Nat} (hp : p = some ⟨B, j, none⟩) (hq : q < m) (hg : Gok ops n L gd) (hx : evalL L x = some (.slice p m c)) (hy : evalL L y = some (.int .i64 (q : Int))) (ht : Nat.blt t n = true)
    (k:St n ((t,.pointer (some ⟨B,j+q * 4,none⟩))::L) ops Q rest w):St n L ops Q (⟨some t,.indexAddr 23 x y,ty,pos,aft,gd⟩::rest) w :=
  s_step hg rfl ht (fun ev hev=>by have e:=hev _ _ hx;have e2:=hev _ _ hy;have h0:=Int.natCast_nonneg q;have h1:=Int.ofNat_lt.2 hq;subst hp;simp [go_sem,e,e2,h0,h1,hq]) k
theorem sfType0 {B j : Nat} (hg : Gok ops n L gd) (hx : evalL L x = some (.pointer (some ⟨B, j, none⟩))) (ht : Nat.blt t n = true)
    (k:St n ((t,.pointer (some ⟨B,j,none⟩))::L) ops Q rest w):St n L ops Q (⟨some t,.fieldAddr 74 x 0,ty,pos,aft,gd⟩::rest) w :=
  s_step hg rfl ht (fun ev hev=>by have e:=hev _ _ hx;simp [go_sem,e]) k
theorem sfIns0 {B j : Nat} (hg : Gok ops n L gd) (hx : evalL L x = some (.pointer (some ⟨B, j, none⟩))) (ht : Nat.blt t n = true)
    (k:St n ((t,.pointer (some ⟨B,j,none⟩))::L) ops Q rest w):St n L ops Q (⟨some t,.fieldAddr 41 x 0,ty,pos,aft,gd⟩::rest) w :=
  s_step hg rfl ht (fun ev hev=>by have e:=hev _ _ hx;simp [go_sem,e]) k
theorem sfIns1 {B j : Nat} (hg : Gok ops n L gd) (hx : evalL L x = some (.pointer (some ⟨B, j, none⟩))) (ht : Nat.blt t n = true)
    (k:St n ((t,.pointer (some ⟨B,j+1,none⟩))::L) ops Q rest w):St n L ops Q (⟨some t,.fieldAddr 41 x 1,ty,pos,aft,gd⟩::rest) w :=
  s_step hg rfl ht (fun ev hev=>by have e:=hev _ _ hx;simp [go_sem,e]) k
theorem sfIns2 {B j : Nat} (hg : Gok ops n L gd) (hx : evalL L x = some (.pointer (some ⟨B, j, none⟩))) (ht : Nat.blt t n = true)
    (k:St n ((t,.pointer (some ⟨B,j+2,none⟩))::L) ops Q rest w):St n L ops Q (⟨some t,.fieldAddr 41 x 2,ty,pos,aft,gd⟩::rest) w :=
  s_step hg rfl ht (fun ev hev=>by have e:=hev _ _ hx;simp [go_sem,e]) k
theorem sfIns3 {B j : Nat} (hg : Gok ops n L gd) (hx : evalL L x = some (.pointer (some ⟨B, j, none⟩))) (ht : Nat.blt t n = true)
    (k:St n ((t,.pointer (some ⟨B,j+3,none⟩))::L) ops Q rest w):St n L ops Q (⟨some t,.fieldAddr 41 x 3,ty,pos,aft,gd⟩::rest) w :=
  s_step hg rfl ht (fun ev hev=>by have e:=hev _ _ hx;simp [go_sem,e]) k
theorem sfIns4 {B j : Nat} (hg : Gok ops n L gd) (hx : evalL L x = some (.pointer (some ⟨B, j, none⟩))) (ht : Nat.blt t n = true)
    (k:St n ((t,.pointer (some ⟨B,j+4,none⟩))::L) ops Q rest w):St n L ops Q (⟨some t,.fieldAddr 41 x 4,ty,pos,aft,gd⟩::rest) w :=
  s_step hg rfl ht (fun ev hev=>by have e:=hev _ _ hx;simp [go_sem,e]) k
theorem sfIns5 {B j : Nat} (hg : Gok ops n L gd) (hx : evalL L x = some (.pointer (some ⟨B, j, none⟩))) (ht : Nat.blt t n = true)
    (k:St n ((t,.pointer (some ⟨B,j+5,none⟩))::L) ops Q rest w):St n L ops Q (⟨some t,.fieldAddr 41 x 5,ty,pos,aft,gd⟩::rest) w :=
  s_step hg rfl ht (fun ev hev=>by have e:=hev _ _ hx;simp [go_sem,e]) k
theorem sfIns6 {B j : Nat} (hg : Gok ops n L gd) (hx : evalL L x = some (.pointer (some ⟨B, j, none⟩))) (ht : Nat.blt t n = true)
    (k:St n ((t,.pointer (some ⟨B,j+6,none⟩))::L) ops Q rest w):St n L ops Q (⟨some t,.fieldAddr 41 x 6,ty,pos,aft,gd⟩::rest) w :=
  s_step hg rfl ht (fun ev hev=>by have e:=hev _ _ hx;simp [go_sem,e]) k
theorem sfIns7 {B j : Nat} (hg : Gok ops n L gd) (hx : evalL L x = some (.pointer (some ⟨B, j, none⟩))) (ht : Nat.blt t n = true)
    (k:St n ((t,.pointer (some ⟨B,j+7,none⟩))::L) ops Q rest w):St n L ops Q (⟨some t,.fieldAddr 41 x 7,ty,pos,aft,gd⟩::rest) w :=
  s_step hg rfl ht (fun ev hev=>by have e:=hev _ _ hx;simp [go_sem,e]) k
theorem sfTo0 {B j : Nat} (hg : Gok ops n L gd) (hx : evalL L x = some (.pointer (some ⟨B, j, none⟩))) (ht : Nat.blt t n = true)
    (k:St n ((t,.pointer (some ⟨B,j,none⟩))::L) ops Q rest w):St n L ops Q (⟨some t,.fieldAddr 44 x 0,ty,pos,aft,gd⟩::rest) w :=
  s_step hg rfl ht (fun ev hev=>by have e:=hev _ _ hx;simp [go_sem,e]) k
theorem sfTo1 {B j : Nat} (hg : Gok ops n L gd) (hx : evalL L x = some (.pointer (some ⟨B, j, none⟩))) (ht : Nat.blt t n = true)
    (k:St n ((t,.pointer (some ⟨B,j+1,none⟩))::L) ops Q rest w):St n L ops Q (⟨some t,.fieldAddr 44 x 1,ty,pos,aft,gd⟩::rest) w :=
  s_step hg rfl ht (fun ev hev=>by have e:=hev _ _ hx;simp [go_sem,e]) k
theorem sfTo2 {B j : Nat} (hg : Gok ops n L gd) (hx : evalL L x = some (.pointer (some ⟨B, j, none⟩))) (ht : Nat.blt t n = true)
    (k:St n ((t,.pointer (some ⟨B,j+2,none⟩))::L) ops Q rest w):St n L ops Q (⟨some t,.fieldAddr 44 x 2,ty,pos,aft,gd⟩::rest) w :=
  s_step hg rfl ht (fun ev hev=>by have e:=hev _ _ hx;simp [go_sem,e]) k
theorem sfEnd0 {B j : Nat} (hg : Gok ops n L gd) (hx : evalL L x = some (.pointer (some ⟨B, j, none⟩))) (ht : Nat.blt t n = true)
    (k:St n ((t,.pointer (some ⟨B,j,none⟩))::L) ops Q rest w):St n L ops Q (⟨some t,.fieldAddr 46 x 0,ty,pos,aft,gd⟩::rest) w :=
  s_step hg rfl ht (fun ev hev=>by have e:=hev _ _ hx;simp [go_sem,e]) k
theorem sfEnd1 {B j : Nat} (hg : Gok ops n L gd) (hx : evalL L x = some (.pointer (some ⟨B, j, none⟩))) (ht : Nat.blt t n = true)
    (k:St n ((t,.pointer (some ⟨B,j+1,none⟩))::L) ops Q rest w):St n L ops Q (⟨some t,.fieldAddr 46 x 1,ty,pos,aft,gd⟩::rest) w :=
  s_step hg rfl ht (fun ev hev=>by have e:=hev _ _ hx;simp [go_sem,e]) k
theorem sfEnd2 {B j : Nat} (hg : Gok ops n L gd) (hx : evalL L x = some (.pointer (some ⟨B, j, none⟩))) (ht : Nat.blt t n = true)
    (k:St n ((t,.pointer (some ⟨B,j+2,none⟩))::L) ops Q rest w):St n L ops Q (⟨some t,.fieldAddr 46 x 2,ty,pos,aft,gd⟩::rest) w :=
  s_step hg rfl ht (fun ev hev=>by have e:=hev _ _ hx;simp [go_sem,e]) k
theorem sfEnd3 {B j : Nat} (hg : Gok ops n L gd) (hx : evalL L x = some (.pointer (some ⟨B, j, none⟩))) (ht : Nat.blt t n = true)
    (k:St n ((t,.pointer (some ⟨B,j+5,none⟩))::L) ops Q rest w):St n L ops Q (⟨some t,.fieldAddr 46 x 3,ty,pos,aft,gd⟩::rest) w :=
  s_step hg rfl ht (fun ev hev=>by have e:=hev _ _ hx;simp [go_sem,e]) k
theorem sfEnd4 {B j : Nat} (hg : Gok ops n L gd) (hx : evalL L x = some (.pointer (some ⟨B, j, none⟩))) (ht : Nat.blt t n = true)
    (k:St n ((t,.pointer (some ⟨B,j+8,none⟩))::L) ops Q rest w):St n L ops Q (⟨some t,.fieldAddr 46 x 4,ty,pos,aft,gd⟩::rest) w :=
  s_step hg rfl ht (fun ev hev=>by have e:=hev _ _ hx;simp [go_sem,e]) k
theorem sfBlock0 {B j : Nat} (hg : Gok ops n L gd) (hx : evalL L x = some (.pointer (some ⟨B, j, none⟩))) (ht : Nat.blt t n = true)
    (k:St n ((t,.pointer (some ⟨B,j,none⟩))::L) ops Q rest w):St n L ops Q (⟨some t,.fieldAddr 48 x 0,ty,pos,aft,gd⟩::rest) w :=
  s_step hg rfl ht (fun ev hev=>by have e:=hev _ _ hx;simp [go_sem,e]) k
theorem sfBlock1 {B j : Nat} (hg : Gok ops n L gd) (hx : evalL L x = some (.pointer (some ⟨B, j, none⟩))) (ht : Nat.blt t n = true)
    (k:St n ((t,.pointer (some ⟨B,j+1,none⟩))::L) ops Q rest w):St n L ops Q (⟨some t,.fieldAddr 48 x 1,ty,pos,aft,gd⟩::rest) w :=
  s_step hg rfl ht (fun ev hev=>by have e:=hev _ _ hx;simp [go_sem,e]) k
theorem sfBlock2 {B j : Nat} (hg : Gok ops n L gd) (hx : evalL L x = some (.pointer (some ⟨B, j, none⟩))) (ht : Nat.blt t n = true)
    (k:St n ((t,.pointer (some ⟨B,j+2,none⟩))::L) ops Q rest w):St n L ops Q (⟨some t,.fieldAddr 48 x 2,ty,pos,aft,gd⟩::rest) w :=
  s_step hg rfl ht (fun ev hev=>by have e:=hev _ _ hx;simp [go_sem,e]) k
theorem sfBlock3 {B j : Nat} (hg : Gok ops n L gd) (hx : evalL L x = some (.pointer (some ⟨B, j, none⟩))) (ht : Nat.blt t n = true)
    (k:St n ((t,.pointer (some ⟨B,j+3,none⟩))::L) ops Q rest w):St n L ops Q (⟨some t,.fieldAddr 48 x 3,ty,pos,aft,gd⟩::rest) w :=
  s_step hg rfl ht (fun ev hev=>by have e:=hev _ _ hx;simp [go_sem,e]) k
theorem sfFunc0 {B j : Nat} (hg : Gok ops n L gd) (hx : evalL L x = some (.pointer (some ⟨B, j, none⟩))) (ht : Nat.blt t n = true)
    (k:St n ((t,.pointer (some ⟨B,j,none⟩))::L) ops Q rest w):St n L ops Q (⟨some t,.fieldAddr 38 x 0,ty,pos,aft,gd⟩::rest) w :=
  s_step hg rfl ht (fun ev hev=>by have e:=hev _ _ hx;simp [go_sem,e]) k
theorem sfFunc1 {B j : Nat} (hg : Gok ops n L gd) (hx : evalL L x = some (.pointer (some ⟨B, j, none⟩))) (ht : Nat.blt t n = true)
    (k:St n ((t,.pointer (some ⟨B,j+1,none⟩))::L) ops Q rest w):St n L ops Q (⟨some t,.fieldAddr 38 x 1,ty,pos,aft,gd⟩::rest) w :=
  s_step hg rfl ht (fun ev hev=>by have e:=hev _ _ hx;simp [go_sem,e]) k
theorem sfFunc2 {B j : Nat} (hg : Gok ops n L gd) (hx : evalL L x = some (.pointer (some ⟨B, j, none⟩))) (ht : Nat.blt t n = true)
    (k:St n ((t,.pointer (some ⟨B,j+2,none⟩))::L) ops Q rest w):St n L ops Q (⟨some t,.fieldAddr 38 x 2,ty,pos,aft,gd⟩::rest) w :=
  s_step hg rfl ht (fun ev hev=>by have e:=hev _ _ hx;simp [go_sem,e]) k
theorem sfFunc3 {B j : Nat} (hg : Gok ops n L gd) (hx : evalL L x = some (.pointer (some ⟨B, j, none⟩))) (ht : Nat.blt t n = true)
    (k:St n ((t,.pointer (some ⟨B,j+3,none⟩))::L) ops Q rest w):St n L ops Q (⟨some t,.fieldAddr 38 x 3,ty,pos,aft,gd⟩::rest) w :=
  s_step hg rfl ht (fun ev hev=>by have e:=hev _ _ hx;simp [go_sem,e]) k
theorem sfModule0 {B j : Nat} (hg : Gok ops n L gd) (hx : evalL L x = some (.pointer (some ⟨B, j, none⟩))) (ht : Nat.blt t n = true)
    (k:St n ((t,.pointer (some ⟨B,j,none⟩))::L) ops Q rest w):St n L ops Q (⟨some t,.fieldAddr 25 x 0,ty,pos,aft,gd⟩::rest) w :=
  s_step hg rfl ht (fun ev hev=>by have e:=hev _ _ hx;simp [go_sem,e]) k
theorem sfFault0 {B j : Nat} (hg : Gok ops n L gd) (hx : evalL L x = some (.pointer (some ⟨B, j, none⟩))) (ht : Nat.blt t n = true)
    (k:St n ((t,.pointer (some ⟨B,j,none⟩))::L) ops Q rest w):St n L ops Q (⟨some t,.fieldAddr 27 x 0,ty,pos,aft,gd⟩::rest) w :=
  s_step hg rfl ht (fun ev hev=>by have e:=hev _ _ hx;simp [go_sem,e]) k
theorem sfFields0 {B j : Nat} (hg : Gok ops n L gd) (hx : evalL L x = some (.pointer (some ⟨B, j, none⟩))) (ht : Nat.blt t n = true)
    (k:St n ((t,.pointer (some ⟨B,j,none⟩))::L) ops Q rest w):St n L ops Q (⟨some t,.fieldAddr 124 x 0,ty,pos,aft,gd⟩::rest) w :=
  s_step hg rfl ht (fun ev hev=>by have e:=hev _ _ hx;simp [go_sem,e]) k
theorem sfFields1 {B j : Nat} (hg : Gok ops n L gd) (hx : evalL L x = some (.pointer (some ⟨B, j, none⟩))) (ht : Nat.blt t n = true)
    (k:St n ((t,.pointer (some ⟨B,j+1,none⟩))::L) ops Q rest w):St n L ops Q (⟨some t,.fieldAddr 124 x 1,ty,pos,aft,gd⟩::rest) w :=
  s_step hg rfl ht (fun ev hev=>by have e:=hev _ _ hx;simp [go_sem,e]) k
theorem sfFields2 {B j : Nat} (hg : Gok ops n L gd) (hx : evalL L x = some (.pointer (some ⟨B, j, none⟩))) (ht : Nat.blt t n = true)
    (k:St n ((t,.pointer (some ⟨B,j+2,none⟩))::L) ops Q rest w):St n L ops Q (⟨some t,.fieldAddr 124 x 2,ty,pos,aft,gd⟩::rest) w :=
  s_step hg rfl ht (fun ev hev=>by have e:=hev _ _ hx;simp [go_sem,e]) k
theorem sfFields3 {B j : Nat} (hg : Gok ops n L gd) (hx : evalL L x = some (.pointer (some ⟨B, j, none⟩))) (ht : Nat.blt t n = true)
    (k:St n ((t,.pointer (some ⟨B,j+3,none⟩))::L) ops Q rest w):St n L ops Q (⟨some t,.fieldAddr 124 x 3,ty,pos,aft,gd⟩::rest) w :=
  s_step hg rfl ht (fun ev hev=>by have e:=hev _ _ hx;simp [go_sem,e]) k
theorem sfFields4 {B j : Nat} (hg : Gok ops n L gd) (hx : evalL L x = some (.pointer (some ⟨B, j, none⟩))) (ht : Nat.blt t n = true)
    (k:St n ((t,.pointer (some ⟨B,j+4,none⟩))::L) ops Q rest w):St n L ops Q (⟨some t,.fieldAddr 124 x 4,ty,pos,aft,gd⟩::rest) w :=
  s_step hg rfl ht (fun ev hev=>by have e:=hev _ _ hx;simp [go_sem,e]) k
theorem sfFields5 {B j : Nat} (hg : Gok ops n L gd) (hx : evalL L x = some (.pointer (some ⟨B, j, none⟩))) (ht : Nat.blt t n = true)
    (k:St n ((t,.pointer (some ⟨B,j+5,none⟩))::L) ops Q rest w):St n L ops Q (⟨some t,.fieldAddr 124 x 5,ty,pos,aft,gd⟩::rest) w :=
  s_step hg rfl ht (fun ev hev=>by have e:=hev _ _ hx;simp [go_sem,e]) k
theorem sfFields6 {B j : Nat} (hg : Gok ops n L gd) (hx : evalL L x = some (.pointer (some ⟨B, j, none⟩))) (ht : Nat.blt t n = true)
    (k:St n ((t,.pointer (some ⟨B,j+6,none⟩))::L) ops Q rest w):St n L ops Q (⟨some t,.fieldAddr 124 x 6,ty,pos,aft,gd⟩::rest) w :=
  s_step hg rfl ht (fun ev hev=>by have e:=hev _ _ hx;simp [go_sem,e]) k
theorem sffuncLook1 {B j : Nat} (hg : Gok ops n L gd) (hx : evalL L x = some (.pointer (some ⟨B, j, none⟩))) (ht : Nat.blt t n = true)
    (k:St n ((t,.pointer (some ⟨B,j+1,none⟩))::L) ops Q rest w):St n L ops Q (⟨some t,.fieldAddr 89 x 1,ty,pos,aft,gd⟩::rest) w :=
  s_step hg rfl ht (fun ev hev=>by have e:=hev _ _ hx;simp [go_sem,e]) k
theorem sffuncLook2 {B j : Nat} (hg : Gok ops n L gd) (hx : evalL L x = some (.pointer (some ⟨B, j, none⟩))) (ht : Nat.blt t n = true)
    (k:St n ((t,.pointer (some ⟨B,j+5,none⟩))::L) ops Q rest w):St n L ops Q (⟨some t,.fieldAddr 89 x 2,ty,pos,aft,gd⟩::rest) w :=
  s_step hg rfl ht (fun ev hev=>by have e:=hev _ _ hx;simp [go_sem,e]) k
theorem sfblockLook0 {B j : Nat} (hg : Gok ops n L gd) (hx : evalL L x = some (.pointer (some ⟨B, j, none⟩))) (ht : Nat.blt t n = true)
    (k:St n ((t,.pointer (some ⟨B,j,none⟩))::L) ops Q rest w):St n L ops Q (⟨some t,.fieldAddr 116 x 0,ty,pos,aft,gd⟩::rest) w :=
  s_step hg rfl ht (fun ev hev=>by have e:=hev _ _ hx;simp [go_sem,e]) k
theorem sfblockLook1 {B j : Nat} (hg : Gok ops n L gd) (hx : evalL L x = some (.pointer (some ⟨B, j, none⟩))) (ht : Nat.blt t n = true)
    (k:St n ((t,.pointer (some ⟨B,j+6,none⟩))::L) ops Q rest w):St n L ops Q (⟨some t,.fieldAddr 116 x 1,ty,pos,aft,gd⟩::rest) w :=
  s_step hg rfl ht (fun ev hev=>by have e:=hev _ _ hx;simp [go_sem,e]) k
theorem sfblockLook2 {B j : Nat} (hg : Gok ops n L gd) (hx : evalL L x = some (.pointer (some ⟨B, j, none⟩))) (ht : Nat.blt t n = true)
    (k:St n ((t,.pointer (some ⟨B,j+18,none⟩))::L) ops Q rest w):St n L ops Q (⟨some t,.fieldAddr 116 x 2,ty,pos,aft,gd⟩::rest) w :=
  s_step hg rfl ht (fun ev hev=>by have e:=hev _ _ hx;simp [go_sem,e]) k
theorem scInt {B j : Nat} (hc : w.cell? ⟨B, j, none⟩ = some v) (hg : Gok ops n L gd) (hx : evalL L x = some (.pointer (some ⟨B, j, none⟩))) (ht : Nat.blt t n = true)
    (k:St n ((t,v)::L) ops Q rest w):St n L ops Q (⟨some t,.load 3 x,ty,pos,aft,gd⟩::rest) w :=
  s_step hg rfl ht (fun ev hev=>by have e:=hev _ _ hx;simp [go_sem,e,hc]) k
theorem sbInt (i : Nat) {B j : Nat} {c : Array Value} {bt : TypeId} (hW : Wd w0 w Bs) (hg : Gok ops n L gd) (hx : evalL L x = some (.pointer (some ⟨B, j, none⟩))) (hb : Bs[i]? = some (B, c, bt)) (hc : c[j]? = some v) (ht : Nat.blt t n = true)
    (k:St n ((t,v)::L) ops Q rest w):St n L ops Q (⟨some t,.load 3 x,ty,pos,aft,gd⟩::rest) w:=scInt (cellOf (hW.get i hb) j v hc) hg hx ht k
theorem scInt6 {B j : Nat} (hc : w.cell? ⟨B, j, none⟩ = some v) (hg : Gok ops n L gd) (hx : evalL L x = some (.pointer (some ⟨B, j, none⟩))) (ht : Nat.blt t n = true)
    (k:St n ((t,v)::L) ops Q rest w):St n L ops Q (⟨some t,.load 2 x,ty,pos,aft,gd⟩::rest) w :=
  s_step hg rfl ht (fun ev hev=>by have e:=hev _ _ hx;simp [go_sem,e,hc]) k
theorem sbInt6 (i : Nat) {B j : Nat} {c : Array Value} {bt : TypeId} (hW : Wd w0 w Bs) (hg : Gok ops n L gd) (hx : evalL L x = some (.pointer (some ⟨B, j, none⟩))) (hb : Bs[i]? = some (B, c, bt)) (hc : c[j]? = some v) (ht : Nat.blt t n = true)
    (k:St n ((t,v)::L) ops Q rest w):St n L ops Q (⟨some t,.load 2 x,ty,pos,aft,gd⟩::rest) w:=scInt6 (cellOf (hW.get i hb) j v hc) hg hx ht k
theorem scBool {B j : Nat} (hc : w.cell? ⟨B, j, none⟩ = some v) (hg : Gok ops n L gd) (hx : evalL L x = some (.pointer (some ⟨B, j, none⟩))) (ht : Nat.blt t n = true)
    (k:St n ((t,v)::L) ops Q rest w):St n L ops Q (⟨some t,.load 4 x,ty,pos,aft,gd⟩::rest) w :=
  s_step hg rfl ht (fun ev hev=>by have e:=hev _ _ hx;simp [go_sem,e,hc]) k
theorem sbBool (i : Nat) {B j : Nat} {c : Array Value} {bt : TypeId} (hW : Wd w0 w Bs) (hg : Gok ops n L gd) (hx : evalL L x = some (.pointer (some ⟨B, j, none⟩))) (hb : Bs[i]? = some (B, c, bt)) (hc : c[j]? = some v) (ht : Nat.blt t n = true)
    (k:St n ((t,v)::L) ops Q rest w):St n L ops Q (⟨some t,.load 4 x,ty,pos,aft,gd⟩::rest) w:=scBool (cellOf (hW.get i hb) j v hc) hg hx ht k
theorem scInts {B j : Nat} (hc : w.cell? ⟨B, j, none⟩ = some v) (hg : Gok ops n L gd) (hx : evalL L x = some (.pointer (some ⟨B, j, none⟩))) (ht : Nat.blt t n = true)
    (k:St n ((t,v)::L) ops Q rest w):St n L ops Q (⟨some t,.load 39 x,ty,pos,aft,gd⟩::rest) w :=
  s_step hg rfl ht (fun ev hev=>by have e:=hev _ _ hx;simp [go_sem,e,hc]) k
theorem sbInts (i : Nat) {B j : Nat} {c : Array Value} {bt : TypeId} (hW : Wd w0 w Bs) (hg : Gok ops n L gd) (hx : evalL L x = some (.pointer (some ⟨B, j, none⟩))) (hb : Bs[i]? = some (B, c, bt)) (hc : c[j]? = some v) (ht : Nat.blt t n = true)
    (k:St n ((t,v)::L) ops Q rest w):St n L ops Q (⟨some t,.load 39 x,ty,pos,aft,gd⟩::rest) w:=scInts (cellOf (hW.get i hb) j v hc) hg hx ht k
theorem scTypes {B j : Nat} (hc : w.cell? ⟨B, j, none⟩ = some v) (hg : Gok ops n L gd) (hx : evalL L x = some (.pointer (some ⟨B, j, none⟩))) (ht : Nat.blt t n = true)
    (k:St n ((t,v)::L) ops Q rest w):St n L ops Q (⟨some t,.load 35 x,ty,pos,aft,gd⟩::rest) w :=
  s_step hg rfl ht (fun ev hev=>by have e:=hev _ _ hx;simp [go_sem,e,hc]) k
theorem sbTypes (i : Nat) {B j : Nat} {c : Array Value} {bt : TypeId} (hW : Wd w0 w Bs) (hg : Gok ops n L gd) (hx : evalL L x = some (.pointer (some ⟨B, j, none⟩))) (hb : Bs[i]? = some (B, c, bt)) (hc : c[j]? = some v) (ht : Nat.blt t n = true)
    (k:St n ((t,v)::L) ops Q rest w):St n L ops Q (⟨some t,.load 35 x,ty,pos,aft,gd⟩::rest) w:=scTypes (cellOf (hW.get i hb) j v hc) hg hx ht k
theorem scInss {B j : Nat} (hc : w.cell? ⟨B, j, none⟩ = some v) (hg : Gok ops n L gd) (hx : evalL L x = some (.pointer (some ⟨B, j, none⟩))) (ht : Nat.blt t n = true)
    (k:St n ((t,v)::L) ops Q rest w):St n L ops Q (⟨some t,.load 42 x,ty,pos,aft,gd⟩::rest) w :=
  s_step hg rfl ht (fun ev hev=>by have e:=hev _ _ hx;simp [go_sem,e,hc]) k
theorem sbInss (i : Nat) {B j : Nat} {c : Array Value} {bt : TypeId} (hW : Wd w0 w Bs) (hg : Gok ops n L gd) (hx : evalL L x = some (.pointer (some ⟨B, j, none⟩))) (hb : Bs[i]? = some (B, c, bt)) (hc : c[j]? = some v) (ht : Nat.blt t n = true)
    (k:St n ((t,v)::L) ops Q rest w):St n L ops Q (⟨some t,.load 42 x,ty,pos,aft,gd⟩::rest) w:=scInss (cellOf (hW.get i hb) j v hc) hg hx ht k
theorem scBlocks {B j : Nat} (hc : w.cell? ⟨B, j, none⟩ = some v) (hg : Gok ops n L gd) (hx : evalL L x = some (.pointer (some ⟨B, j, none⟩))) (ht : Nat.blt t n = true)
    (k:St n ((t,v)::L) ops Q rest w):St n L ops Q (⟨some t,.load 36 x,ty,pos,aft,gd⟩::rest) w :=
  s_step hg rfl ht (fun ev hev=>by have e:=hev _ _ hx;simp [go_sem,e,hc]) k
theorem sbBlocks (i : Nat) {B j : Nat} {c : Array Value} {bt : TypeId} (hW : Wd w0 w Bs) (hg : Gok ops n L gd) (hx : evalL L x = some (.pointer (some ⟨B, j, none⟩))) (hb : Bs[i]? = some (B, c, bt)) (hc : c[j]? = some v) (ht : Nat.blt t n = true)
    (k:St n ((t,v)::L) ops Q rest w):St n L ops Q (⟨some t,.load 36 x,ty,pos,aft,gd⟩::rest) w:=scBlocks (cellOf (hW.get i hb) j v hc) hg hx ht k
theorem scFuncs {B j : Nat} (hc : w.cell? ⟨B, j, none⟩ = some v) (hg : Gok ops n L gd) (hx : evalL L x = some (.pointer (some ⟨B, j, none⟩))) (ht : Nat.blt t n = true)
    (k:St n ((t,v)::L) ops Q rest w):St n L ops Q (⟨some t,.load 23 x,ty,pos,aft,gd⟩::rest) w :=
  s_step hg rfl ht (fun ev hev=>by have e:=hev _ _ hx;simp [go_sem,e,hc]) k
theorem sbFuncs (i : Nat) {B j : Nat} {c : Array Value} {bt : TypeId} (hW : Wd w0 w Bs) (hg : Gok ops n L gd) (hx : evalL L x = some (.pointer (some ⟨B, j, none⟩))) (hb : Bs[i]? = some (B, c, bt)) (hc : c[j]? = some v) (ht : Nat.blt t n = true)
    (k:St n ((t,v)::L) ops Q rest w):St n L ops Q (⟨some t,.load 23 x,ty,pos,aft,gd⟩::rest) w:=scFuncs (cellOf (hW.get i hb) j v hc) hg hx ht k
theorem rangeOf {w : World} {B : Nat} {c : Array Value} {t : TypeId} (h : Blk w B c t) (j m : Nat) (hn : Nat.ble (j + m) c.size = true) : w.rangeAt B j ((c.toList.drop j).take m) := fun k v hk => by
  have hlt:k < ((c.toList.drop j).take m).length:=(List.getElem?_eq_some_iff.1 hk).1
  have hm:k < m:=by simp at hlt;omega
  rw [List.getElem?_take,if_pos hm,List.getElem?_drop] at hk
  exact cellOf h (j+k) v (by simpa using hk)
theorem thereOf {w : World} {B : Nat} {c : Array Value} {t : TypeId} (h : Blk w B c t) (j n : Nat) (hn : j + n ≤ c.size) : w.there B j n := fun k hk =>
  ⟨by rw [cellOf h (j+k) c[j+k] (by simp [show j+k < c.size by omega])];rfl,freeOf h (j+k)⟩
theorem rangeAt_bel {w w' : World} {B j : Nat} {cs : List Value} (h : w.rangeAt B j cs) (b : Below w.heap.size w w') : w'.rangeAt B j cs := fun k v hk => bel_cell b (h k v hk)
theorem sSE {d : TypeDesc} {B j : Nat} {cs : List Value} (hu : Tryz.prog.underlying ty2 = some d) (hd : d.isRow = true) (hr : w.rangeAt B j cs) (hi : (Tryz.prog.info? ty2).map (·.size) = some cs.length) (hg : Gok ops n L gd) (hx : evalL L x = some (.pointer (some ⟨B, j, none⟩))) (ht : Nat.blt t n = true)
    (k:St n ((t,.agg cs.toArray)::L) ops Q rest w):St n L ops Q (⟨some t,.load ty2 x,ty,pos,aft,gd⟩::rest) w :=
  s_step hg rfl ht (fun ev hev=>by
    have e:=hev _ _ hx
    have e2:=run_loadAt_mid (P:=Tryz.prog) w B j ty2 cs d hr hu hd hi
    unfold execOp
    simp only [e,Sem.run_bind,e2,Result.andThen_ok,Sem.run_pure]) k
theorem sS {d : TypeDesc} (i m : Nat) {B j : Nat} {c : Array Value} {bt : TypeId} (hu : Tryz.prog.underlying ty2 = some d) (hd : d.isRow = true) (hi : (Tryz.prog.info? ty2).map (·.size) = some m) (hW : Wd w0 w Bs) (hg : Gok ops n L gd) (hx : evalL L x = some (.pointer (some ⟨B, j, none⟩))) (hb : Bs[i]? = some (B, c, bt)) (hn : Nat.ble (j + m) c.size = true) (ht : Nat.blt t n = true)
    (k:St n ((t,.agg ((c.toList.drop j).take m).toArray)::L) ops Q rest w):St n L ops Q (⟨some t,.load ty2 x,ty,pos,aft,gd⟩::rest) w :=
  sSE hu hd (rangeOf (hW.get i hb) j m hn) (by rw [hi];have:j+m≤c.size:=by simpa [Nat.ble_eq] using hn
                                               simp;omega) hg hx ht k
theorem s_new {o : Oper} (c : Array Value) (bt : TypeId) (hW : Wd w0 w Bs) (hd : o.dst = some t) (hg : Gok ops n L o.guard) (ht : Nat.blt t n = true)
    (h:∀ ev:Operand→Value,(∀ x v,evalL L x=some v→ev x=v)→(execOp ev o).run Tryz.prog w=.ok (.value (.pointer (some ⟨w.heap.size,0,none⟩))) (w.alloc (.cells c bt)))
    (k:∀ w' B,Wd w0 w' ((B,c,bt)::Bs)→New w w' B→St n ((t,.pointer (some ⟨B,0,none⟩))::L) ops Q rest w'):St n L ops Q (o::rest) w:=fun a hF =>
  wpList_step fun K hK=>by
    rw [if_pos (hg.on hF)]
    unfold Oper.wp
    rw [h a.eval (fun x v e=>hF.ev e),Oper.upon_value,hd]
    exact hK _ _ (k _ _ (hW.new' c bt) ⟨bel1 w _,rfl,by simp⟩ _ (hF.put ht))
theorem sB {cs : Array Value} (hW : Wd w0 w Bs) (hg : Gok ops n L gd) (hx : evalL L x = some (.agg cs)) (ht : Nat.blt t n = true)
    (k:∀ w' B,Wd w0 w' ((B,cs,ty2)::Bs)→New w w' B→St n ((t,.pointer (some ⟨B,0,none⟩))::L) ops Q rest w'):St n L ops Q (⟨some t,.box ty2 x,ty,pos,aft,gd⟩::rest) w :=
  s_new cs ty2 hW rfl hg ht (fun ev hev=>by have e:=hev _ _ hx;simp [go_sem,e]) k
theorem sAType (hW : Wd w0 w Bs) (hg : Gok ops n L gd) (ht : Nat.blt t n = true)
    (k:∀ w' B,Wd w0 w' ((B,#[.int .i64 0,.int .i64 0,.slice none 0 0],74)::Bs)→New w w' B→St n ((t,.pointer (some ⟨B,0,none⟩))::L) ops Q rest w'):St n L ops Q (⟨some t,.alloc 74,ty,pos,aft,gd⟩::rest) w :=
  s_new #[.int .i64 0,.int .i64 0,.slice none 0 0] 74 hW rfl hg ht (fun ev hev=>by simp [go_sem]) k
theorem sAIns (hW : Wd w0 w Bs) (hg : Gok ops n L gd) (ht : Nat.blt t n = true)
    (k:∀ w' B,Wd w0 w' ((B,#[.int .i64 0,.int .i64 0,.int .i64 0,.int .i64 0,.int .i64 0,.int .i64 0,.slice none 0 0,.slice none 0 0],41)::Bs)→New w w' B→St n ((t,.pointer (some ⟨B,0,none⟩))::L) ops Q rest w'):St n L ops Q (⟨some t,.alloc 41,ty,pos,aft,gd⟩::rest) w :=
  s_new #[.int .i64 0,.int .i64 0,.int .i64 0,.int .i64 0,.int .i64 0,.int .i64 0,.slice none 0 0,.slice none 0 0] 41 hW rfl hg ht (fun ev hev=>by simp [go_sem]) k
theorem sABlock (hW : Wd w0 w Bs) (hg : Gok ops n L gd) (ht : Nat.blt t n = true)
    (k:∀ w' B,Wd w0 w' ((B,#[.int .i64 0,.slice none 0 0,.slice none 0 0,.int .i64 0,.int .i64 0,.int .i64 0,.slice none 0 0,.slice none 0 0,.int .i64 0,.slice none 0 0,.slice none 0 0,.slice none 0 0],48)::Bs)→New w w' B→St n ((t,.pointer (some ⟨B,0,none⟩))::L) ops Q rest w'):St n L ops Q (⟨some t,.alloc 48,ty,pos,aft,gd⟩::rest) w :=
  s_new #[.int .i64 0,.slice none 0 0,.slice none 0 0,.int .i64 0,.int .i64 0,.int .i64 0,.slice none 0 0,.slice none 0 0,.int .i64 0,.slice none 0 0,.slice none 0 0,.slice none 0 0] 48 hW rfl hg ht (fun ev hev=>by simp [go_sem]) k
theorem sAFunc (hW : Wd w0 w Bs) (hg : Gok ops n L gd) (ht : Nat.blt t n = true)
    (k:∀ w' B,Wd w0 w' ((B,#[.int .i64 0,.slice none 0 0,.slice none 0 0,.slice none 0 0],38)::Bs)→New w w' B→St n ((t,.pointer (some ⟨B,0,none⟩))::L) ops Q rest w'):St n L ops Q (⟨some t,.alloc 38,ty,pos,aft,gd⟩::rest) w :=
  s_new #[.int .i64 0,.slice none 0 0,.slice none 0 0,.slice none 0 0] 38 hW rfl hg ht (fun ev hev=>by simp [go_sem]) k
theorem sAFault (hW : Wd w0 w Bs) (hg : Gok ops n L gd) (ht : Nat.blt t n = true)
    (k:∀ w' B,Wd w0 w' ((B,#[.int .i64 0,.int .i64 0],27)::Bs)→New w w' B→St n ((t,.pointer (some ⟨B,0,none⟩))::L) ops Q rest w'):St n L ops Q (⟨some t,.alloc 27,ty,pos,aft,gd⟩::rest) w :=
  s_new #[.int .i64 0,.int .i64 0] 27 hW rfl hg ht (fun ev hev=>by simp [go_sem]) k
theorem sAFields (hW : Wd w0 w Bs) (hg : Gok ops n L gd) (ht : Nat.blt t n = true)
    (k:∀ w' B,Wd w0 w' ((B,#[.bool false,.bool false,.bool false,.bool false,.bool false,.bool false,.bool false],124)::Bs)→New w w' B→St n ((t,.pointer (some ⟨B,0,none⟩))::L) ops Q rest w'):St n L ops Q (⟨some t,.alloc 124,ty,pos,aft,gd⟩::rest) w :=
  s_new #[.bool false,.bool false,.bool false,.bool false,.bool false,.bool false,.bool false] 124 hW rfl hg ht (fun ev hev=>by simp [go_sem]) k
theorem sT (i : Nat) {B j : Nat} {c : Array Value} {bt : TypeId} {cells : List Value} (hW : Wd w0 w Bs)
    (hx:evalL L x=some (.pointer (some ⟨B,j,none⟩))) (hy:evalL L y=some (.agg cells.toArray)) (hi:(Tryz.prog.info? ty2).map (·.size)=some cells.length) (h1:cells.all (·.oneCell')=true)
    (hb:Bs[i]?=some (B,c,bt)) (hs:Nat.ble (j+cells.length) c.size=true)
    (k:∀ w',Wd w0 w' (Bs.set i (B,spliced c j cells,bt))→St n L ops Q rest w'):St n L ops Q (⟨none,.store ty2 x y,ty,pos,aft,none⟩::rest) w:=fun a hF=>by
  have hn:j+cells.length≤c.size:=by simpa [Nat.ble_eq] using hs
  refine fr_set hF (hW.setAt i hb j cells hs rfl rfl) rfl rfl (fun K hK=>?_) (fun w' hW'=>k w' hW' a hF)
  have e:=hF.ev hx
  have e2:=hF.ev hy
  have:=run_storeAt_mid (P:=Tryz.prog) w B j ty2 cells.toArray (by simpa using thereOf (hW.get i hb) j cells.length hn) (by simpa using hi) (by simpa using h1)
  unfold Oper.wp execOp
  simp only [e,e2,Sem.run_bind,this,Result.andThen_ok,Sem.run_pure]
  rw [Oper.upon_skip];simpa [Act.put] using hK
theorem s1 (i : Nat) {B j : Nat} {c : Array Value} {bt : TypeId} (hi : (Tryz.prog.info? ty2).map (·.size) = some 1) (hW : Wd w0 w Bs)
    (hx:evalL L x=some (.pointer (some ⟨B,j,none⟩))) (hy:evalL L y=some v) (hv:v.cells=#[v]) (h1:v.oneCell'=true)
    (hb:Bs[i]?=some (B,c,bt)) (hs:Nat.ble (j+1) c.size=true)
    (k:∀ w',Wd w0 w' (Bs.set i (B,spliced c j [v],bt))→St n L ops Q rest w'):St n L ops Q (⟨none,.store ty2 x y,ty,pos,aft,none⟩::rest) w:=fun a hF=>by
  have hn:j+1≤c.size:=by simpa [Nat.ble_eq] using hs
  refine fr_set hF (hW.setAt i hb j [v] hs rfl rfl) rfl rfl (fun K hK=>?_) (fun w' hW'=>k w' hW' a hF)
  have e:=hF.ev hx
  have e2:=hF.ev hy
  have ht:=thereOf (hW.get i hb) j 1 hn
  have h2:=run_storeCells_cells (P:=Tryz.prog) B j [v] 0 w (fun k hk=>by simpa using (ht k (by simpa using hk)).1) (fun k hk=>by simpa using (ht k (by simpa using hk)).2) (fun u hu=>by simp at hu;subst hu;exact h1)
  have h3:(Instr.storeAt ty2 (.pointer (some ⟨B,j,none⟩)) v).run Tryz.prog w=.ok () (w.setCells B j [v]):=by
    cases hq:Tryz.prog.info? ty2 with
    | none=>simp [hq] at hi
    | some q =>
      have hs1:q.size=1:=by simpa [hq] using hi
      simp only [Nat.add_zero] at h2
      simp [Instr.storeAt,Instr.sureAddr,storeVar,sizeOf,typeInfo,hq,hv,hs1,h2]
  unfold Oper.wp execOp
  simp only [e,e2,Sem.run_bind,h3,Result.andThen_ok,Sem.run_pure]
  rw [Oper.upon_skip];simpa [Act.put] using hK
theorem s_call {o : Oper} {f : FuncId} {args : Array Value} {V : Value} (hW : Wd w0 w Bs) (hg : Gok ops n L o.guard) (hc : Rd Tryz.prog f args w V) (hd : o.dst = some t) (ht : Nat.blt t n = true)
    (h:∀ ev:Operand→Value,(∀ x v,evalL L x=some v→ev x=v)→(execOp ev o).run Tryz.prog w=.ok (.enter f args) w)
    (k:∀ w',Wd w0 w' Bs→St n ((t,V)::L) ops Q rest w'):St n L ops Q (o::rest) w:=fun a hF =>
  wpList_step fun K hK=>by
    rw [if_pos (hg.on hF)]
    unfold Oper.wp
    rw [h a.eval (fun x v e=>hF.ev e),Oper.upon_enter]
    refine hc.mono ?_
    rintro e w9 ⟨rfl,hb⟩
    rw [hd]
    exact hK _ _ (k _ (hW.below hb) _ (hF.put ht))
def CF (f : FuncId) : Prop := ∀ (args : Array Value) (w : World), (callFunc f args).run Tryz.prog w = .ok (.enter f args) w
theorem cf_of {f : FuncId} {fn : Func} (hf : Tryz.prog.funcs[f]? = some fn) (h1 : (fn.name == "runtime.NumGoroutine") = false) (h2 : fn.body.isNone = false) : CF f := fun args w => by
  have h3 : ¬ fn.name = "runtime.NumGoroutine" := by simpa using h1
  have h4:¬ fn.body=none:=by intro h;rw [h] at h2;cases h2
  simp [callFunc,hf,h3,h4]
theorem sc_1 {f : FuncId} {ts : Array TypeId} {x0 : Operand} {v0 : Value} {V : Value} (hcf : CF f) (hW : Wd w0 w Bs) (hc : Rd Tryz.prog f #[v0] w V) (hg : Gok ops n L gd) (h0 : evalL L x0 = some v0) (ht : Nat.blt t n = true)
    (k:∀ w',Wd w0 w' Bs→St n ((t,V)::L) ops Q rest w'):St n L ops Q (⟨some t,.call { callee:=.value (.func f),args:=#[x0],argTypes:=ts },ty,pos,aft,gd⟩::rest) w :=
  s_call hW hg hc rfl ht (fun ev hev=>by have e0:=hev _ _ h0;have ef:=hev (.func f) _ rfl;have ec:=hcf;unfold CF at ec;simp [go_sem,ef,ec,e0]) k
theorem sc_2 {f : FuncId} {ts : Array TypeId} {x0 x1 : Operand} {v0 v1 : Value} {V : Value} (hcf : CF f) (hW : Wd w0 w Bs) (hc : Rd Tryz.prog f #[v0, v1] w V) (hg : Gok ops n L gd) (h0 : evalL L x0 = some v0) (h1 : evalL L x1 = some v1) (ht : Nat.blt t n = true)
    (k:∀ w',Wd w0 w' Bs→St n ((t,V)::L) ops Q rest w'):St n L ops Q (⟨some t,.call { callee:=.value (.func f),args:=#[x0,x1],argTypes:=ts },ty,pos,aft,gd⟩::rest) w :=
  s_call hW hg hc rfl ht (fun ev hev=>by have e0:=hev _ _ h0;have e1:=hev _ _ h1;have ef:=hev (.func f) _ rfl;have ec:=hcf;unfold CF at ec;simp [go_sem,ef,ec,e0,e1]) k
theorem sc_3 {f : FuncId} {ts : Array TypeId} {x0 x1 x2 : Operand} {v0 v1 v2 : Value} {V : Value} (hcf : CF f) (hW : Wd w0 w Bs) (hc : Rd Tryz.prog f #[v0, v1, v2] w V) (hg : Gok ops n L gd) (h0 : evalL L x0 = some v0) (h1 : evalL L x1 = some v1) (h2 : evalL L x2 = some v2) (ht : Nat.blt t n = true)
    (k:∀ w',Wd w0 w' Bs→St n ((t,V)::L) ops Q rest w'):St n L ops Q (⟨some t,.call { callee:=.value (.func f),args:=#[x0,x1,x2],argTypes:=ts },ty,pos,aft,gd⟩::rest) w :=
  s_call hW hg hc rfl ht (fun ev hev=>by have e0:=hev _ _ h0;have e1:=hev _ _ h1;have e2:=hev _ _ h2;have ef:=hev (.func f) _ rfl;have ec:=hcf;unfold CF at ec;simp [go_sem,ef,ec,e0,e1,e2]) k
theorem sv_10 {f : FuncId} {ts : Array TypeId} {xf : Operand} {x0 : Operand} {v0 : Value} {V : Value} (hcf : CF f) (hW : Wd w0 w Bs) (hc : Rd Tryz.prog f #[v0] w V) (hg : Gok ops n L gd) (hf : evalL L xf = some (.func (.func f) #[] #[])) (h0 : evalL L x0 = some v0) (ht : Nat.blt t n = true)
    (k:∀ w',Wd w0 w' Bs→St n ((t,V)::L) ops Q rest w'):St n L ops Q (⟨some t,.call { callee:=.value xf,args:=#[x0],argTypes:=ts },ty,pos,aft,gd⟩::rest) w :=
  s_call hW hg hc rfl ht (fun ev hev=>by have e0:=hev _ _ h0;have ef:=hev _ _ hf;have ec:=hcf;unfold CF at ec;simp [go_sem,ef,ec,e0]) k
theorem sv_21 {f : FuncId} {ts : Array TypeId} {xf : Operand} {x0 x1 : Operand} {v0 v1 cp : Value} {V : Value} (hcf : CF f) (hW : Wd w0 w Bs) (hc : Rd Tryz.prog f #[v0, v1, cp] w V) (hg : Gok ops n L gd) (hf : evalL L xf = some (.func (.func f) #[] #[cp])) (h0 : evalL L x0 = some v0) (h1 : evalL L x1 = some v1) (ht : Nat.blt t n = true)
    (k:∀ w',Wd w0 w' Bs→St n ((t,V)::L) ops Q rest w'):St n L ops Q (⟨some t,.call { callee:=.value xf,args:=#[x0,x1],argTypes:=ts },ty,pos,aft,gd⟩::rest) w :=
  s_call hW hg hc rfl ht (fun ev hev=>by have e0:=hev _ _ h0;have e1:=hev _ _ h1;have ef:=hev _ _ hf;have ec:=hcf;unfold CF at ec;simp [go_sem,ef,ec,e0,e1]) k
theorem cf58 : CF 58 := cf_of Tryz.func58 (by kernel_rfl) (by kernel_rfl)
theorem cf73 : CF 73 := cf_of Tryz.func73 (by kernel_rfl) (by kernel_rfl)
theorem cf29 : CF 29 := cf_of Tryz.func29 (by kernel_rfl) (by kernel_rfl)
theorem cf94 : CF 94 := cf_of Tryz.func94 (by kernel_rfl) (by kernel_rfl)
theorem cf55 : CF 55 := cf_of Tryz.func55 (by kernel_rfl) (by kernel_rfl)
theorem cf59 : CF 59 := cf_of Tryz.func59 (by kernel_rfl) (by kernel_rfl)
theorem cf57 : CF 57 := cf_of Tryz.func57 (by kernel_rfl) (by kernel_rfl)
theorem cf53 : CF 53 := cf_of Tryz.func53 (by kernel_rfl) (by kernel_rfl)
theorem cf36 : CF 36 := cf_of Tryz.func36 (by kernel_rfl) (by kernel_rfl)
theorem cf37 : CF 37 := cf_of Tryz.func37 (by kernel_rfl) (by kernel_rfl)
theorem cf38 : CF 38 := cf_of Tryz.func38 (by kernel_rfl) (by kernel_rfl)
theorem cf28 : CF 28 := cf_of Tryz.func28 (by kernel_rfl) (by kernel_rfl)
theorem cf30 : CF 30 := cf_of Tryz.func30 (by kernel_rfl) (by kernel_rfl)
theorem cf31 : CF 31 := cf_of Tryz.func31 (by kernel_rfl) (by kernel_rfl)
theorem cf25 : CF 25 := cf_of Tryz.func25 (by kernel_rfl) (by kernel_rfl)
theorem cf120 : CF 120 := cf_of Tryz.func120 (by kernel_rfl) (by kernel_rfl)
theorem cf121 : CF 121 := cf_of Tryz.func121 (by kernel_rfl) (by kernel_rfl)
theorem cf122 : CF 122 := cf_of Tryz.func122 (by kernel_rfl) (by kernel_rfl)
theorem cf81 : CF 81 := cf_of Tryz.func81 (by kernel_rfl) (by kernel_rfl)
theorem cf123 : CF 123 := cf_of Tryz.func123 (by kernel_rfl) (by kernel_rfl)
theorem cf82 : CF 82 := cf_of Tryz.func82 (by kernel_rfl) (by kernel_rfl)
theorem cf71 : CF 71 := cf_of Tryz.func71 (by kernel_rfl) (by kernel_rfl)
theorem cf72 : CF 72 := cf_of Tryz.func72 (by kernel_rfl) (by kernel_rfl)
theorem cf74 : CF 74 := cf_of Tryz.func74 (by kernel_rfl) (by kernel_rfl)
theorem cf75 : CF 75 := cf_of Tryz.func75 (by kernel_rfl) (by kernel_rfl)
theorem cf76 : CF 76 := cf_of Tryz.func76 (by kernel_rfl) (by kernel_rfl)
theorem cf54 : CF 54 := cf_of Tryz.func54 (by kernel_rfl) (by kernel_rfl)
theorem cf52 : CF 52 := cf_of Tryz.func52 (by kernel_rfl) (by kernel_rfl)
theorem cf144 : CF 144 := cf_of Tryz.func144 (by kernel_rfl) (by kernel_rfl)
theorem cf146 : CF 146 := cf_of Tryz.func146 (by kernel_rfl) (by kernel_rfl)
theorem cf147 : CF 147 := cf_of Tryz.func147 (by kernel_rfl) (by kernel_rfl)
theorem cf148 : CF 148 := cf_of Tryz.func148 (by kernel_rfl) (by kernel_rfl)
theorem cf91 : CF 91 := cf_of Tryz.func91 (by kernel_rfl) (by kernel_rfl)
theorem cf92 : CF 92 := cf_of Tryz.func92 (by kernel_rfl) (by kernel_rfl)
theorem cf93 : CF 93 := cf_of Tryz.func93 (by kernel_rfl) (by kernel_rfl)
theorem cf95 : CF 95 := cf_of Tryz.func95 (by kernel_rfl) (by kernel_rfl)
theorem cf96 : CF 96 := cf_of Tryz.func96 (by kernel_rfl) (by kernel_rfl)
theorem cf116 : CF 116 := cf_of Tryz.func116 (by kernel_rfl) (by kernel_rfl)
theorem cf117 : CF 117 := cf_of Tryz.func117 (by kernel_rfl) (by kernel_rfl)
theorem cf118 : CF 118 := cf_of Tryz.func118 (by kernel_rfl) (by kernel_rfl)
theorem cf119 : CF 119 := cf_of Tryz.func119 (by kernel_rfl) (by kernel_rfl)
theorem cf143 : CF 143 := cf_of Tryz.func143 (by kernel_rfl) (by kernel_rfl)
theorem infType : (Tryz.prog.info? 74).map (·.size) = some 3 := by kernel_rfl
theorem infIns : (Tryz.prog.info? 41).map (·.size) = some 8 := by kernel_rfl
theorem infTo : (Tryz.prog.info? 44).map (·.size) = some 3 := by kernel_rfl
theorem infEnd : (Tryz.prog.info? 46).map (·.size) = some 9 := by kernel_rfl
theorem infBlock : (Tryz.prog.info? 48).map (·.size) = some 12 := by kernel_rfl
theorem infFunc : (Tryz.prog.info? 38).map (·.size) = some 4 := by kernel_rfl
theorem infModule : (Tryz.prog.info? 25).map (·.size) = some 1 := by kernel_rfl
theorem infFault : (Tryz.prog.info? 27).map (·.size) = some 2 := by kernel_rfl
theorem infFields : (Tryz.prog.info? 124).map (·.size) = some 7 := by kernel_rfl
theorem inffuncLook : (Tryz.prog.info? 89).map (·.size) = some 6 := by kernel_rfl
theorem infblockLook : (Tryz.prog.info? 116).map (·.size) = some 19 := by kernel_rfl
theorem inf1Int : (Tryz.prog.info? 3).map (·.size) = some 1 := by kernel_rfl
theorem inf1Int6 : (Tryz.prog.info? 2).map (·.size) = some 1 := by kernel_rfl
theorem inf1Ints : (Tryz.prog.info? 39).map (·.size) = some 1 := by kernel_rfl
theorem ret_box {fn : Func} {R : Ending → World → Prop} {d : TypeDesc} (i : Nat) {B : Nat} {c : Array Value} {bt : TypeId} (hF : Fr n a L) (hW : Wd w0 w Bs) (hr : fn.results = #[.cell t ty]) (hv : L.lookup t = some (.pointer (some ⟨B, 0, none⟩))) (hb : Bs[i]? = some (B, c, bt))
    (hu:Tryz.prog.underlying ty=some d) (hd:d.isRow=true) (hi:(Tryz.prog.info? ty).map (·.size)=some c.size) (hR:R (.returned (.agg c)) w):bodyPost Tryz.prog fn R .ret a w:=by
  refine bodyPost_ret ?_ hF.defers hR
  have e:=hF.sl2 t _ hv
  have e2:=run_loadVar_mid (P:=Tryz.prog) w B 0 ty c.toList d (by have:=rangeOf (hW.get i hb) 0 c.size (by simp [Nat.ble_eq]);rw [List.drop_zero,List.take_of_length_le (by simp)] at this;exact this) hu hd (by simpa using hi)
  simp only [Array.toArray_toList] at e2
  simp [results,hr,e,asAddr,e2]
end
abbrev I64 (x : Int) : Prop := -9223372036854775808 ≤ x ∧ x ≤ 9223372036854775807
structure IP where
  pR:Option Addr
  cR:Nat
  pA:Option Addr
  cA:Nat
structure EP where
  pYR:Option Addr
  cYR:Nat
  pYA:Option Addr
  cYA:Nat
  pNR:Option Addr
  cNR:Nat
  pNA:Option Addr
  cNA:Nat
  pA:Option Addr
  cA:Nat
structure BP where
  pP:Option Addr
  cP:Nat
  pC:Option Addr
  cC:Nat
  e:EP
structure FP where
  pP:Option Addr
  cP:Nat
  pR:Option Addr
  cR:Nat
  pB:Option Addr
  cB:Nat
structure TIn2 (w : World) (O : Nat → Prop) (x : MTo) (pR : Option Addr) (cR : Nat) (pA : Option Addr) (cA : Nat) : Prop where
  regs:intsL.In w O x.regs [.slice pR x.regs.length cR]
  args:intsL.In w O x.args [.slice pA x.args.length cA]
  bnd:I64 x.block
structure IIn (w : World) (O : Nat → Prop) (x : MIns) (i : IP) : Prop where
  regs:intsL.In w O x.regs [.slice i.pR x.regs.length i.cR]
  args:intsL.In w O x.args [.slice i.pA x.args.length i.cA]
  bnd:I64 x.op∧I64 x.a∧I64 x.b∧I64 x.c∧I64 x.k∧I64 x.n
structure EIn (w : World) (O : Nat → Prop) (x : MEnd) (e : EP) : Prop where
  yes:TIn2 w O x.yes e.pYR e.cYR e.pYA e.cYA
  no:TIn2 w O x.no e.pNR e.cNR e.pNA e.cNA
  args:intsL.In w O x.args [.slice e.pA x.args.length e.cA]
  bnd:I64 x.op∧I64 x.a
structure BIn (w : World) (O : Nat → Prop) {n : Nat} (x : MBlock n) (b : BP) : Prop where
  params:(typesL n).In w O x.params [.slice b.pP x.params.length b.cP]
  code:insL.list.In w O x.code [.slice b.pC x.code.length b.cC]
  fin:EIn w O x.fin b.e
  bnd:I64 x.regs
structure FIn (w : World) (O : Nat → Prop) {n : Nat} (x : MFunc n) (f : FP) : Prop where
  params:(typesL n).In w O x.params [.slice f.pP x.params.length f.cP]
  results:(typesL n).In w O x.results [.slice f.pR x.results.length f.cR]
  blocks:(blockL n).list.In w O x.blocks [.slice f.pB x.blocks.length f.cB]
  bnd:I64 x.regs
section
variable {w w' : World} {O O' : Nat → Prop} {n : Nat} {cs : List Value}
theorem TIn2.keep {x : MTo} {pR pA : Option Addr} {cR cA : Nat} (hb : ∀ k, O k → k < w.heap.size → w'.heap[k]? = w.heap[k]?) (hl : ∀ k, O k → k < w.heap.size → O' k) (h : TIn2 w O x pR cR pA cA) : TIn2 w' O' x pR cR pA cA := ⟨Lay.keep _ hb hl h.regs, Lay.keep _ hb hl h.args, h.bnd⟩
theorem TIn2.below {x : MTo} {pR pA : Option Addr} {cR cA : Nat} (h : TIn2 w O x pR cR pA cA) (hbl : Below w.heap.size w w') : TIn2 w' O x pR cR pA cA := h.keep (fun k _ hk => hbl.block k hk) (fun _ h _ => h)
theorem TIn2.mono {x : MTo} {pR pA : Option Addr} {cR cA : Nat} (h : TIn2 w O x pR cR pA cA) (hl : ∀ k, O k → k < w.heap.size → O' k) : TIn2 w O' x pR cR pA cA := h.keep (fun k _ _ => rfl) hl
theorem IIn.keep {x : MIns} {i : IP} (hb : ∀ k, O k → k < w.heap.size → w'.heap[k]? = w.heap[k]?) (hl : ∀ k, O k → k < w.heap.size → O' k) (h : IIn w O x i) : IIn w' O' x i := ⟨Lay.keep _ hb hl h.regs, Lay.keep _ hb hl h.args, h.bnd⟩
theorem IIn.below {x : MIns} {i : IP} (h : IIn w O x i) (hbl : Below w.heap.size w w') : IIn w' O x i := h.keep (fun k _ hk => hbl.block k hk) (fun _ h _ => h)
theorem IIn.mono {x : MIns} {i : IP} (h : IIn w O x i) (hl : ∀ k, O k → k < w.heap.size → O' k) : IIn w O' x i := h.keep (fun k _ _ => rfl) hl
theorem EIn.keep {x : MEnd} {e : EP} (hb : ∀ k, O k → k < w.heap.size → w'.heap[k]? = w.heap[k]?) (hl : ∀ k, O k → k < w.heap.size → O' k) (h : EIn w O x e) : EIn w' O' x e := ⟨h.yes.keep hb hl, h.no.keep hb hl, Lay.keep _ hb hl h.args, h.bnd⟩
theorem EIn.below {x : MEnd} {e : EP} (h : EIn w O x e) (hbl : Below w.heap.size w w') : EIn w' O x e := h.keep (fun k _ hk => hbl.block k hk) (fun _ h _ => h)
theorem EIn.mono {x : MEnd} {e : EP} (h : EIn w O x e) (hl : ∀ k, O k → k < w.heap.size → O' k) : EIn w O' x e := h.keep (fun k _ _ => rfl) hl
theorem BIn.keep {x : MBlock n} {b : BP} (hb : ∀ k, O k → k < w.heap.size → w'.heap[k]? = w.heap[k]?) (hl : ∀ k, O k → k < w.heap.size → O' k) (h : BIn w O x b) : BIn w' O' x b := ⟨Lay.keep _ hb hl h.params, Lay.keep _ hb hl h.code, h.fin.keep hb hl, h.bnd⟩
theorem BIn.below {x : MBlock n} {b : BP} (h : BIn w O x b) (hbl : Below w.heap.size w w') : BIn w' O x b := h.keep (fun k _ hk => hbl.block k hk) (fun _ h _ => h)
theorem BIn.mono {x : MBlock n} {b : BP} (h : BIn w O x b) (hl : ∀ k, O k → k < w.heap.size → O' k) : BIn w O' x b := h.keep (fun k _ _ => rfl) hl
theorem FIn.keep {x : MFunc n} {f : FP} (hb : ∀ k, O k → k < w.heap.size → w'.heap[k]? = w.heap[k]?) (hl : ∀ k, O k → k < w.heap.size → O' k) (h : FIn w O x f) : FIn w' O' x f := ⟨Lay.keep _ hb hl h.params, Lay.keep _ hb hl h.results, Lay.keep _ hb hl h.blocks, h.bnd⟩
theorem FIn.below {x : MFunc n} {f : FP} (h : FIn w O x f) (hbl : Below w.heap.size w w') : FIn w' O x f := h.keep (fun k _ hk => hbl.block k hk) (fun _ h _ => h)
theorem FIn.mono {x : MFunc n} {f : FP} (h : FIn w O x f) (hl : ∀ k, O k → k < w.heap.size → O' k) : FIn w O' x f := h.keep (fun k _ _ => rfl) hl
theorem to_open {x : MTo} (h : toL.In w O x cs) : ∃ pR cR pA cA, cs = [.int .i64 x.block, .slice pR x.regs.length cR, .slice pA x.args.length cA] ∧ TIn2 w O x pR cR pA cA := by
  obtain ⟨a,c,b,d,rfl,h1,h2,h0⟩:=to_form h
  exact ⟨a,c,b,d,rfl,h1,h2,h0⟩
theorem ins_open {x : MIns} (h : insL.In w O x cs) : ∃ i : IP, cs = [.int .i64 x.op, .int .i64 x.a, .int .i64 x.b, .int .i64 x.c, .int .i64 x.k, .int .i64 x.n, .slice i.pR x.regs.length i.cR, .slice i.pA x.args.length i.cA] ∧ IIn w O x i := by
  obtain ⟨a,c,b,d,rfl,h1,h2,h0⟩:=ins_form h
  exact ⟨⟨a,c,b,d⟩,rfl,h1,h2,h0⟩
theorem end_open {x : MEnd} (h : endL.In w O x cs) : ∃ e : EP, cs = [.int .i64 x.op, .int .i64 x.a, .int .i64 x.yes.block, .slice e.pYR x.yes.regs.length e.cYR, .slice e.pYA x.yes.args.length e.cYA, .int .i64 x.no.block, .slice e.pNR x.no.regs.length e.cNR, .slice e.pNA x.no.args.length e.cNA, .slice e.pA x.args.length e.cA] ∧ EIn w O x e := by
  obtain ⟨c1,c2,a,c,rfl,h1,h2,h3,h0⟩:=end_form h
  obtain ⟨pR,cR,pA,cA,rfl,k1⟩:=to_open h1
  obtain ⟨qR,dR,qA,dA,rfl,k2⟩:=to_open h2
  exact ⟨⟨pR,cR,pA,cA,qR,dR,qA,dA,a,c⟩,rfl,k1,k2,h3,h0⟩
theorem block_open {x : MBlock n} (h : (blockL n).In w O x cs) : ∃ b : BP, cs = [.int .i64 x.regs, .slice b.pP x.params.length b.cP, .slice b.pC x.code.length b.cC, .int .i64 x.fin.op, .int .i64 x.fin.a, .int .i64 x.fin.yes.block, .slice b.e.pYR x.fin.yes.regs.length b.e.cYR, .slice b.e.pYA x.fin.yes.args.length b.e.cYA, .int .i64 x.fin.no.block, .slice b.e.pNR x.fin.no.regs.length b.e.cNR, .slice b.e.pNA x.fin.no.args.length b.e.cNA, .slice b.e.pA x.fin.args.length b.e.cA] ∧ BIn w O x b := by
  obtain ⟨a,c,b,d,es,rfl,h1,h2,h3,h0⟩:=block_form h
  obtain ⟨e,rfl,k3⟩:=end_open h3
  exact ⟨⟨a,c,b,d,e⟩,rfl,h1,h2,k3,h0⟩
theorem func_open {x : MFunc n} (h : (funcL n).In w O x cs) : ∃ f : FP, cs = [.int .i64 x.regs, .slice f.pP x.params.length f.cP, .slice f.pR x.results.length f.cR, .slice f.pB x.blocks.length f.cB] ∧ FIn w O x f := by
  obtain ⟨a,c,b,d,e,f,rfl,h1,h2,h3,h0⟩:=func_form h
  exact ⟨⟨a,c,b,d,e,f⟩,rfl,h1,h2,h3,h0⟩
theorem ins_at {l : List MIns} {p : Option Addr} {m c : Nat} (h : (insL).list.In w O l [.slice p m c]) {i : Nat} {x : MIns} (hx : l[i]? = some x) :
    ∃ (g o:Nat) (i':IP),p=some ⟨g,o,none⟩∧w.rangeAt g (o+i * 8) [.int .i64 x.op,.int .i64 x.a,.int .i64 x.b,.int .i64 x.c,.int .i64 x.k,.int .i64 x.n,.slice i'.pR x.regs.length i'.cR,.slice i'.pA x.args.length i'.cA]∧IIn w O x i':=by
  obtain ⟨g,o,ds,e,h1,h2,h3,h4⟩:=Lay.list_at h hx
  obtain ⟨i',rfl,h5⟩:=ins_open h4
  have hs:(insL).size=8:=rfl
  rw [hs] at h3
  exact ⟨g,o,i',e,fun j v hj=>(h3 j (by have:=(List.getElem?_eq_some_iff.1 hj).1;simpa using this)).trans hj,h5⟩
theorem block_at {l : List (MBlock n)} {p : Option Addr} {m c : Nat} (h : (blockL n).list.In w O l [.slice p m c]) {i : Nat} {x : MBlock n} (hx : l[i]? = some x) :
    ∃ (g o:Nat) (b:BP),p=some ⟨g,o,none⟩∧w.rangeAt g (o+i * 12) [.int .i64 x.regs,.slice b.pP x.params.length b.cP,.slice b.pC x.code.length b.cC,.int .i64 x.fin.op,.int .i64 x.fin.a,.int .i64 x.fin.yes.block,.slice b.e.pYR x.fin.yes.regs.length b.e.cYR,.slice b.e.pYA x.fin.yes.args.length b.e.cYA,.int .i64 x.fin.no.block,.slice b.e.pNR x.fin.no.regs.length b.e.cNR,.slice b.e.pNA x.fin.no.args.length b.e.cNA,.slice b.e.pA x.fin.args.length b.e.cA]∧BIn w O x b:=by
  obtain ⟨g,o,ds,e,h1,h2,h3,h4⟩:=Lay.list_at h hx
  obtain ⟨b,rfl,h5⟩:=block_open h4
  have hs:(blockL n).size=12:=rfl
  rw [hs] at h3
  exact ⟨g,o,b,e,fun j v hj=>(h3 j (by have:=(List.getElem?_eq_some_iff.1 hj).1;simpa using this)).trans hj,h5⟩
theorem func_at {l : List (MFunc n)} {p : Option Addr} {m c : Nat} (h : (funcL n).list.In w O l [.slice p m c]) {i : Nat} {x : MFunc n} (hx : l[i]? = some x) :
    ∃ (g o:Nat) (f:FP),p=some ⟨g,o,none⟩∧w.rangeAt g (o+i * 4) [.int .i64 x.regs,.slice f.pP x.params.length f.cP,.slice f.pR x.results.length f.cR,.slice f.pB x.blocks.length f.cB]∧FIn w O x f:=by
  obtain ⟨g,o,ds,e,h1,h2,h3,h4⟩:=Lay.list_at h hx
  obtain ⟨f,rfl,h5⟩:=func_open h4
  have hs:(funcL n).size=4:=rfl
  rw [hs] at h3
  exact ⟨g,o,f,e,fun j v hj=>(h3 j (by have:=(List.getElem?_eq_some_iff.1 hj).1;simpa using this)).trans hj,h5⟩
theorem lin_at {l : List (TT n)} {p : Option Addr} (h : LIn w O l p) {i : Nat} {x : TT n} (hx : l[i]? = some x) : ∃ (g o : Nat) (q : Option Addr) (c : Nat), p = some ⟨g, o, none⟩ ∧ w.rangeAt g (o + i * 3) [.int .i64 x.kind, .int .i64 x.r, .slice q x.len c] ∧ TIn w O x q := by
  obtain ⟨g,o,q,c,e,_,h0,h1,h2,h3⟩:=LIn.at h hx
  refine ⟨g,o,q,c,e,fun j v hj=>?_,h3⟩
  match j,hj with
  | 0,hj=>cases hj;exact h0
  | 1,hj=>cases hj;exact h1
  | 2,hj=>cases hj;exact h2
theorem ints_rg {l : List Int} {a : Option Addr} {m c : Nat} (h : intsL.In w O l [.slice a m c]) {i : Nat} (hi : i < l.length) : ∃ g o, a = some ⟨g, o, none⟩ ∧ w.rangeAt g (o + i) [.int .i64 (l.getD i 0)] := by
  obtain ⟨g,o,e,_,_,h1⟩:=ints_at h hi
  refine ⟨g,o,e,fun j v hj=>?_⟩
  match j,hj with
  | 0,hj=>cases hj;exact h1
end
theorem sameInts_any (l m : List Int) (p p2 : Option Addr) (c d : Nat) (w : World) (hl0 : intsL.In w All l [.slice p l.length c]) (hm0 : intsL.In w All m [.slice p2 m.length d]) (hb1 : l.length ≤ 4294967296) :
    Rd Tryz.prog 53 #[.slice p l.length c,.slice p2 m.length d] w (.bool (bdec (l=m))):=by
  have hl:Hid _:=hl0
  have hm:Hid _:=hm0
  clear hl0 hm0
  refine fr_enter (n:=26) Tryz.func53 rfl rfl rfl ?_
  intro a hF
  have hW:=Wd.start w
  replace hF:Fr 26 a [(0,.slice p l.length c),(1,.slice p2 m.length d)]:=hF
  refine wp_seq_k fun K1 hK1=>?_
  refine rg hF fun ops=>?_;clear hF a
  refine sa trivial rfl rfl ?_
  refine St.nil fun a2 h2=>?_
  refine hK1 _ _ ?_
  refine wp_seq_k fun K3 hK3=>?_
  refine wp_seq_k fun K4 hK4=>?_
  refine rg h2 fun ops=>?_;clear h2 a2
  refine sm trivial rfl rfl ?_
  refine slInts trivial rfl rfl ?_
  refine sm trivial rfl rfl ?_
  refine slInts trivial rfl rfl ?_
  refine sne trivial rfl rfl rfl ?_
  refine St.nil fun a5 h5=>?_
  refine hK4 _ _ ?_
  refine fr_cond (t:=10) h5 rfl (fun hb=>?_) (fun hb=>?_)
  ·have h9:¬ l.length=m.length:=by have h8:=bne_iff_ne.1 hb;omega
   have hlen:¬ l.length=m.length:=h9
   clear h9
   clear hb
   refine wp_seq_k fun K6 hK6=>?_
   refine rg h5 fun ops=>?_;clear h5 a5
   refine sa trivial rfl rfl ?_
   refine St.nil fun a7 h7=>?_
   refine hK6 _ _ ?_
   refine wp_ret ?_;with_reducible repeat first | refine of_then_ret ?_ | refine of_block_ret ?_
   have R:¬ l=m:=by
     intro e
     first
       | exact hlen (by rw [e])
       | exact hel (by rw [← hx.out,← hy.out,e])
   exact ret_tmp (t:=4) h7 rfl rfl ⟨by rw [bdec_false R],hW.bel⟩
  have h9:l.length=m.length:=by have h8:=bne_eq_false_iff_eq.1 hb;omega
  have hlen:Hid (l.length=m.length):=h9
  clear h9
  clear hb
  refine wp_skip ?_
  refine hK3 _ _ ?_
  refine wp_seq_k fun K8 hK8=>?_
  refine wp_seq_k fun K9 hK9=>?_
  refine rg h5 fun ops=>?_;clear h5 a5
  refine sa trivial rfl rfl ?_
  refine St.nil fun a10 h10=>?_
  refine hK9 _ _ ?_
  refine wp_block ?_
  refine fr_loop (fun r a w'=>∃ q:Nat,q≤l.length∧r=l.length - q∧(∀ j,j < q→l.getD j 0=m.getD j 0)∧Fr 26 a [(1,.slice p2 m.length d),(0,.slice p l.length c),(4,.bool false),(5,.int .i64 (q:Int))]∧Wd w w' []) (l.length) ⟨0,Nat.zero_le _,rfl,(fun j hj=>by omega),(h10.keep (h10.keep (h10.keep (h10.keep h10.nil (t:=5) rfl) (t:=4) rfl) (t:=0) rfl) (t:=1) rfl),hW⟩ ?_
  clear h10 hW
  rintro r a11 w11 ⟨q,hq,hr,hall,hF11,hW11⟩ KL hKL
  refine wp_seq_k fun K12 hK12=>?_
  refine wp_seq_k fun K13 hK13=>?_
  refine rg hF11 fun ops=>?_;clear hF11 a11
  refine sm trivial rfl rfl ?_
  refine sm trivial rfl rfl ?_
  refine slInts trivial rfl rfl ?_
  refine slt trivial rfl rfl rfl ?_
  refine St.nil fun a14 h14=>?_
  refine hK13 _ _ ?_
  refine fr_cond (t:=14) h14 rfl (fun hb=>?_) (fun hb=>?_)
  ·have hlt:q < l.length:=by have:=of_decide_eq_true hb;omega
   clear hb
   have hlm:q < m.length:=by have:=hlen.out;omega
   obtain ⟨g1,o1,hp1,E1⟩:=ints_rg hl.out hlt
   obtain ⟨g2,o2,hp2,E2⟩:=ints_rg hm.out hlm
   obtain ⟨x,hx⟩:∃ x,l.getD q 0=x:=⟨_,rfl⟩
   obtain ⟨y,hy⟩:∃ y,m.getD q 0=y:=⟨_,rfl⟩
   rw [hx] at E1
   rw [hy] at E2
   replace hx:Hid _:=hx
   replace hy:Hid _:=hy
   replace E1:Hid _:=E1
   replace E2:Hid _:=E2
   replace hp1:Hid _:=hp1
   replace hp2:Hid _:=hp2
   refine wp_skip ?_
   refine hK12 _ _ ?_
   refine wp_seq_k fun K15 hK15=>?_
   refine wp_block ?_
   refine wp_seq_k fun K16 hK16=>?_
   have hF17:Fr 26 a14 [(1,.slice p2 m.length d),(0,.slice p l.length c),(4,.bool false),(5,.int .i64 (q:Int))]:=(h14.keep (h14.keep (h14.keep (h14.keep h14.nil (t:=5) rfl) (t:=4) rfl) (t:=0) rfl) (t:=1) rfl)
   have ho0:a14.tmps.getD 0 undef=.slice p l.length c:=h14.sl 0 _ rfl
   have ho5:a14.tmps.getD 5 undef=.int .i64 (q:Int):=h14.sl 5 _ rfl
   have ho1:a14.tmps.getD 1 undef=.slice p2 m.length d:=h14.sl 1 _ rfl
   refine fr_draw_k 9 ([(0,fun v _=>v=.slice p l.length c),(5,fun v _=>v=.int .i64 (q:Int)),(1,fun v _=>v=.slice p2 m.length d),(17,fun v _=>v=.slice p l.length c),(18,fun v _=>v=.int .i64 (q:Int)),(19,fun v _=>v=.pointer (some ⟨g1,o1+q,none⟩)),(20,fun v _=>v=.int .i64 x),(21,fun v _=>v=.slice p2 m.length d),(22,fun v _=>v=.int .i64 (q:Int)),(23,fun v _=>v=.pointer (some ⟨g2,o2+q,none⟩)),(24,fun v _=>v=.int .i64 y),(25,fun v _=>v=.bool (x != y))]:PTab) (fun w'=>Wd w w' []∧Below w11.heap.size w11 w') (fun w w'=>Below w.heap.size w w') (outs:=[0,5,1]) (gs:=[]) (bs:=[true,true,true,true,true,true,true,true,true]) (by kernel_rfl) hF17 rfl (by kernel_rfl) (by kernel_rfl) ?hR ?hG ⟨hW11.drewN 1,drewN_below (m:=1) (Below.refl _ _)⟩ ⟨ho0,ho5,ho1,trivial⟩ ?hA ?hend
   case hR=>exact ⟨fun _ _ _ _ h=>h,fun _ _ _ _ h=>h,fun _ _ _ _ h=>h,fun _ _ _ _ h=>h,fun _ _ _ _ h=>h,fun _ _ _ _ h=>h,fun _ _ _ _ h=>h,fun _ _ _ _ h=>h,fun _ _ _ _ h=>h,fun _ _ _ _ h=>h,fun _ _ _ _ h=>h,fun _ _ _ _ h=>h,trivial⟩
   case hG=>exact trivial
   case hA =>
    refine ⟨fun a w hW hk K hK=>?_,?_⟩
    · obtain ⟨k0,-⟩:=hk
      have k0:a.tmps.getD 0 undef=.slice p l.length c:=k0
      go_simp
      exact hK _ _ (Below.refl _ _) hW rfl
    refine ⟨fun a w hW hk K hK=>?_,?_⟩
    · obtain ⟨k0,-⟩:=hk
      have k0:a.tmps.getD 5 undef=.int .i64 (q:Int):=k0
      go_simp
      exact hK _ _ (Below.refl _ _) hW rfl
    refine ⟨fun a w hW hk K hK=>?_,?_⟩
    · obtain ⟨k0,k1,-⟩:=hk
      have k0:a.tmps.getD 17 undef=.slice p l.length c:=k0
      have k1:a.tmps.getD 18 undef=.int .i64 (q:Int):=k1
      have hpq:=hp1.out
      have hk0:(0:Int)≤q:=by omega
      have hk1:(q:Int) < (l.length:Int):=by omega
      go_simp
      exact hK _ _ (Below.refl _ _) hW rfl
    refine ⟨fun a w hW hk K hK=>?_,?_⟩
    · obtain ⟨k0,-⟩:=hk
      have k0:a.tmps.getD 19 undef=.pointer (some ⟨g1,o1+q,none⟩):=k0
      have d0:w.cell? ⟨g1,o1+q,none⟩=some (.int .i64 x):=bel_cell hW.1.bel (E1.out 0 _ rfl)
      go_simp
      exact hK _ _ (Below.refl _ _) hW rfl
    refine ⟨fun a w hW hk K hK=>?_,?_⟩
    · obtain ⟨k0,-⟩:=hk
      have k0:a.tmps.getD 1 undef=.slice p2 m.length d:=k0
      go_simp
      exact hK _ _ (Below.refl _ _) hW rfl
    refine ⟨fun a w hW hk K hK=>?_,?_⟩
    · obtain ⟨k0,-⟩:=hk
      have k0:a.tmps.getD 5 undef=.int .i64 (q:Int):=k0
      go_simp
      exact hK _ _ (Below.refl _ _) hW rfl
    refine ⟨fun a w hW hk K hK=>?_,?_⟩
    · obtain ⟨k0,k1,-⟩:=hk
      have k0:a.tmps.getD 21 undef=.slice p2 m.length d:=k0
      have k1:a.tmps.getD 22 undef=.int .i64 (q:Int):=k1
      have hpq:=hp2.out
      have hk0:(0:Int)≤q:=by omega
      have hk1:(q:Int) < (m.length:Int):=by omega
      go_simp
      exact hK _ _ (Below.refl _ _) hW rfl
    refine ⟨fun a w hW hk K hK=>?_,?_⟩
    · obtain ⟨k0,-⟩:=hk
      have k0:a.tmps.getD 23 undef=.pointer (some ⟨g2,o2+q,none⟩):=k0
      have d0:w.cell? ⟨g2,o2+q,none⟩=some (.int .i64 y):=bel_cell hW.1.bel (E2.out 0 _ rfl)
      go_simp
      exact hK _ _ (Below.refl _ _) hW rfl
    refine ⟨fun a w hW hk K hK=>?_,?_⟩
    · obtain ⟨k0,k1,-⟩:=hk
      have k0:a.tmps.getD 20 undef=.int .i64 x:=k0
      have k1:a.tmps.getD 24 undef=.int .i64 y:=k1
      go_simp
      exact hK _ _ (Below.refl _ _) hW rfl
    trivial
   case hend =>
    intro ops a18 w18 hWD hE hFD
    have hd25:a18.tmps.getD 25 undef=.bool (x != y):=hE 25 rfl
    have hF18:Fr 26 a18 [(25,.bool (x != y)),(1,.slice p2 m.length d),(0,.slice p l.length c),(4,.bool false),(5,.int .i64 (q:Int))]:=(hFD.cons hd25)
    clear hd25
    have hW18:Wd w w18 []:=hWD.1
    clear hFD hWD hE hF17 h14
    clear hW11
    refine wpList_nil ?_
    refine hK16 _ _ ?_
    refine fr_cond (t:=25) hF18 rfl (fun hb=>?_) (fun hb=>?_)
    ·have h9:¬ x=y:=bne_iff_ne.1 hb
     have hel:¬ x=y:=h9
     clear h9
     clear hb
     refine wp_seq_k fun K19 hK19=>?_
     refine rg hF18 fun ops=>?_;clear hF18 a18
     refine sa trivial rfl rfl ?_
     refine St.nil fun a20 h20=>?_
     refine hK19 _ _ ?_
     refine wp_ret ?_;with_reducible repeat first | refine of_then_ret ?_ | refine of_block_ret ?_
     have R:¬ l=m:=by
       intro e
       first
         | exact hlen (by rw [e])
         | exact hel (by rw [← hx.out,← hy.out,e])
     exact ret_tmp (t:=4) h20 rfl rfl ⟨by rw [bdec_false R],hW18.bel⟩
    have h9:x=y:=bne_eq_false_iff_eq.1 hb
    have hel:Hid (x=y):=h9
    clear h9
    clear hb
    refine wp_skip ?_
    refine hK15 _ _ ?_
    refine rg hF18 fun ops=>?_;clear hF18 a18
    refine sm trivial rfl rfl ?_
    refine sad (by omega) trivial rfl rfl rfl ?_
    refine sa trivial rfl rfl ?_
    refine St.nil fun a21 h21=>?_
    refine hKL _ _ (l.length - (q+1)) (by omega) ⟨q+1,by omega,rfl,?_,(h21.keep (h21.keep (h21.keep (h21.keep h21.nil (t:=5) rfl) (t:=4) rfl) (t:=0) rfl) (t:=1) rfl),hW18⟩
    ·intro j hj
     by_cases e:j=q
     · subst e;rw [hx.out,hy.out];exact hel.out
     · exact hall j (by omega)
  have hge:q=l.length:=by have:=of_decide_eq_false hb;omega
  clear hb
  refine wp_exit ?_
  refine hK8 _ _ ?_
  refine wp_seq_k fun K22 hK22=>?_
  refine rg h14 fun ops=>?_;clear h14 a14
  refine sa trivial rfl rfl ?_
  refine St.nil fun a23 h23=>?_
  refine hK22 _ _ ?_
  refine wp_ret ?_;with_reducible repeat first | refine of_then_ret ?_ | refine of_block_ret ?_
  have R:l=m:=by
    refine List.ext_getElem hlen.out fun i h1 h2=>?_
    have:=hall i (by omega)
    simpa [List.getD,h1,h2] using this
  exact ret_tmp (t:=4) h23 rfl rfl ⟨by rw [bdec_true R],hW11.bel⟩
end Go.Proofs.YtjodmledadbgeacGreatDoor
namespace Go.Proofs.YtjodmledadbgeacGreatDoor
open Go.ChangeShapes Go.WideShapes Go.ChangeAt Go.RowKit
set_option linter.unusedVariables false
def SaysEq (e : Ending) (A : Prop) : Prop := ∃ q : Bool, e = .returned (.bool q) ∧ (q = true ↔ A)
theorem SaysEq.yes {A : Prop} (h : A) : SaysEq (.returned (.bool true)) A := ⟨true, rfl, by simp [h]⟩
theorem SaysEq.no {A : Prop} (h : ¬ A) : SaysEq (.returned (.bool false)) A := ⟨false, rfl, by simp [h]⟩
def SameAt (f : Nat) (n : Nat) : Prop := ∀ (t u : TT n) (a b : Option Addr) (c d : Nat) (w : World), TIn w All t a → TIn w All u b → t.count ≤ 100000 →
    Calls Tryz.prog f #[Tv t a c,Tv u b d] w fun e w'=>SaysEq e (t=u)∧Below w.heap.size w w'
theorem sames_any (n : Nat) (IH0 : SameAt 50 n) (l m : List (TT n)) (a b : Option Addr) (c d : Nat) (w : World) (hl0 : LIn w All l a) (hm0 : LIn w All m b) (hlen : l.length ≤ 100000) (hco0 : ∀ x ∈ l, x.count ≤ 100000) :
    Calls Tryz.prog 25 #[.slice a l.length c,.slice b m.length d] w fun e w'=>SaysEq e (l=m)∧Below w.heap.size w w':=by
  have IH:Hid (SameAt 50 n):=IH0
  have hl:Hid (LIn w All l a):=hl0
  have hm:Hid (LIn w All m b):=hm0
  have hco:Hid (∀ x ∈ l,x.count≤100000):=hco0
  clear IH0 hl0 hm0 hco0
  by_cases hne:l.length=m.length
  · have hne':((l.length:Int) != (m.length:Int))=false:=by simp;omega
    have E:Hid (l.length=m.length):=hne
    clear hne
    go_enter Tryz.func25,Tryz.ntmps25
    go_wp2_with fail
    go_loopw [5] (fun i wr=>∃ q:Nat,q≤l.length∧i=.int .i64 q∧(∀ j,j < q→l[j]?=m[j]?)∧Below w.heap.size w wr) (fun i _=>l.length - (intOf i).toNat)
    case atStart=>exact ⟨0,Nat.zero_le _,rfl,fun j hj=>by omega,Below.refl _ _⟩
    case round =>
      obtain ⟨q,hq,rfl,hall,hb⟩:=hrel
      have A:Hid (∀ j,j < q→l[j]?=m[j]?):=hall
      have B:Hid (Below w.heap.size w wr):=hb
      clear hall hb
      by_cases hlt:q < l.length
      · have hx:l[q]?=some l[q]:=List.getElem?_eq_getElem hlt
        have hlm:q < m.length:=by have:=E.out;omega
        have hy:m[q]?=some m[q]:=List.getElem?_eq_getElem hlm
        generalize l[q]=x at hx
        generalize m[q]=y at hy
        obtain ⟨g,o,a',c',rfl,_,d0,d1,d2,hk⟩:=LIn.at (hl.out.below B.out) hx
        obtain ⟨g',o',b',d',rfl,_,d3,d4,d5,hk'⟩:=LIn.at (hm.out.below B.out) hy
        have C:Hid (∀ k,Calls Tryz.prog 50 #[Tv x a' c',Tv y b' d'] (wr.drewN k) fun e w'=>SaysEq e (x=y)∧Below wr.heap.size wr w') :=
          fun k=>(IH.out x y a' b' c' d' _ (hk.drewN k) (hk'.drewN k) (hco.out x (List.mem_of_getElem? hx))).mono (fun e w' h=>⟨h.1,undrewN_below h.2⟩)
        have hx':Hid (l[q]?=some x):=hx
        have hy':Hid (m[q]?=some y):=hy
        clear hk hk' hx hy
        have hk0:(0:Int)≤q:=by omega
        have hk1:(q:Int) < l.length:=by omega
        have hk3:(q:Int) < m.length:=by omega
        go_upto_region 6 with fail
        go_cut [26] (fun t wx=>∃ p:Bool,t=.bool (!p)∧(p=true ↔ x=y)∧Below wr.heap.size wr wx)
        case first =>
          go_region_with (go_at_call 50;refine (C.out 1).mono ?_;rintro r w5 ⟨⟨p,rfl,hp⟩,b5⟩;have HP:Hid (p=true ↔ x=y):=hp;have B5:Hid (Below wr.heap.size wr w5):=b5;clear hp b5)
          all_goals
            go_wp2
            go_meet
            exact ⟨p,rfl,HP.out,B5.out⟩
        case rest =>
          obtain ⟨p,rfl,hp,b5⟩:=hcut
          have HB:Hid (Below w.heap.size w wc):=B.out.trans (b5.mono B.out.size)
          clear C b5 B d0 d1 d2 d3 d4 d5
          cases p with
          | true =>
            have hxy:x=y:=hp.1 rfl
            have A2:Hid (∀ j,j < q+1→l[j]?=m[j]?):=fun j hj=>by
              by_cases e:j=q
              · subst e;rw [hx'.out,hy'.out,hxy]
              · exact A.out j (by omega)
            clear hp hxy hx' hy' A
            go_wp2
            go_roundw
            case rel=>exact ⟨q+1,by omega,by go_num,A2.out,HB.out⟩
            case measure=>simp [intOf];omega
          | false =>
            have hxy:Hid (¬ l=m):=fun h=>by
              have h1:=hx'.out
              rw [h,hy'.out] at h1
              have:=hp.2 (Option.some.inj h1).symm
              cases this
            clear hp hx' hy' A
            go_wp2
            go_ret
            exact ⟨SaysEq.no hxy.out,HB.out⟩
      · have R:Hid (l=m):=by
          have:=E.out
          refine List.ext_getElem? (fun i=>?_)
          by_cases hi:i < q
          · exact A.out i hi
          · rw [List.getElem?_eq_none (by omega),List.getElem?_eq_none (by omega)]
        have hk1:¬ (q:Int) < l.length:=by omega
        clear A
        go_wp2
        go_ret
        exact ⟨SaysEq.yes R.out,B.out⟩
  · have hne':((l.length:Int) != (m.length:Int))=true:=by simp;omega
    have E:Hid (l.length≠m.length):=hne
    clear hne
    go_enter Tryz.func25,Tryz.ntmps25
    go_wp2
    go_ret
    exact ⟨SaysEq.no (fun h=>E.out (by rw [h])),Below.refl _ _⟩
theorem TT.eq_iff {n : Nat} {t u : TT (n + 1)} : t = u ↔ t.kind = u.kind ∧ t.r = u.r ∧ t.2.2 = u.2.2 := by
  obtain ⟨a,b,c⟩:=t
  obtain ⟨d,e,f⟩:=u
  constructor
  · intro h;cases h;exact ⟨rfl,rfl,rfl⟩
  · rintro ⟨rfl,rfl,rfl⟩;rfl
theorem samet_any : ∀ n, SameAt 50 n := by
  intro n
  induction n with
  | zero=>intro t;exact Empty.elim t
  | succ n ih =>
    intro t u a b c d w ht hu hc
    have hco:∀ x ∈ t.2.2,x.count≤100000:=fun x hx=>by have:=t.count_kid hx;omega
    have hlen:t.2.2.length≤100000:=by have:=t.len_lt_count;rw [t.len_eq] at this;omega
    have C:Hid (∀ wx,Below w.heap.size w wx→Calls Tryz.prog 25 #[.slice a t.2.2.length c,.slice b u.2.2.length d] wx fun e w'=>SaysEq e (t.2.2=u.2.2)∧Below wx.heap.size wx w') :=
      fun wx hb=>sames_any n ih t.2.2 u.2.2 a b c d wx (ht.below hb) (hu.below hb) hlen hco
    rw [TT.eq_iff]
    simp only [Tv,TT.len_eq] at C ⊢
    generalize t.2.2.length=p at C ⊢
    generalize u.2.2.length=q at C ⊢
    generalize (t.2.2=u.2.2)=E at C ⊢
    generalize t.kind=k
    generalize t.r=r
    generalize u.kind=k'
    generalize u.r=r'
    clear hco hlen hc ht hu ih t u
    by_cases hk:k=k'
    · subst hk
      by_cases hr:r=r'
      · subst hr
        go_enter Tryz.func50,Tryz.ntmps50
        go_wp2_with fail
        have B1:Below w.heap.size w ((w.alloc (.cells #[.int .i64 k,.int .i64 r,.slice a p c] 74)).alloc (.cells #[.int .i64 k,.int .i64 r,.slice b q d] 74)):=((Below.refl _ w).alloc (Nat.le_refl _) _).alloc (by simp) _
        refine (C.out _ B1).mono ?_
        rintro e w2 ⟨⟨v,rfl,hv⟩,b2⟩
        have B:Hid (Below w.heap.size w w2):=B1.trans (b2.mono B1.size)
        have V:Hid (v=true ↔ E):=hv
        clear b2 C hv B1
        cases v
        all_goals
          go_wp2
          go_ret
        · exact ⟨SaysEq.no (fun h=>by have:=V.out.2 h.2.2;cases this),B.out⟩
        · exact ⟨SaysEq.yes (by have:=V.out;simpa using this),B.out⟩
      · have hr':(r == r')=false:=by simpa using hr
        have R:Hid (¬ r=r'):=hr
        clear hr
        go_enter Tryz.func50,Tryz.ntmps50
        go_wp2_with fail
        go_ret
        exact ⟨SaysEq.no (fun h=>R.out h.2.1),((Below.refl _ w).alloc (Nat.le_refl _) _).alloc (by simp) _⟩
    · have hk':(k == k')=false:=by simpa using hk
      have R:Hid (¬ k=k'):=hk
      clear hk
      go_enter Tryz.func50,Tryz.ntmps50
      go_wp2_with fail
      go_ret
      exact ⟨SaysEq.no (fun h=>R.out h.1),((Below.refl _ w).alloc (Nat.le_refl _) _).alloc (by simp) _⟩
abbrev FV : Value := .func (.func 145) #[] #[]
theorem eqf_any (n : Nat) (IH0 : SameAt 145 n) (l m : List (TT n)) (a b : Option Addr) (c d : Nat) (w : World) (hl0 : LIn w All l a) (hm0 : LIn w All m b) (hlen : l.length ≤ 100000) (hco0 : ∀ x ∈ l, x.count ≤ 100000) :
    Calls Tryz.prog 144 #[.slice a l.length c,.slice b m.length d,FV] w fun e w'=>SaysEq e (l=m)∧Below w.heap.size w w':=by
  have IH:Hid (SameAt 145 n):=IH0
  have hl:Hid (LIn w All l a):=hl0
  have hm:Hid (LIn w All m b):=hm0
  have hco:Hid (∀ x ∈ l,x.count≤100000):=hco0
  clear IH0 hl0 hm0 hco0
  by_cases hne:l.length=m.length
  · have hne':((l.length:Int) != (m.length:Int))=false:=by simp;omega
    have E:Hid (l.length=m.length):=hne
    clear hne
    go_enter Tryz.func144,Tryz.ntmps144
    go_wp2_with fail
    go_loopw [17] (fun i wr=>∃ q:Nat,q≤l.length∧i=.int .i64 q∧(∀ j,j < q→l[j]?=m[j]?)∧Below w.heap.size w wr) (fun i _=>l.length - (intOf i).toNat)
    case atStart=>exact ⟨0,Nat.zero_le _,rfl,fun j hj=>by omega,Below.refl _ _⟩
    case round =>
      obtain ⟨q,hq,rfl,hall,hb⟩:=hrel
      have A:Hid (∀ j,j < q→l[j]?=m[j]?):=hall
      have B:Hid (Below w.heap.size w wr):=hb
      clear hall hb
      by_cases hlt:q < l.length
      · have hx:l[q]?=some l[q]:=List.getElem?_eq_getElem hlt
        have hlm:q < m.length:=by have:=E.out;omega
        have hy:m[q]?=some m[q]:=List.getElem?_eq_getElem hlm
        generalize l[q]=x at hx
        generalize m[q]=y at hy
        obtain ⟨g,o,a',c',rfl,_,d0,d1,d2,hk⟩:=LIn.at (hl.out.below B.out) hx
        obtain ⟨g',o',b',d',rfl,_,d3,d4,d5,hk'⟩:=LIn.at (hm.out.below B.out) hy
        have C:Hid (∀ wx,Below wr.heap.size wr wx→Calls Tryz.prog 145 #[Tv x a' c',Tv y b' d'] wx fun e w'=>SaysEq e (x=y)∧Below wx.heap.size wx w') :=
          fun wx hb=>IH.out x y a' b' c' d' _ (hk.below hb) (hk'.below hb) (hco.out x (List.mem_of_getElem? hx))
        have hx':Hid (l[q]?=some x):=hx
        have hy':Hid (m[q]?=some y):=hy
        have hg:g < wr.heap.size:=World.block_lt_of_cell? wr ⟨g,o+q * 3,none⟩ d0
        have hg':g' < wr.heap.size:=World.block_lt_of_cell? wr ⟨g',o'+q * 3,none⟩ d3
        clear hk hk' hx hy
        simp only [Tv] at C
        generalize x.kind=kx at C d0
        generalize x.r=rx at C d1
        generalize x.len=lx at C d2
        generalize y.kind=ky at C d3
        generalize y.r=ry at C d4
        generalize y.len=ly at C d5
        have hk0:(0:Int)≤q:=by omega
        have hk1:(q:Int) < l.length:=by omega
        have hk3:(q:Int) < m.length:=by omega
        go_wp2_with fail
        have B1:Below wr.heap.size wr ((wr.alloc (.cells #[.int .i64 kx,.int .i64 rx,.slice a' lx c'] 74)).alloc (.cells #[.int .i64 ky,.int .i64 ry,.slice b' ly d'] 74)):=((Below.refl _ wr).alloc (Nat.le_refl _) _).alloc (by simp) _
        refine (C.out _ B1).mono ?_
        rintro r w5 ⟨⟨p,rfl,hp⟩,b5⟩
        have HB:Hid (Below w.heap.size w w5):=(B.out.trans (B1.mono B.out.size)).trans (b5.mono (Nat.le_trans B.out.size B1.size))
        clear C b5 B d0 d1 d2 d3 d4 d5 B1
        cases p with
        | true =>
          have hxy:x=y:=hp.1 rfl
          have A2:Hid (∀ j,j < q+1→l[j]?=m[j]?):=fun j hj=>by
            by_cases e:j=q
            · subst e;rw [hx'.out,hy'.out,hxy]
            · exact A.out j (by omega)
          clear hp hxy hx' hy' A
          go_wp2
          go_roundw
          case rel=>exact ⟨q+1,by omega,by go_num,A2.out,HB.out⟩
          case measure=>simp [intOf];omega
        | false =>
          have hxy:Hid (¬ l=m):=fun h=>by
            have h1:=hx'.out
            rw [h,hy'.out] at h1
            have:=hp.2 (Option.some.inj h1).symm
            cases this
          clear hp hx' hy' A
          go_wp2
          go_ret
          exact ⟨SaysEq.no hxy.out,HB.out⟩
      · have R:Hid (l=m):=by
          have:=E.out
          refine List.ext_getElem? (fun i=>?_)
          by_cases hi:i < q
          · exact A.out i hi
          · rw [List.getElem?_eq_none (by omega),List.getElem?_eq_none (by omega)]
        have hk1:¬ (q:Int) < l.length:=by omega
        clear A
        go_wp2
        go_ret
        exact ⟨SaysEq.yes R.out,B.out⟩
  · have hne':((l.length:Int) != (m.length:Int))=true:=by simp;omega
    have E:Hid (l.length≠m.length):=hne
    clear hne
    go_enter Tryz.func144,Tryz.ntmps144
    go_wp2
    go_ret
    exact ⟨SaysEq.no (fun h=>E.out (by rw [h])),Below.refl _ _⟩
theorem same_any : ∀ n, SameAt 145 n := by
  intro n
  induction n with
  | zero=>intro t;exact Empty.elim t
  | succ n ih =>
    intro t u a b c d w ht hu hc
    have hco:∀ x ∈ t.2.2,x.count≤100000:=fun x hx=>by have:=t.count_kid hx;omega
    have hlen:t.2.2.length≤100000:=by have:=t.len_lt_count;rw [t.len_eq] at this;omega
    have C:Hid (∀ wx,Below w.heap.size w wx→Calls Tryz.prog 144 #[.slice a t.2.2.length c,.slice b u.2.2.length d,FV] wx fun e w'=>SaysEq e (t.2.2=u.2.2)∧Below wx.heap.size wx w') :=
      fun wx hb=>eqf_any n ih t.2.2 u.2.2 a b c d wx (ht.below hb) (hu.below hb) hlen hco
    rw [TT.eq_iff]
    simp only [Tv,TT.len_eq] at C ⊢
    generalize t.2.2.length=p at C ⊢
    generalize u.2.2.length=q at C ⊢
    generalize (t.2.2=u.2.2)=E at C ⊢
    generalize t.kind=k
    generalize t.r=r
    generalize u.kind=k'
    generalize u.r=r'
    clear hco hlen hc ht hu ih t u
    by_cases hk:k=k'
    · subst hk
      by_cases hr:r=r'
      · subst hr
        go_enter Tryz.func145,Tryz.ntmps145
        go_wp2_with fail
        have B1:Below w.heap.size w ((w.alloc (.cells #[.int .i64 k,.int .i64 r,.slice a p c] 74)).alloc (.cells #[.int .i64 k,.int .i64 r,.slice b q d] 74)):=((Below.refl _ w).alloc (Nat.le_refl _) _).alloc (by simp) _
        refine (C.out _ B1).mono ?_
        rintro e w2 ⟨⟨v,rfl,hv⟩,b2⟩
        have B:Hid (Below w.heap.size w w2):=B1.trans (b2.mono B1.size)
        have V:Hid (v=true ↔ E):=hv
        clear b2 C hv B1
        cases v
        all_goals
          go_wp2
          go_ret
        · exact ⟨SaysEq.no (fun h=>by have:=V.out.2 h.2.2;cases this),B.out⟩
        · exact ⟨SaysEq.yes (by have:=V.out;simpa using this),B.out⟩
      · have hr':(r == r')=false:=by simpa using hr
        have R:Hid (¬ r=r'):=hr
        clear hr
        go_enter Tryz.func145,Tryz.ntmps145
        go_wp2_with fail
        go_ret
        exact ⟨SaysEq.no (fun h=>R.out h.2.1),((Below.refl _ w).alloc (Nat.le_refl _) _).alloc (by simp) _⟩
    · have hk':(k == k')=false:=by simpa using hk
      have R:Hid (¬ k=k'):=hk
      clear hk
      go_enter Tryz.func145,Tryz.ntmps145
      go_wp2_with fail
      go_ret
      exact ⟨SaysEq.no (fun h=>R.out h.1),((Below.refl _ w).alloc (Nat.le_refl _) _).alloc (by simp) _⟩
end Go.Proofs.YtjodmledadbgeacGreatDoor
namespace Go.Proofs.YtjodmledadbgeacGreatDoor
open Go.ChangeShapes Go.WideShapes Go.ChangeAt Go.RowKit
set_option linter.unusedSimpArgs false
set_option linter.unusedVariables false
theorem MTo.eq_of {x y : MTo} (h1 : x.block = y.block) (h2 : x.regs = y.regs) (h3 : x.args = y.args) : x = y := by cases x; cases y; simp_all
theorem MIns.eq_of {x y : MIns} (h1 : x.op = y.op) (h2 : x.a = y.a) (h3 : x.b = y.b) (h4 : x.c = y.c) (h5 : x.k = y.k) (h6 : x.n = y.n) (h7 : x.regs = y.regs) (h8 : x.args = y.args) : x = y := by cases x; cases y; simp_all
theorem MEnd.eq_of {x y : MEnd} (h1 : x.op = y.op) (h2 : x.a = y.a) (h3 : x.yes = y.yes) (h4 : x.no = y.no) (h5 : x.args = y.args) : x = y := by cases x; cases y; simp_all
theorem MBlock.eq_of {n : Nat} {x y : MBlock n} (h1 : x.regs = y.regs) (h2 : x.params = y.params) (h3 : x.code = y.code) (h4 : x.fin = y.fin) : x = y := by cases x; cases y; simp_all
theorem MFunc.eq_of {n : Nat} {x y : MFunc n} (h1 : x.regs = y.regs) (h2 : x.params = y.params) (h3 : x.results = y.results) (h4 : x.blocks = y.blocks) : x = y := by cases x; cases y; simp_all
theorem bdec_congr {A B : Prop} (h : A ↔ B) : bdec A = bdec B := by rw [propext h]
theorem rd_says {f : FuncId} {args : Array Value} {w : World} {A : Prop} (h : Calls Tryz.prog f args w fun e w' => SaysEq e A ∧ Below w.heap.size w w') : Rd Tryz.prog f args w (.bool (bdec A)) :=
  h.mono fun e w' h=>by
    obtain ⟨⟨q,rfl,hq⟩,b⟩:=h
    exact ⟨by rw [bdec_of hq],b⟩
theorem sameTypes_any {n : Nat} {l m : List (TT n)} {p q : Option Addr} {c d : Nat} {w : World} (hl : (typesL n).In w All l [.slice p l.length c]) (hm : (typesL n).In w All m [.slice q m.length d]) (hs : tsmall l) : Rd Tryz.prog 25 #[.slice p l.length c, .slice q m.length d] w (.bool (bdec (l = m))) :=
  rd_says (sames_any n (samet_any n) l m p q c d w (types_lin hl).1 (types_lin hm).1 (by have:=hs.1;omega) hs.2)
theorem eqTypes_any {n : Nat} {l m : List (TT n)} {p q : Option Addr} {c d : Nat} {w : World} (hl : (typesL n).In w All l [.slice p l.length c]) (hm : (typesL n).In w All m [.slice q m.length d]) (hs : tsmall l) : Rd Tryz.prog 144 #[.slice p l.length c, .slice q m.length d, .func (.func 145) #[] #[]] w (.bool (bdec (l = m))) :=
  rd_says (eqf_any n (same_any n) l m p q c d w (types_lin hl).1 (types_lin hm).1 (by have:=hs.1;omega) hs.2)
theorem sameTo_any {x y : MTo} {pR pA qR qA : Option Addr} {cR cA dR dA : Nat} {w : World} (hx0 : TIn2 w All x pR cR pA cA) (hy0 : TIn2 w All y qR dR qA dA) (hs0 : x.small) :
    Rd Tryz.prog 52 #[.agg #[.int .i64 x.block,.slice pR x.regs.length cR,.slice pA x.args.length cA],.agg #[.int .i64 y.block,.slice qR y.regs.length dR,.slice qA y.args.length dA]] w (.bool (bdec (x=y))):=by
  have hx:Hid _:=hx0
  have hy:Hid _:=hy0
  have hs:Hid _:=hs0
  clear hx0 hy0 hs0
  refine fr_enter (n:=24) Tryz.func52 rfl rfl rfl ?_
  intro a hF
  have hW:=Wd.start w
  replace hF:Fr 24 a [(0,.agg #[.int .i64 x.block,.slice pR x.regs.length cR,.slice pA x.args.length cA]),(1,.agg #[.int .i64 y.block,.slice qR y.regs.length dR,.slice qA y.args.length dA])]:=hF
  refine wp_seq_k fun K1 hK1=>?_
  refine rg hF fun ops=>?_;clear hF a
  refine sB hW trivial rfl rfl ?_
  clear hW;intro w2 B2 hW2 hN;clear hN
  refine sB hW2 trivial rfl rfl ?_
  clear hW2;intro w3 B3 hW3 hN;clear hN
  refine sa trivial rfl rfl ?_
  refine St.nil fun a4 h4=>?_
  refine hK1 _ _ ?_
  refine wp_seq_k fun K5 hK5=>?_
  refine fr_region ?_
  intro ops hops
  have hg5:(ops[5]?).bind (fun o:Oper=>o.dst)=some 10:=hops 5
  have hg12:(ops[12]?).bind (fun o:Oper=>o.dst)=some 17:=hops 12
  clear hops
  refine St.go h4 ?_;clear h4 a4
  refine sfTo0 trivial rfl rfl ?_
  refine sbInt 1 hW3 trivial rfl rfl rfl rfl ?_
  refine sfTo0 trivial rfl rfl ?_
  refine sbInt 0 hW3 trivial rfl rfl rfl rfl ?_
  refine seq trivial rfl rfl rfl ?_
  refine sm trivial rfl rfl ?_
  intro a6 h6
  rcases Bool.eq_false_or_eq_true (x.block == y.block) with hb | hb
  ·rw [hb] at h6
   have h9:x.block=y.block:=eq_of_beq hb
   have hc7:Hid (x.block=y.block):=h9
   clear h9
   clear hb
   refine St.go h6 ?_;clear h6 a6
   refine sfTo1 ⟨_,hg5,rfl,rfl⟩ rfl rfl ?_
   refine sbInts 1 hW3 ⟨_,hg5,rfl,rfl⟩ rfl rfl rfl rfl ?_
   refine sfTo1 ⟨_,hg5,rfl,rfl⟩ rfl rfl ?_
   refine sbInts 0 hW3 ⟨_,hg5,rfl,rfl⟩ rfl rfl rfl rfl ?_
   refine sc_2 cf53 hW3 (sameInts_any x.regs y.regs pR qR cR dR w3 (Lay.below hx.out.regs hW3.bel) (Lay.below hy.out.regs hW3.bel) (by have:=hs.out.1;omega)) ⟨_,hg5,rfl,rfl⟩ rfl rfl rfl ?_
   clear hW3;intro w8 hW8
   refine sp trivial rfl rfl rfl ?_
   refine sm trivial rfl rfl ?_
   intro a9 h9
   rcases Bool.eq_false_or_eq_true (bdec (x.regs=y.regs)) with hb | hb
   ·rw [hb] at h9
    have hc10:(x.regs=y.regs):=bdec_iff.1 hb
    clear hb
    refine St.go h9 ?_;clear h9 a9
    refine sfTo2 ⟨_,hg12,rfl,rfl⟩ rfl rfl ?_
    refine sbInts 1 hW8 ⟨_,hg12,rfl,rfl⟩ rfl rfl rfl rfl ?_
    refine sfTo2 ⟨_,hg12,rfl,rfl⟩ rfl rfl ?_
    refine sbInts 0 hW8 ⟨_,hg12,rfl,rfl⟩ rfl rfl rfl rfl ?_
    refine sc_2 cf53 hW8 (sameInts_any x.args y.args pA qA cA dA w8 (Lay.below hx.out.args hW8.bel) (Lay.below hy.out.args hW8.bel) (by have:=hs.out.2;omega)) ⟨_,hg12,rfl,rfl⟩ rfl rfl rfl ?_
    clear hW8;intro w11 hW11
    refine sp trivial rfl rfl rfl ?_
    refine sa trivial rfl rfl ?_
    refine St.nil fun a12 h12=>?_
    refine hK5 _ _ ?_
    refine wp_ret ?_;with_reducible repeat first | refine of_then_ret ?_ | refine of_block_ret ?_
    have R:x.args=y.args ↔ x=y:=⟨fun h=>MTo.eq_of hc7.out hc10 h,fun e=>by rw [e]⟩
    exact ret_tmp (t:=4) h12 rfl rfl ⟨by rw [bdec_congr R],hW11.bel⟩
   rw [hb] at h9
   have hc13:¬ (x.regs=y.regs):=fun h=>by rw [bdec_true h] at hb;cases hb
   clear hb
   refine St.go h9 ?_;clear h9 a9
   refine so hg12 rfl rfl rfl rfl ?_
   refine so hg12 rfl rfl rfl rfl ?_
   refine so hg12 rfl rfl rfl rfl ?_
   refine so hg12 rfl rfl rfl rfl ?_
   refine so hg12 rfl rfl rfl rfl ?_
   refine spf trivial rfl rfl rfl ?_
   refine sa trivial rfl rfl ?_
   refine St.nil fun a14 h14=>?_
   refine hK5 _ _ ?_
   refine wp_ret ?_;with_reducible repeat first | refine of_then_ret ?_ | refine of_block_ret ?_
   have R:¬ x=y:=fun e=>hc13 (by rw [e])
   exact ret_tmp (t:=4) h14 rfl rfl ⟨by rw [bdec_false R],hW8.bel⟩
  rw [hb] at h6
  have h9:¬ x.block=y.block:=ne_of_beq_false hb
  have hc15:¬ x.block=y.block:=h9
  clear h9
  clear hb
  refine St.go h6 ?_;clear h6 a6
  refine so hg5 rfl rfl rfl rfl ?_
  refine so hg5 rfl rfl rfl rfl ?_
  refine so hg5 rfl rfl rfl rfl ?_
  refine so hg5 rfl rfl rfl rfl ?_
  refine so hg5 rfl rfl rfl rfl ?_
  refine spf trivial rfl rfl rfl ?_
  refine sm trivial rfl rfl ?_
  refine so hg12 rfl rfl rfl rfl ?_
  refine so hg12 rfl rfl rfl rfl ?_
  refine so hg12 rfl rfl rfl rfl ?_
  refine so hg12 rfl rfl rfl rfl ?_
  refine so hg12 rfl rfl rfl rfl ?_
  refine spf trivial rfl rfl rfl ?_
  refine sa trivial rfl rfl ?_
  refine St.nil fun a16 h16=>?_
  refine hK5 _ _ ?_
  refine wp_ret ?_;with_reducible repeat first | refine of_then_ret ?_ | refine of_block_ret ?_
  have R:¬ x=y:=fun e=>hc15 (by rw [e])
  exact ret_tmp (t:=4) h16 rfl rfl ⟨by rw [bdec_false R],hW3.bel⟩
theorem sameIns_any {x y : MIns} {i j : IP} {w : World} (hx0 : IIn w All x i) (hy0 : IIn w All y j) (hs0 : x.small) :
    Rd Tryz.prog 51 #[.agg #[.int .i64 x.op,.int .i64 x.a,.int .i64 x.b,.int .i64 x.c,.int .i64 x.k,.int .i64 x.n,.slice i.pR x.regs.length i.cR,.slice i.pA x.args.length i.cA],.agg #[.int .i64 y.op,.int .i64 y.a,.int .i64 y.b,.int .i64 y.c,.int .i64 y.k,.int .i64 y.n,.slice j.pR y.regs.length j.cR,.slice j.pA y.args.length j.cA]] w (.bool (bdec (x=y))):=by
  have hx:Hid _:=hx0
  have hy:Hid _:=hy0
  have hs:Hid _:=hs0
  clear hx0 hy0 hs0
  refine fr_enter (n:=59) Tryz.func51 rfl rfl rfl ?_
  intro a hF
  have hW:=Wd.start w
  replace hF:Fr 59 a [(0,.agg #[.int .i64 x.op,.int .i64 x.a,.int .i64 x.b,.int .i64 x.c,.int .i64 x.k,.int .i64 x.n,.slice i.pR x.regs.length i.cR,.slice i.pA x.args.length i.cA]),(1,.agg #[.int .i64 y.op,.int .i64 y.a,.int .i64 y.b,.int .i64 y.c,.int .i64 y.k,.int .i64 y.n,.slice j.pR y.regs.length j.cR,.slice j.pA y.args.length j.cA])]:=hF
  refine wp_seq_k fun K1 hK1=>?_
  refine rg hF fun ops=>?_;clear hF a
  refine sB hW trivial rfl rfl ?_
  clear hW;intro w2 B2 hW2 hN;clear hN
  refine sB hW2 trivial rfl rfl ?_
  clear hW2;intro w3 B3 hW3 hN;clear hN
  refine sa trivial rfl rfl ?_
  refine St.nil fun a4 h4=>?_
  refine hK1 _ _ ?_
  refine wp_seq_k fun K5 hK5=>?_
  refine fr_region ?_
  intro ops hops
  have hg5:(ops[5]?).bind (fun o:Oper=>o.dst)=some 10:=hops 5
  have hg12:(ops[12]?).bind (fun o:Oper=>o.dst)=some 17:=hops 12
  have hg19:(ops[19]?).bind (fun o:Oper=>o.dst)=some 24:=hops 19
  have hg26:(ops[26]?).bind (fun o:Oper=>o.dst)=some 31:=hops 26
  have hg33:(ops[33]?).bind (fun o:Oper=>o.dst)=some 38:=hops 33
  have hg40:(ops[40]?).bind (fun o:Oper=>o.dst)=some 45:=hops 40
  have hg47:(ops[47]?).bind (fun o:Oper=>o.dst)=some 52:=hops 47
  clear hops
  refine St.go h4 ?_;clear h4 a4
  refine sfIns0 trivial rfl rfl ?_
  refine sbInt 1 hW3 trivial rfl rfl rfl rfl ?_
  refine sfIns0 trivial rfl rfl ?_
  refine sbInt 0 hW3 trivial rfl rfl rfl rfl ?_
  refine seq trivial rfl rfl rfl ?_
  refine sm trivial rfl rfl ?_
  intro a6 h6
  rcases Bool.eq_false_or_eq_true (x.op == y.op) with hb | hb
  ·rw [hb] at h6
   have h9:x.op=y.op:=eq_of_beq hb
   have hc7:Hid (x.op=y.op):=h9
   clear h9
   clear hb
   refine St.go h6 ?_;clear h6 a6
   refine sfIns1 ⟨_,hg5,rfl,rfl⟩ rfl rfl ?_
   refine sbInt 1 hW3 ⟨_,hg5,rfl,rfl⟩ rfl rfl rfl rfl ?_
   refine sfIns1 ⟨_,hg5,rfl,rfl⟩ rfl rfl ?_
   refine sbInt 0 hW3 ⟨_,hg5,rfl,rfl⟩ rfl rfl rfl rfl ?_
   refine seq ⟨_,hg5,rfl,rfl⟩ rfl rfl rfl ?_
   refine sp trivial rfl rfl rfl ?_
   refine sm trivial rfl rfl ?_
   intro a8 h8
   rcases Bool.eq_false_or_eq_true (x.a == y.a) with hb | hb
   ·rw [hb] at h8
    have h9:x.a=y.a:=eq_of_beq hb
    have hc9:Hid (x.a=y.a):=h9
    clear h9
    clear hb
    refine St.go h8 ?_;clear h8 a8
    refine sfIns2 ⟨_,hg12,rfl,rfl⟩ rfl rfl ?_
    refine sbInt 1 hW3 ⟨_,hg12,rfl,rfl⟩ rfl rfl rfl rfl ?_
    refine sfIns2 ⟨_,hg12,rfl,rfl⟩ rfl rfl ?_
    refine sbInt 0 hW3 ⟨_,hg12,rfl,rfl⟩ rfl rfl rfl rfl ?_
    refine seq ⟨_,hg12,rfl,rfl⟩ rfl rfl rfl ?_
    refine sp trivial rfl rfl rfl ?_
    refine sm trivial rfl rfl ?_
    intro a10 h10
    rcases Bool.eq_false_or_eq_true (x.b == y.b) with hb | hb
    ·rw [hb] at h10
     have h9:x.b=y.b:=eq_of_beq hb
     have hc11:Hid (x.b=y.b):=h9
     clear h9
     clear hb
     refine St.go h10 ?_;clear h10 a10
     refine sfIns3 ⟨_,hg19,rfl,rfl⟩ rfl rfl ?_
     refine sbInt 1 hW3 ⟨_,hg19,rfl,rfl⟩ rfl rfl rfl rfl ?_
     refine sfIns3 ⟨_,hg19,rfl,rfl⟩ rfl rfl ?_
     refine sbInt 0 hW3 ⟨_,hg19,rfl,rfl⟩ rfl rfl rfl rfl ?_
     refine seq ⟨_,hg19,rfl,rfl⟩ rfl rfl rfl ?_
     refine sp trivial rfl rfl rfl ?_
     refine sm trivial rfl rfl ?_
     intro a12 h12
     rcases Bool.eq_false_or_eq_true (x.c == y.c) with hb | hb
     ·rw [hb] at h12
      have h9:x.c=y.c:=eq_of_beq hb
      have hc13:Hid (x.c=y.c):=h9
      clear h9
      clear hb
      refine St.go h12 ?_;clear h12 a12
      refine sfIns4 ⟨_,hg26,rfl,rfl⟩ rfl rfl ?_
      refine sbInt 1 hW3 ⟨_,hg26,rfl,rfl⟩ rfl rfl rfl rfl ?_
      refine sfIns4 ⟨_,hg26,rfl,rfl⟩ rfl rfl ?_
      refine sbInt 0 hW3 ⟨_,hg26,rfl,rfl⟩ rfl rfl rfl rfl ?_
      refine seq ⟨_,hg26,rfl,rfl⟩ rfl rfl rfl ?_
      refine sp trivial rfl rfl rfl ?_
      refine sm trivial rfl rfl ?_
      intro a14 h14
      rcases Bool.eq_false_or_eq_true (x.k == y.k) with hb | hb
      ·rw [hb] at h14
       have h9:x.k=y.k:=eq_of_beq hb
       have hc15:Hid (x.k=y.k):=h9
       clear h9
       clear hb
       refine St.go h14 ?_;clear h14 a14
       refine sfIns5 ⟨_,hg33,rfl,rfl⟩ rfl rfl ?_
       refine sbInt6 1 hW3 ⟨_,hg33,rfl,rfl⟩ rfl rfl rfl rfl ?_
       refine sfIns5 ⟨_,hg33,rfl,rfl⟩ rfl rfl ?_
       refine sbInt6 0 hW3 ⟨_,hg33,rfl,rfl⟩ rfl rfl rfl rfl ?_
       refine seq6 ⟨_,hg33,rfl,rfl⟩ rfl rfl rfl ?_
       refine sp trivial rfl rfl rfl ?_
       refine sm trivial rfl rfl ?_
       intro a16 h16
       rcases Bool.eq_false_or_eq_true (x.n == y.n) with hb | hb
       ·rw [hb] at h16
        have h9:x.n=y.n:=eq_of_beq hb
        have hc17:Hid (x.n=y.n):=h9
        clear h9
        clear hb
        refine St.go h16 ?_;clear h16 a16
        refine sfIns6 ⟨_,hg40,rfl,rfl⟩ rfl rfl ?_
        refine sbInts 1 hW3 ⟨_,hg40,rfl,rfl⟩ rfl rfl rfl rfl ?_
        refine sfIns6 ⟨_,hg40,rfl,rfl⟩ rfl rfl ?_
        refine sbInts 0 hW3 ⟨_,hg40,rfl,rfl⟩ rfl rfl rfl rfl ?_
        refine sc_2 cf53 hW3 (sameInts_any x.regs y.regs i.pR j.pR i.cR j.cR w3 (Lay.below hx.out.regs hW3.bel) (Lay.below hy.out.regs hW3.bel) (by have:=hs.out.1;omega)) ⟨_,hg40,rfl,rfl⟩ rfl rfl rfl ?_
        clear hW3;intro w18 hW18
        refine sp trivial rfl rfl rfl ?_
        refine sm trivial rfl rfl ?_
        intro a19 h19
        rcases Bool.eq_false_or_eq_true (bdec (x.regs=y.regs)) with hb | hb
        ·rw [hb] at h19
         have hc20:(x.regs=y.regs):=bdec_iff.1 hb
         clear hb
         refine St.go h19 ?_;clear h19 a19
         refine sfIns7 ⟨_,hg47,rfl,rfl⟩ rfl rfl ?_
         refine sbInts 1 hW18 ⟨_,hg47,rfl,rfl⟩ rfl rfl rfl rfl ?_
         refine sfIns7 ⟨_,hg47,rfl,rfl⟩ rfl rfl ?_
         refine sbInts 0 hW18 ⟨_,hg47,rfl,rfl⟩ rfl rfl rfl rfl ?_
         refine sc_2 cf53 hW18 (sameInts_any x.args y.args i.pA j.pA i.cA j.cA w18 (Lay.below hx.out.args hW18.bel) (Lay.below hy.out.args hW18.bel) (by have:=hs.out.2;omega)) ⟨_,hg47,rfl,rfl⟩ rfl rfl rfl ?_
         clear hW18;intro w21 hW21
         refine sp trivial rfl rfl rfl ?_
         refine sa trivial rfl rfl ?_
         refine St.nil fun a22 h22=>?_
         refine hK5 _ _ ?_
         refine wp_ret ?_;with_reducible repeat first | refine of_then_ret ?_ | refine of_block_ret ?_
         have R:x.args=y.args ↔ x=y:=⟨fun h=>MIns.eq_of hc7.out hc9.out hc11.out hc13.out hc15.out hc17.out hc20 h,fun e=>by rw [e]⟩
         exact ret_tmp (t:=4) h22 rfl rfl ⟨by rw [bdec_congr R],hW21.bel⟩
        rw [hb] at h19
        have hc23:¬ (x.regs=y.regs):=fun h=>by rw [bdec_true h] at hb;cases hb
        clear hb
        refine St.go h19 ?_;clear h19 a19
        refine so hg47 rfl rfl rfl rfl ?_
        refine so hg47 rfl rfl rfl rfl ?_
        refine so hg47 rfl rfl rfl rfl ?_
        refine so hg47 rfl rfl rfl rfl ?_
        refine so hg47 rfl rfl rfl rfl ?_
        refine spf trivial rfl rfl rfl ?_
        refine sa trivial rfl rfl ?_
        refine St.nil fun a24 h24=>?_
        refine hK5 _ _ ?_
        refine wp_ret ?_;with_reducible repeat first | refine of_then_ret ?_ | refine of_block_ret ?_
        have R:¬ x=y:=fun e=>hc23 (by rw [e])
        exact ret_tmp (t:=4) h24 rfl rfl ⟨by rw [bdec_false R],hW18.bel⟩
       rw [hb] at h16
       have h9:¬ x.n=y.n:=ne_of_beq_false hb
       have hc25:¬ x.n=y.n:=h9
       clear h9
       clear hb
       refine St.go h16 ?_;clear h16 a16
       refine so hg40 rfl rfl rfl rfl ?_
       refine so hg40 rfl rfl rfl rfl ?_
       refine so hg40 rfl rfl rfl rfl ?_
       refine so hg40 rfl rfl rfl rfl ?_
       refine so hg40 rfl rfl rfl rfl ?_
       refine spf trivial rfl rfl rfl ?_
       refine sm trivial rfl rfl ?_
       refine so hg47 rfl rfl rfl rfl ?_
       refine so hg47 rfl rfl rfl rfl ?_
       refine so hg47 rfl rfl rfl rfl ?_
       refine so hg47 rfl rfl rfl rfl ?_
       refine so hg47 rfl rfl rfl rfl ?_
       refine spf trivial rfl rfl rfl ?_
       refine sa trivial rfl rfl ?_
       refine St.nil fun a26 h26=>?_
       refine hK5 _ _ ?_
       refine wp_ret ?_;with_reducible repeat first | refine of_then_ret ?_ | refine of_block_ret ?_
       have R:¬ x=y:=fun e=>hc25 (by rw [e])
       exact ret_tmp (t:=4) h26 rfl rfl ⟨by rw [bdec_false R],hW3.bel⟩
      rw [hb] at h14
      have h9:¬ x.k=y.k:=ne_of_beq_false hb
      have hc27:¬ x.k=y.k:=h9
      clear h9
      clear hb
      refine St.go h14 ?_;clear h14 a14
      refine so hg33 rfl rfl rfl rfl ?_
      refine so hg33 rfl rfl rfl rfl ?_
      refine so hg33 rfl rfl rfl rfl ?_
      refine so hg33 rfl rfl rfl rfl ?_
      refine so hg33 rfl rfl rfl rfl ?_
      refine spf trivial rfl rfl rfl ?_
      refine sm trivial rfl rfl ?_
      refine so hg40 rfl rfl rfl rfl ?_
      refine so hg40 rfl rfl rfl rfl ?_
      refine so hg40 rfl rfl rfl rfl ?_
      refine so hg40 rfl rfl rfl rfl ?_
      refine so hg40 rfl rfl rfl rfl ?_
      refine spf trivial rfl rfl rfl ?_
      refine sm trivial rfl rfl ?_
      refine so hg47 rfl rfl rfl rfl ?_
      refine so hg47 rfl rfl rfl rfl ?_
      refine so hg47 rfl rfl rfl rfl ?_
      refine so hg47 rfl rfl rfl rfl ?_
      refine so hg47 rfl rfl rfl rfl ?_
      refine spf trivial rfl rfl rfl ?_
      refine sa trivial rfl rfl ?_
      refine St.nil fun a28 h28=>?_
      refine hK5 _ _ ?_
      refine wp_ret ?_;with_reducible repeat first | refine of_then_ret ?_ | refine of_block_ret ?_
      have R:¬ x=y:=fun e=>hc27 (by rw [e])
      exact ret_tmp (t:=4) h28 rfl rfl ⟨by rw [bdec_false R],hW3.bel⟩
     rw [hb] at h12
     have h9:¬ x.c=y.c:=ne_of_beq_false hb
     have hc29:¬ x.c=y.c:=h9
     clear h9
     clear hb
     refine St.go h12 ?_;clear h12 a12
     refine so hg26 rfl rfl rfl rfl ?_
     refine so hg26 rfl rfl rfl rfl ?_
     refine so hg26 rfl rfl rfl rfl ?_
     refine so hg26 rfl rfl rfl rfl ?_
     refine so hg26 rfl rfl rfl rfl ?_
     refine spf trivial rfl rfl rfl ?_
     refine sm trivial rfl rfl ?_
     refine so hg33 rfl rfl rfl rfl ?_
     refine so hg33 rfl rfl rfl rfl ?_
     refine so hg33 rfl rfl rfl rfl ?_
     refine so hg33 rfl rfl rfl rfl ?_
     refine so hg33 rfl rfl rfl rfl ?_
     refine spf trivial rfl rfl rfl ?_
     refine sm trivial rfl rfl ?_
     refine so hg40 rfl rfl rfl rfl ?_
     refine so hg40 rfl rfl rfl rfl ?_
     refine so hg40 rfl rfl rfl rfl ?_
     refine so hg40 rfl rfl rfl rfl ?_
     refine so hg40 rfl rfl rfl rfl ?_
     refine spf trivial rfl rfl rfl ?_
     refine sm trivial rfl rfl ?_
     refine so hg47 rfl rfl rfl rfl ?_
     refine so hg47 rfl rfl rfl rfl ?_
     refine so hg47 rfl rfl rfl rfl ?_
     refine so hg47 rfl rfl rfl rfl ?_
     refine so hg47 rfl rfl rfl rfl ?_
     refine spf trivial rfl rfl rfl ?_
     refine sa trivial rfl rfl ?_
     refine St.nil fun a30 h30=>?_
     refine hK5 _ _ ?_
     refine wp_ret ?_;with_reducible repeat first | refine of_then_ret ?_ | refine of_block_ret ?_
     have R:¬ x=y:=fun e=>hc29 (by rw [e])
     exact ret_tmp (t:=4) h30 rfl rfl ⟨by rw [bdec_false R],hW3.bel⟩
    rw [hb] at h10
    have h9:¬ x.b=y.b:=ne_of_beq_false hb
    have hc31:¬ x.b=y.b:=h9
    clear h9
    clear hb
    refine St.go h10 ?_;clear h10 a10
    refine so hg19 rfl rfl rfl rfl ?_
    refine so hg19 rfl rfl rfl rfl ?_
    refine so hg19 rfl rfl rfl rfl ?_
    refine so hg19 rfl rfl rfl rfl ?_
    refine so hg19 rfl rfl rfl rfl ?_
    refine spf trivial rfl rfl rfl ?_
    refine sm trivial rfl rfl ?_
    refine so hg26 rfl rfl rfl rfl ?_
    refine so hg26 rfl rfl rfl rfl ?_
    refine so hg26 rfl rfl rfl rfl ?_
    refine so hg26 rfl rfl rfl rfl ?_
    refine so hg26 rfl rfl rfl rfl ?_
    refine spf trivial rfl rfl rfl ?_
    refine sm trivial rfl rfl ?_
    refine so hg33 rfl rfl rfl rfl ?_
    refine so hg33 rfl rfl rfl rfl ?_
    refine so hg33 rfl rfl rfl rfl ?_
    refine so hg33 rfl rfl rfl rfl ?_
    refine so hg33 rfl rfl rfl rfl ?_
    refine spf trivial rfl rfl rfl ?_
    refine sm trivial rfl rfl ?_
    refine so hg40 rfl rfl rfl rfl ?_
    refine so hg40 rfl rfl rfl rfl ?_
    refine so hg40 rfl rfl rfl rfl ?_
    refine so hg40 rfl rfl rfl rfl ?_
    refine so hg40 rfl rfl rfl rfl ?_
    refine spf trivial rfl rfl rfl ?_
    refine sm trivial rfl rfl ?_
    refine so hg47 rfl rfl rfl rfl ?_
    refine so hg47 rfl rfl rfl rfl ?_
    refine so hg47 rfl rfl rfl rfl ?_
    refine so hg47 rfl rfl rfl rfl ?_
    refine so hg47 rfl rfl rfl rfl ?_
    refine spf trivial rfl rfl rfl ?_
    refine sa trivial rfl rfl ?_
    refine St.nil fun a32 h32=>?_
    refine hK5 _ _ ?_
    refine wp_ret ?_;with_reducible repeat first | refine of_then_ret ?_ | refine of_block_ret ?_
    have R:¬ x=y:=fun e=>hc31 (by rw [e])
    exact ret_tmp (t:=4) h32 rfl rfl ⟨by rw [bdec_false R],hW3.bel⟩
   rw [hb] at h8
   have h9:¬ x.a=y.a:=ne_of_beq_false hb
   have hc33:¬ x.a=y.a:=h9
   clear h9
   clear hb
   refine St.go h8 ?_;clear h8 a8
   refine so hg12 rfl rfl rfl rfl ?_
   refine so hg12 rfl rfl rfl rfl ?_
   refine so hg12 rfl rfl rfl rfl ?_
   refine so hg12 rfl rfl rfl rfl ?_
   refine so hg12 rfl rfl rfl rfl ?_
   refine spf trivial rfl rfl rfl ?_
   refine sm trivial rfl rfl ?_
   refine so hg19 rfl rfl rfl rfl ?_
   refine so hg19 rfl rfl rfl rfl ?_
   refine so hg19 rfl rfl rfl rfl ?_
   refine so hg19 rfl rfl rfl rfl ?_
   refine so hg19 rfl rfl rfl rfl ?_
   refine spf trivial rfl rfl rfl ?_
   refine sm trivial rfl rfl ?_
   refine so hg26 rfl rfl rfl rfl ?_
   refine so hg26 rfl rfl rfl rfl ?_
   refine so hg26 rfl rfl rfl rfl ?_
   refine so hg26 rfl rfl rfl rfl ?_
   refine so hg26 rfl rfl rfl rfl ?_
   refine spf trivial rfl rfl rfl ?_
   refine sm trivial rfl rfl ?_
   refine so hg33 rfl rfl rfl rfl ?_
   refine so hg33 rfl rfl rfl rfl ?_
   refine so hg33 rfl rfl rfl rfl ?_
   refine so hg33 rfl rfl rfl rfl ?_
   refine so hg33 rfl rfl rfl rfl ?_
   refine spf trivial rfl rfl rfl ?_
   refine sm trivial rfl rfl ?_
   refine so hg40 rfl rfl rfl rfl ?_
   refine so hg40 rfl rfl rfl rfl ?_
   refine so hg40 rfl rfl rfl rfl ?_
   refine so hg40 rfl rfl rfl rfl ?_
   refine so hg40 rfl rfl rfl rfl ?_
   refine spf trivial rfl rfl rfl ?_
   refine sm trivial rfl rfl ?_
   refine so hg47 rfl rfl rfl rfl ?_
   refine so hg47 rfl rfl rfl rfl ?_
   refine so hg47 rfl rfl rfl rfl ?_
   refine so hg47 rfl rfl rfl rfl ?_
   refine so hg47 rfl rfl rfl rfl ?_
   refine spf trivial rfl rfl rfl ?_
   refine sa trivial rfl rfl ?_
   refine St.nil fun a34 h34=>?_
   refine hK5 _ _ ?_
   refine wp_ret ?_;with_reducible repeat first | refine of_then_ret ?_ | refine of_block_ret ?_
   have R:¬ x=y:=fun e=>hc33 (by rw [e])
   exact ret_tmp (t:=4) h34 rfl rfl ⟨by rw [bdec_false R],hW3.bel⟩
  rw [hb] at h6
  have h9:¬ x.op=y.op:=ne_of_beq_false hb
  have hc35:¬ x.op=y.op:=h9
  clear h9
  clear hb
  refine St.go h6 ?_;clear h6 a6
  refine so hg5 rfl rfl rfl rfl ?_
  refine so hg5 rfl rfl rfl rfl ?_
  refine so hg5 rfl rfl rfl rfl ?_
  refine so hg5 rfl rfl rfl rfl ?_
  refine so hg5 rfl rfl rfl rfl ?_
  refine spf trivial rfl rfl rfl ?_
  refine sm trivial rfl rfl ?_
  refine so hg12 rfl rfl rfl rfl ?_
  refine so hg12 rfl rfl rfl rfl ?_
  refine so hg12 rfl rfl rfl rfl ?_
  refine so hg12 rfl rfl rfl rfl ?_
  refine so hg12 rfl rfl rfl rfl ?_
  refine spf trivial rfl rfl rfl ?_
  refine sm trivial rfl rfl ?_
  refine so hg19 rfl rfl rfl rfl ?_
  refine so hg19 rfl rfl rfl rfl ?_
  refine so hg19 rfl rfl rfl rfl ?_
  refine so hg19 rfl rfl rfl rfl ?_
  refine so hg19 rfl rfl rfl rfl ?_
  refine spf trivial rfl rfl rfl ?_
  refine sm trivial rfl rfl ?_
  refine so hg26 rfl rfl rfl rfl ?_
  refine so hg26 rfl rfl rfl rfl ?_
  refine so hg26 rfl rfl rfl rfl ?_
  refine so hg26 rfl rfl rfl rfl ?_
  refine so hg26 rfl rfl rfl rfl ?_
  refine spf trivial rfl rfl rfl ?_
  refine sm trivial rfl rfl ?_
  refine so hg33 rfl rfl rfl rfl ?_
  refine so hg33 rfl rfl rfl rfl ?_
  refine so hg33 rfl rfl rfl rfl ?_
  refine so hg33 rfl rfl rfl rfl ?_
  refine so hg33 rfl rfl rfl rfl ?_
  refine spf trivial rfl rfl rfl ?_
  refine sm trivial rfl rfl ?_
  refine so hg40 rfl rfl rfl rfl ?_
  refine so hg40 rfl rfl rfl rfl ?_
  refine so hg40 rfl rfl rfl rfl ?_
  refine so hg40 rfl rfl rfl rfl ?_
  refine so hg40 rfl rfl rfl rfl ?_
  refine spf trivial rfl rfl rfl ?_
  refine sm trivial rfl rfl ?_
  refine so hg47 rfl rfl rfl rfl ?_
  refine so hg47 rfl rfl rfl rfl ?_
  refine so hg47 rfl rfl rfl rfl ?_
  refine so hg47 rfl rfl rfl rfl ?_
  refine so hg47 rfl rfl rfl rfl ?_
  refine spf trivial rfl rfl rfl ?_
  refine sa trivial rfl rfl ?_
  refine St.nil fun a36 h36=>?_
  refine hK5 _ _ ?_
  refine wp_ret ?_;with_reducible repeat first | refine of_then_ret ?_ | refine of_block_ret ?_
  have R:¬ x=y:=fun e=>hc35 (by rw [e])
  exact ret_tmp (t:=4) h36 rfl rfl ⟨by rw [bdec_false R],hW3.bel⟩
end Go.Proofs.YtjodmledadbgeacGreatDoor
namespace Go.Proofs.YtjodmledadbgeacGreatDoor
open Go.ChangeShapes Go.WideShapes Go.ChangeAt Go.RowKit
set_option linter.unusedVariables false
def fieldsV (op : Int) : Value := match fieldsOf op with
  | some (a,b,c,k,n,rg,ar)=>.tuple #[.agg #[.bool a,.bool b,.bool c,.bool k,.bool n,.bool rg,.bool ar],.bool true]
  | none=>.tuple #[.agg #[.bool false,.bool false,.bool false,.bool false,.bool false,.bool false,.bool false],.bool false]
theorem op_cases (op : Int) : op = 1 ∨ op = 2 ∨ op = 3 ∨ op = 4 ∨ op = 5 ∨ op = 6 ∨ op = 7 ∨ op = 8 ∨ op = 9 ∨ op = 10 ∨ op = 11 ∨ op = 12 ∨ op = 13 ∨ op = 14 ∨ (op ≠ 1 ∧ op ≠ 2 ∧ op ≠ 3 ∧ op ≠ 4 ∧ op ≠ 5 ∧ op ≠ 6 ∧ op ≠ 7 ∧ op ≠ 8 ∧ op ≠ 9 ∧ op ≠ 10 ∧ op ≠ 11 ∧ op ≠ 12 ∧ op ≠ 13 ∧ op ≠ 14) := by omega
theorem fieldsOf_any (op : Int) (w : World) :
    Calls Tryz.prog 81 #[.int .i64 op] w fun e w'=>e=.returned (fieldsV op)∧Below w.heap.size w w':=by
  rcases op_cases op with rfl | rfl | rfl | rfl | rfl | rfl | rfl | rfl | rfl | rfl | rfl | rfl | rfl | rfl | ⟨n1,n2,n3,n4,n5,n6,n7,n8,n9,n10,n11,n12,n13,n14⟩
  · rw [show fieldsV 1=.tuple #[.agg #[.bool false,.bool false,.bool false,.bool false,.bool true,.bool false,.bool false],.bool true] from rfl]
    go_enter Tryz.func81,Tryz.ntmps81
    go_wp2_with fail
    exact bodyPost_ret (v:=.tuple #[.agg #[.bool false,.bool false,.bool false,.bool false,.bool true,.bool false,.bool false],.bool true]) (by simp [results,Tryz.results81,go_sem]) rfl ⟨rfl,by first | exact (Below.refl _ w).alloc (Nat.le_refl _) _ | (repeat (first | exact (Below.refl _ w).alloc (Nat.le_refl _) _ | refine Below.setCell ?_ (by simp) _))⟩
  · rw [show fieldsV 2=.tuple #[.agg #[.bool true,.bool true,.bool false,.bool true,.bool false,.bool false,.bool false],.bool true] from rfl]
    go_enter Tryz.func81,Tryz.ntmps81
    go_wp2_with fail
    exact bodyPost_ret (v:=.tuple #[.agg #[.bool true,.bool true,.bool false,.bool true,.bool false,.bool false,.bool false],.bool true]) (by simp [results,Tryz.results81,go_sem]) rfl ⟨rfl,by first | exact (Below.refl _ w).alloc (Nat.le_refl _) _ | (repeat (first | exact (Below.refl _ w).alloc (Nat.le_refl _) _ | refine Below.setCell ?_ (by simp) _))⟩
  · rw [show fieldsV 3=.tuple #[.agg #[.bool false,.bool false,.bool false,.bool false,.bool false,.bool false,.bool false],.bool true] from rfl]
    go_enter Tryz.func81,Tryz.ntmps81
    go_wp2_with fail
    exact bodyPost_ret (v:=.tuple #[.agg #[.bool false,.bool false,.bool false,.bool false,.bool false,.bool false,.bool false],.bool true]) (by simp [results,Tryz.results81,go_sem]) rfl ⟨rfl,by first | exact (Below.refl _ w).alloc (Nat.le_refl _) _ | (repeat (first | exact (Below.refl _ w).alloc (Nat.le_refl _) _ | refine Below.setCell ?_ (by simp) _))⟩
  · rw [show fieldsV 4=.tuple #[.agg #[.bool true,.bool false,.bool false,.bool false,.bool false,.bool false,.bool false],.bool true] from rfl]
    go_enter Tryz.func81,Tryz.ntmps81
    go_wp2_with fail
    exact bodyPost_ret (v:=.tuple #[.agg #[.bool true,.bool false,.bool false,.bool false,.bool false,.bool false,.bool false],.bool true]) (by simp [results,Tryz.results81,go_sem]) rfl ⟨rfl,by first | exact (Below.refl _ w).alloc (Nat.le_refl _) _ | (repeat (first | exact (Below.refl _ w).alloc (Nat.le_refl _) _ | refine Below.setCell ?_ (by simp) _))⟩
  · rw [show fieldsV 5=.tuple #[.agg #[.bool true,.bool false,.bool false,.bool false,.bool false,.bool false,.bool true],.bool true] from rfl]
    go_enter Tryz.func81,Tryz.ntmps81
    go_wp2_with fail
    exact bodyPost_ret (v:=.tuple #[.agg #[.bool true,.bool false,.bool false,.bool false,.bool false,.bool false,.bool true],.bool true]) (by simp [results,Tryz.results81,go_sem]) rfl ⟨rfl,by first | exact (Below.refl _ w).alloc (Nat.le_refl _) _ | (repeat (first | exact (Below.refl _ w).alloc (Nat.le_refl _) _ | refine Below.setCell ?_ (by simp) _))⟩
  · rw [show fieldsV 6=.tuple #[.agg #[.bool true,.bool false,.bool false,.bool true,.bool false,.bool false,.bool false],.bool true] from rfl]
    go_enter Tryz.func81,Tryz.ntmps81
    go_wp2_with fail
    exact bodyPost_ret (v:=.tuple #[.agg #[.bool true,.bool false,.bool false,.bool true,.bool false,.bool false,.bool false],.bool true]) (by simp [results,Tryz.results81,go_sem]) rfl ⟨rfl,by first | exact (Below.refl _ w).alloc (Nat.le_refl _) _ | (repeat (first | exact (Below.refl _ w).alloc (Nat.le_refl _) _ | refine Below.setCell ?_ (by simp) _))⟩
  · rw [show fieldsV 7=.tuple #[.agg #[.bool true,.bool true,.bool false,.bool true,.bool false,.bool false,.bool false],.bool true] from rfl]
    go_enter Tryz.func81,Tryz.ntmps81
    go_wp2_with fail
    exact bodyPost_ret (v:=.tuple #[.agg #[.bool true,.bool true,.bool false,.bool true,.bool false,.bool false,.bool false],.bool true]) (by simp [results,Tryz.results81,go_sem]) rfl ⟨rfl,by first | exact (Below.refl _ w).alloc (Nat.le_refl _) _ | (repeat (first | exact (Below.refl _ w).alloc (Nat.le_refl _) _ | refine Below.setCell ?_ (by simp) _))⟩
  · rw [show fieldsV 8=.tuple #[.agg #[.bool true,.bool true,.bool false,.bool false,.bool false,.bool false,.bool false],.bool true] from rfl]
    go_enter Tryz.func81,Tryz.ntmps81
    go_wp2_with fail
    exact bodyPost_ret (v:=.tuple #[.agg #[.bool true,.bool true,.bool false,.bool false,.bool false,.bool false,.bool false],.bool true]) (by simp [results,Tryz.results81,go_sem]) rfl ⟨rfl,by first | exact (Below.refl _ w).alloc (Nat.le_refl _) _ | (repeat (first | exact (Below.refl _ w).alloc (Nat.le_refl _) _ | refine Below.setCell ?_ (by simp) _))⟩
  · rw [show fieldsV 9=.tuple #[.agg #[.bool true,.bool true,.bool false,.bool false,.bool false,.bool false,.bool false],.bool true] from rfl]
    go_enter Tryz.func81,Tryz.ntmps81
    go_wp2_with fail
    exact bodyPost_ret (v:=.tuple #[.agg #[.bool true,.bool true,.bool false,.bool false,.bool false,.bool false,.bool false],.bool true]) (by simp [results,Tryz.results81,go_sem]) rfl ⟨rfl,by first | exact (Below.refl _ w).alloc (Nat.le_refl _) _ | (repeat (first | exact (Below.refl _ w).alloc (Nat.le_refl _) _ | refine Below.setCell ?_ (by simp) _))⟩
  · rw [show fieldsV 10=.tuple #[.agg #[.bool true,.bool true,.bool true,.bool false,.bool false,.bool false,.bool false],.bool true] from rfl]
    go_enter Tryz.func81,Tryz.ntmps81
    go_wp2_with fail
    exact bodyPost_ret (v:=.tuple #[.agg #[.bool true,.bool true,.bool true,.bool false,.bool false,.bool false,.bool false],.bool true]) (by simp [results,Tryz.results81,go_sem]) rfl ⟨rfl,by first | exact (Below.refl _ w).alloc (Nat.le_refl _) _ | (repeat (first | exact (Below.refl _ w).alloc (Nat.le_refl _) _ | refine Below.setCell ?_ (by simp) _))⟩
  · rw [show fieldsV 11=.tuple #[.agg #[.bool true,.bool false,.bool false,.bool false,.bool false,.bool false,.bool false],.bool true] from rfl]
    go_enter Tryz.func81,Tryz.ntmps81
    go_wp2_with fail
    exact bodyPost_ret (v:=.tuple #[.agg #[.bool true,.bool false,.bool false,.bool false,.bool false,.bool false,.bool false],.bool true]) (by simp [results,Tryz.results81,go_sem]) rfl ⟨rfl,by first | exact (Below.refl _ w).alloc (Nat.le_refl _) _ | (repeat (first | exact (Below.refl _ w).alloc (Nat.le_refl _) _ | refine Below.setCell ?_ (by simp) _))⟩
  · rw [show fieldsV 12=.tuple #[.agg #[.bool false,.bool false,.bool false,.bool false,.bool false,.bool false,.bool false],.bool true] from rfl]
    go_enter Tryz.func81,Tryz.ntmps81
    go_wp2_with fail
    exact bodyPost_ret (v:=.tuple #[.agg #[.bool false,.bool false,.bool false,.bool false,.bool false,.bool false,.bool false],.bool true]) (by simp [results,Tryz.results81,go_sem]) rfl ⟨rfl,by first | exact (Below.refl _ w).alloc (Nat.le_refl _) _ | (repeat (first | exact (Below.refl _ w).alloc (Nat.le_refl _) _ | refine Below.setCell ?_ (by simp) _))⟩
  · rw [show fieldsV 13=.tuple #[.agg #[.bool true,.bool false,.bool false,.bool false,.bool false,.bool false,.bool false],.bool true] from rfl]
    go_enter Tryz.func81,Tryz.ntmps81
    go_wp2_with fail
    exact bodyPost_ret (v:=.tuple #[.agg #[.bool true,.bool false,.bool false,.bool false,.bool false,.bool false,.bool false],.bool true]) (by simp [results,Tryz.results81,go_sem]) rfl ⟨rfl,by first | exact (Below.refl _ w).alloc (Nat.le_refl _) _ | (repeat (first | exact (Below.refl _ w).alloc (Nat.le_refl _) _ | refine Below.setCell ?_ (by simp) _))⟩
  · rw [show fieldsV 14=.tuple #[.agg #[.bool false,.bool false,.bool false,.bool true,.bool false,.bool true,.bool true],.bool true] from rfl]
    go_enter Tryz.func81,Tryz.ntmps81
    go_wp2_with fail
    exact bodyPost_ret (v:=.tuple #[.agg #[.bool false,.bool false,.bool false,.bool true,.bool false,.bool true,.bool true],.bool true]) (by simp [results,Tryz.results81,go_sem]) rfl ⟨rfl,by first | exact (Below.refl _ w).alloc (Nat.le_refl _) _ | (repeat (first | exact (Below.refl _ w).alloc (Nat.le_refl _) _ | refine Below.setCell ?_ (by simp) _))⟩
  · rw [show fieldsV op=.tuple #[.agg #[.bool false,.bool false,.bool false,.bool false,.bool false,.bool false,.bool false],.bool false] by unfold fieldsV fieldsOf;simp [n1,n2,n3,n4,n5,n6,n7,n8,n9,n10,n11,n12,n13,n14]]
    have g1:(op == 1)=false:=by simpa using n1
    have g2:(op == 2)=false:=by simpa using n2
    have g3:(op == 3)=false:=by simpa using n3
    have g4:(op == 4)=false:=by simpa using n4
    have g5:(op == 5)=false:=by simpa using n5
    have g6:(op == 6)=false:=by simpa using n6
    have g7:(op == 7)=false:=by simpa using n7
    have g8:(op == 8)=false:=by simpa using n8
    have g9:(op == 9)=false:=by simpa using n9
    have g10:(op == 10)=false:=by simpa using n10
    have g11:(op == 11)=false:=by simpa using n11
    have g12:(op == 12)=false:=by simpa using n12
    have g13:(op == 13)=false:=by simpa using n13
    have g14:(op == 14)=false:=by simpa using n14
    clear n1 n2 n3 n4 n5 n6 n7 n8 n9 n10 n11 n12 n13 n14
    go_enter Tryz.func81,Tryz.ntmps81
    go_wp2_with fail
    exact bodyPost_ret (v:=.tuple #[.agg #[.bool false,.bool false,.bool false,.bool false,.bool false,.bool false,.bool false],.bool false]) (by simp [results,Tryz.results81,go_sem]) rfl ⟨rfl,by first | exact (Below.refl _ w).alloc (Nat.le_refl _) _ | (repeat (first | exact (Below.refl _ w).alloc (Nat.le_refl _) _ | refine Below.setCell ?_ (by simp) _))⟩
def insForm (funcs : Nat) (op a b c k n : Int) (rl al : Nat) : Int :=
  match fieldsOf op with
  | none=>3
  | some (fa,fb,fc,fk,fn,fr,fs) =>
    if (!fa && a != 0) || (!fb && b != 0) || (!fc && c != 0) || (!fk && k != 0) || (!fn && n != 0) || (!fr && decide (0 < rl)) || (!fs && decide (0 < al)) then 4
    else if op=2∧(k < 1 ∨ 9 < k) then 1
    else if op=5∧8 < al then 2
    else if (op=6 ∨ op=7)∧(k < 0 ∨ 7 < k) then 1
    else if op=14∧(k < 0 ∨ (funcs:Int)≤k) then 1
    else if op=14∧(6 < rl ∨ 8 < al) then 2
    else 0
theorem MIns.form_eq (funcs : Nat) (x : MIns) : x.form funcs = insForm funcs x.op x.a x.b x.c x.k x.n x.regs.length x.args.length := by
  unfold MIns.form MIns.formless insForm
  cases fieldsOf x.op with
  | none=>rfl
  | some p=>obtain ⟨a,b,c,k,n,r,s⟩:=p;rfl
end Go.Proofs.YtjodmledadbgeacGreatDoor
namespace Go.Proofs.YtjodmledadbgeacGreatDoor
open Go.ChangeShapes Go.WideShapes Go.ChangeAt Go.RowKit
set_option linter.unusedSimpArgs false
set_option linter.unusedVariables false
theorem rdFieldsSome {op : Int} {fa fb fc fk fn fr fs : Bool} (hop : fieldsOf op = some (fa, fb, fc, fk, fn, fr, fs)) (w : World) : Rd Tryz.prog 81 #[.int .i64 op] w (.tuple #[.agg #[.bool fa, .bool fb, .bool fc, .bool fk, .bool fn, .bool fr, .bool fs], .bool true]) := by
  have:=fieldsOf_any op w
  rwa [show fieldsV op=.tuple #[.agg #[.bool fa,.bool fb,.bool fc,.bool fk,.bool fn,.bool fr,.bool fs],.bool true] from by unfold fieldsV;rw [hop]] at this
theorem rdFieldsNo {op : Int} (hop : fieldsOf op = none) (w : World) : Rd Tryz.prog 81 #[.int .i64 op] w (.tuple #[.agg #[.bool false, .bool false, .bool false, .bool false, .bool false, .bool false, .bool false], .bool false]) := by
  have:=fieldsOf_any op w
  rwa [show fieldsV op=.tuple #[.agg #[.bool false,.bool false,.bool false,.bool false,.bool false,.bool false,.bool false],.bool false] from by unfold fieldsV;rw [hop]] at this
theorem insForm_d {lm : Nat} {op a b c k n : Int} {rl al : Nat} {fa fb fc fk fn fr fs d1 d2 d3 d4 d5 d6 d7 : Bool} (e : fieldsOf op = some (fa, fb, fc, fk, fn, fr, fs))
    (h1:d1=(!fa && a != 0)) (h2:d2=(d1 || (!fb && b != 0))) (h3:d3=(d2 || (!fc && c != 0))) (h4:d4=(d3 || (!fk && k != 0))) (h5:d5=(d4 || (!fn && n != 0))) (h6:d6=(d5 || (!fr && decide ((0:Int) < (rl:Int))))) (h7:d7=(d6 || (!fs && decide ((0:Int) < (al:Int))))) :
    insForm lm op a b c k n rl al=if d7 then 4
    else if op=2∧(k < 1 ∨ 9 < k) then 1
    else if op=5∧8 < al then 2
    else if (op=6 ∨ op=7)∧(k < 0 ∨ 7 < k) then 1
    else if op=14∧(k < 0 ∨ (lm:Int)≤k) then 1
    else if op=14∧(6 < rl ∨ 8 < al) then 2
    else 0:=by
  subst h1 h2 h3 h4 h5 h6 h7
  simp only [insForm,e]
  have e1:decide ((0:Int) < (rl:Int))=decide (0 < rl):=by simp
  have e2:decide ((0:Int) < (al:Int))=decide (0 < al):=by simp
  rw [e1,e2]
def rangeC (x l m : Int) : Int := if x < l ∨ m < x then 1 else 0
def manyC (len : Nat) (m : Int) : Int := if m < len then 2 else 0
def handedC (r : Nat) (m : Int) (s : Nat) : Int := if manyC r m ≠ 0 then manyC r m else manyC s 8
theorem wrap_add (p q : Nat) (h : p + q < 4611686018427387904) : IntKind.i64.wrap ((p : Int) + (q : Int)) = (p : Int) + (q : Int) := by
  have e1:((p:Int)+(q:Int)) % 2 ^ 64=(p:Int)+(q:Int):=by omega
  simp only [IntKind.wrap,IntKind.signed,IntKind.bits,e1,Bool.true_and]
  rw [if_neg (by simp only [decide_eq_true_eq];omega)]
theorem rangeCode_any {x l m : Int} {w : World}  :
    Rd Tryz.prog 146 #[.int .i64 x,.int .i64 l,.int .i64 m] w (.int .i64 (rangeC x l m)):=by
  refine fr_enter (n:=15) Tryz.func146 rfl rfl rfl ?_
  intro a hF
  have hW:=Wd.start w
  replace hF:Fr 15 a [(0,.int .i64 x),(1,.int .i64 l),(2,.int .i64 m)]:=hF
  refine wp_seq_k fun K1 hK1=>?_
  refine rg hF fun ops=>?_;clear hF a
  refine sa trivial rfl rfl ?_
  refine St.nil fun a2 h2=>?_
  refine hK1 _ _ ?_
  refine wp_seq_k fun K3 hK3=>?_
  refine wp_seq_k fun K4 hK4=>?_
  refine fr_region ?_
  intro ops hops
  have hg3:(ops[3]?).bind (fun o:Oper=>o.dst)=some 10:=hops 3
  clear hops
  refine St.go h2 ?_;clear h2 a2
  refine sm trivial rfl rfl ?_
  refine sm trivial rfl rfl ?_
  refine slt trivial rfl rfl rfl ?_
  refine sm trivial rfl rfl ?_
  intro a5 h5
  rcases Bool.eq_false_or_eq_true (decide (x < l)) with hb | hb
  ·rw [hb] at h5
   have hc6:x < l:=of_decide_eq_true hb
   clear hb
   refine St.go h5 ?_;clear h5 a5
   refine so hg3 rfl rfl rfl rfl ?_
   refine so hg3 rfl rfl rfl rfl ?_
   refine so hg3 rfl rfl rfl rfl ?_
   refine sp trivial rfl rfl rfl ?_
   refine St.nil fun a7 h7=>?_
   refine hK4 _ _ ?_
   refine fr_true (t:=14) h7 rfl ?_
   refine wp_seq_k fun K8 hK8=>?_
   refine rg h7 fun ops=>?_;clear h7 a7
   refine sa trivial rfl rfl ?_
   refine St.nil fun a9 h9=>?_
   refine hK8 _ _ ?_
   refine wp_ret ?_;with_reducible repeat first | refine of_then_ret ?_ | refine of_block_ret ?_
   have R:rangeC x l m=1:=by simp [rangeC,hc6]
   exact ret_tmp (t:=6) h9 rfl rfl ⟨by rw [R],hW.bel⟩
  rw [hb] at h5
  have hc10:¬ (x < l):=of_decide_eq_false hb
  clear hb
  refine St.go h5 ?_;clear h5 a5
  refine sm ⟨_,hg3,rfl,rfl⟩ rfl rfl ?_
  refine sm ⟨_,hg3,rfl,rfl⟩ rfl rfl ?_
  refine sgt ⟨_,hg3,rfl,rfl⟩ rfl rfl rfl ?_
  refine spf trivial rfl rfl rfl ?_
  refine St.nil fun a11 h11=>?_
  refine hK4 _ _ ?_
  refine fr_cond (t:=14) h11 rfl (fun hb=>?_) (fun hb=>?_)
  ·have hc12:m < x:=of_decide_eq_true hb
   clear hb
   refine wp_seq_k fun K13 hK13=>?_
   refine rg h11 fun ops=>?_;clear h11 a11
   refine sa trivial rfl rfl ?_
   refine St.nil fun a14 h14=>?_
   refine hK13 _ _ ?_
   refine wp_ret ?_;with_reducible repeat first | refine of_then_ret ?_ | refine of_block_ret ?_
   have R:rangeC x l m=1:=by simp [rangeC,hc10,hc12]
   exact ret_tmp (t:=6) h14 rfl rfl ⟨by rw [R],hW.bel⟩
  have hc15:¬ (m < x):=of_decide_eq_false hb
  clear hb
  refine wp_skip ?_
  refine hK3 _ _ ?_
  refine wp_seq_k fun K16 hK16=>?_
  refine rg h11 fun ops=>?_;clear h11 a11
  refine sa trivial rfl rfl ?_
  refine St.nil fun a17 h17=>?_
  refine hK16 _ _ ?_
  refine wp_ret ?_;with_reducible repeat first | refine of_then_ret ?_ | refine of_block_ret ?_
  have R:rangeC x l m=0:=by simp [rangeC,hc10,hc15]
  exact ret_tmp (t:=6) h17 rfl rfl ⟨by rw [R],hW.bel⟩
theorem manyCode_any {p : Option Addr} {len c : Nat} {m : Int} {w : World}  :
    Rd Tryz.prog 147 #[.slice p len c,.int .i64 m] w (.int .i64 (manyC len m)):=by
  refine fr_enter (n:=9) Tryz.func147 rfl rfl rfl ?_
  intro a hF
  have hW:=Wd.start w
  replace hF:Fr 9 a [(0,.slice p len c),(1,.int .i64 m)]:=hF
  refine wp_seq_k fun K1 hK1=>?_
  refine rg hF fun ops=>?_;clear hF a
  refine sa trivial rfl rfl ?_
  refine St.nil fun a2 h2=>?_
  refine hK1 _ _ ?_
  refine wp_seq_k fun K3 hK3=>?_
  refine wp_seq_k fun K4 hK4=>?_
  refine rg h2 fun ops=>?_;clear h2 a2
  refine sm trivial rfl rfl ?_
  refine slInts trivial rfl rfl ?_
  refine sm trivial rfl rfl ?_
  refine sgt trivial rfl rfl rfl ?_
  refine St.nil fun a5 h5=>?_
  refine hK4 _ _ ?_
  refine fr_cond (t:=8) h5 rfl (fun hb=>?_) (fun hb=>?_)
  ·have hc6:m < (len:Int):=of_decide_eq_true hb
   clear hb
   refine wp_seq_k fun K7 hK7=>?_
   refine rg h5 fun ops=>?_;clear h5 a5
   refine sa trivial rfl rfl ?_
   refine St.nil fun a8 h8=>?_
   refine hK7 _ _ ?_
   refine wp_ret ?_;with_reducible repeat first | refine of_then_ret ?_ | refine of_block_ret ?_
   have R:manyC len m=2:=by simp [manyC,hc6]
   exact ret_tmp (t:=4) h8 rfl rfl ⟨by rw [R],hW.bel⟩
  have hc9:¬ (m < (len:Int)):=of_decide_eq_false hb
  clear hb
  refine wp_skip ?_
  refine hK3 _ _ ?_
  refine wp_seq_k fun K10 hK10=>?_
  refine rg h5 fun ops=>?_;clear h5 a5
  refine sa trivial rfl rfl ?_
  refine St.nil fun a11 h11=>?_
  refine hK10 _ _ ?_
  refine wp_ret ?_;with_reducible repeat first | refine of_then_ret ?_ | refine of_block_ret ?_
  have R:manyC len m=0:=by simp [manyC,hc9]
  exact ret_tmp (t:=4) h11 rfl rfl ⟨by rw [R],hW.bel⟩
theorem handedCode_any {p q : Option Addr} {r c s d : Nat} {m : Int} {w : World}  :
    Rd Tryz.prog 148 #[.slice p r c,.int .i64 m,.slice q s d] w (.int .i64 (handedC r m s)):=by
  refine fr_enter (n:=16) Tryz.func148 rfl rfl rfl ?_
  intro a hF
  have hW:=Wd.start w
  replace hF:Fr 16 a [(0,.slice p r c),(1,.int .i64 m),(2,.slice q s d)]:=hF
  refine wp_seq_k fun K1 hK1=>?_
  refine rg hF fun ops=>?_;clear hF a
  refine sa trivial rfl rfl ?_
  refine St.nil fun a2 h2=>?_
  refine hK1 _ _ ?_
  refine wp_seq_k fun K3 hK3=>?_
  refine wp_seq_k fun K4 hK4=>?_
  refine rg h2 fun ops=>?_;clear h2 a2
  refine sm trivial rfl rfl ?_
  refine sm trivial rfl rfl ?_
  refine sc_2 cf147 hW (manyCode_any) trivial rfl rfl rfl ?_
  clear hW;intro w5 hW5
  refine sa trivial rfl rfl ?_
  refine St.nil fun a6 h6=>?_
  refine hK4 _ _ ?_
  refine wp_seq_k fun K7 hK7=>?_
  refine rg h6 fun ops=>?_;clear h6 a6
  refine sm trivial rfl rfl ?_
  refine sne trivial rfl rfl rfl ?_
  refine St.nil fun a8 h8=>?_
  refine hK7 _ _ ?_
  refine fr_cond (t:=12) h8 rfl (fun hb=>?_) (fun hb=>?_)
  ·have h9:¬ (manyC r m)=0:=bne_iff_ne.1 hb
   have hc9:¬ (manyC r m)=0:=h9
   clear h9
   clear hb
   refine wp_seq_k fun K10 hK10=>?_
   refine rg h8 fun ops=>?_;clear h8 a8
   refine sm trivial rfl rfl ?_
   refine sa trivial rfl rfl ?_
   refine St.nil fun a11 h11=>?_
   refine hK10 _ _ ?_
   refine wp_ret ?_;with_reducible repeat first | refine of_then_ret ?_ | refine of_block_ret ?_
   have R:handedC r m s=manyC r m:=by simp [handedC,hc9]
   exact ret_tmp (t:=6) h11 rfl rfl ⟨by rw [R],hW5.bel⟩
  have h9:(manyC r m)=0:=bne_eq_false_iff_eq.1 hb
  have hc12:Hid ((manyC r m)=0):=h9
  clear h9
  clear hb
  refine wp_skip ?_
  refine hK3 _ _ ?_
  refine wp_seq_k fun K13 hK13=>?_
  refine rg h8 fun ops=>?_;clear h8 a8
  refine sm trivial rfl rfl ?_
  refine sc_2 cf147 hW5 (manyCode_any) trivial rfl rfl rfl ?_
  clear hW5;intro w14 hW14
  refine sa trivial rfl rfl ?_
  refine St.nil fun a15 h15=>?_
  refine hK13 _ _ ?_
  refine wp_ret ?_;with_reducible repeat first | refine of_then_ret ?_ | refine of_block_ret ?_
  have R:handedC r m s=manyC s 8:=by simp [handedC,hc12.out]
  exact ret_tmp (t:=6) h15 rfl rfl ⟨by rw [R],hW14.bel⟩
theorem wrap_pred (p : Nat) (h : p < 4611686018427387904) : IntKind.i64.wrap ((p : Int) - 1) = (p : Int) - 1 := by
  rcases Nat.eq_zero_or_pos p with rfl | hp
  · decide +kernel
  · have e1:((p:Int) - 1) % 2 ^ 64=(p:Int) - 1:=by omega
    simp only [IntKind.wrap,IntKind.signed,IntKind.bits,e1,Bool.true_and]
    rw [if_neg (by simp only [decide_eq_true_eq];omega)]
theorem toForm_eq (x : MTo) (bl : Nat) : x.form bl true = if rangeC x.block 0 ((bl : Int) - 1) = 0 then handedC x.regs.length 16 x.args.length else rangeC x.block 0 ((bl : Int) - 1) := by
  unfold MTo.form rangeC handedC manyC
  simp only [Bool.true_eq_false,if_false]
  repeat' split
  all_goals omega
theorem toForm_no (x : MTo) (bl : Nat) : x.form bl false = if x.block = 0 ∧ x.regs.length = 0 ∧ x.args.length = 0 then 0 else 4 := by
  unfold MTo.form
  simp only [if_true]
  repeat' split
  all_goals omega
theorem endForm_eq (e : MEnd) (bl : Nat) : e.form bl = if e.op < 1 ∨ 3 < e.op then 3 else if (e.op ≠ 2 ∧ e.a ≠ 0) ∨ (e.op ≠ 3 ∧ 0 < e.args.length) then 4 else if 8 < e.args.length then 2
    else if e.yes.form bl (e.op != 3)=0 then e.no.form bl (e.op == 2) else e.yes.form bl (e.op != 3):=by
  unfold MEnd.form
  have h1:decide (e.op≠3)=(e.op != 3):=by by_cases h:e.op=3 <;> simp [h]
  have h2:decide (e.op=2)=(e.op == 2):=by by_cases h:e.op=2 <;> simp [h]
  rw [h1,h2]
  by_cases c1:e.op < 1 ∨ 3 < e.op
  · simp [c1]
  · rw [if_neg c1,if_neg c1]
    by_cases c2:(e.op≠2∧e.a≠0) ∨ (e.op≠3∧0 < e.args.length)
    · rw [if_pos c2,if_pos (c2.imp (fun h=>⟨h.2,h.1⟩) (fun h=>⟨h.2,h.1⟩))]
    · rw [if_neg c2,if_neg (fun h=>c2 (h.imp (fun h=>⟨h.2,h.1⟩) (fun h=>⟨h.2,h.1⟩)))]
      by_cases c3:8 < e.args.length
      · simp [c3]
      · rw [if_neg c3,if_neg c3]
        by_cases c4:e.yes.form bl (e.op != 3)=0
        · simp [c4]
        · simp [c4]
theorem toFormF {x : MTo} {pR pA : Option Addr} {cR cA : Nat} {fr : Int} {fp fq fb : Option Addr} {fl fc fm fd bl fe : Nat} {w : World} (hr : x.regs.length < 2305843009213693952) (ha : x.args.length < 2305843009213693952) (hbl : bl < 2305843009213693952) :
    Rd Tryz.prog 82 #[.agg #[.int .i64 fr,.slice fp fl fc,.slice fq fm fd,.slice fb bl fe],.agg #[.int .i64 x.block,.slice pR x.regs.length cR,.slice pA x.args.length cA],.bool false] w (.int .i64 (x.form bl false)):=by
  refine fr_enter (n:=43) Tryz.func82 rfl rfl rfl ?_
  intro a hF
  have hW:=Wd.start w
  replace hF:Fr 43 a [(0,.agg #[.int .i64 fr,.slice fp fl fc,.slice fq fm fd,.slice fb bl fe]),(1,.agg #[.int .i64 x.block,.slice pR x.regs.length cR,.slice pA x.args.length cA]),(2,.bool false)]:=hF
  refine wp_seq_k fun K1 hK1=>?_
  refine rg hF fun ops=>?_;clear hF a
  refine sB hW trivial rfl rfl ?_
  clear hW;intro w2 B2 hW2 hN;clear hN
  refine sB hW2 trivial rfl rfl ?_
  clear hW2;intro w3 B3 hW3 hN;clear hN
  refine sa trivial rfl rfl ?_
  refine St.nil fun a4 h4=>?_
  refine hK1 _ _ ?_
  refine wp_seq_k fun K5 hK5=>?_
  refine wp_seq_k fun K6 hK6=>?_
  refine rg h4 fun ops=>?_;clear h4 a4
  refine sm trivial rfl rfl ?_
  refine sn trivial rfl rfl ?_
  refine St.nil fun a7 h7=>?_
  refine hK6 _ _ ?_
  refine fr_true (t:=8) h7 rfl ?_
  refine wp_seq_k fun K8 hK8=>?_
  refine wp_seq_k fun K9 hK9=>?_
  refine fr_region ?_
  intro ops hops
  have hg3:(ops[3]?).bind (fun o:Oper=>o.dst)=some 12:=hops 3
  clear hops
  refine St.go h7 ?_;clear h7 a7
  refine sfTo0 trivial rfl rfl ?_
  refine sbInt 0 hW3 trivial rfl rfl rfl rfl ?_
  refine sne trivial rfl rfl rfl ?_
  refine sm trivial rfl rfl ?_
  intro a10 h10
  rcases Bool.eq_false_or_eq_true (x.block != 0) with hb | hb
  ·rw [hb] at h10
   have h9:¬ x.block=0:=bne_iff_ne.1 hb
   have hc11:¬ x.block=0:=h9
   clear h9
   clear hb
   refine St.go h10 ?_;clear h10 a10
   refine so hg3 rfl rfl rfl rfl ?_
   refine so hg3 rfl rfl rfl rfl ?_
   refine so hg3 rfl rfl rfl rfl ?_
   refine so hg3 rfl rfl rfl rfl ?_
   refine so hg3 rfl rfl rfl rfl ?_
   refine so hg3 rfl rfl rfl rfl ?_
   refine so hg3 rfl rfl rfl rfl ?_
   refine so hg3 rfl rfl rfl rfl ?_
   refine sp trivial rfl rfl rfl ?_
   refine St.nil fun a12 h12=>?_
   refine hK9 _ _ ?_
   refine fr_true (t:=21) h12 rfl ?_
   refine wp_seq_k fun K13 hK13=>?_
   refine rg h12 fun ops=>?_;clear h12 a12
   refine sa trivial rfl rfl ?_
   refine St.nil fun a14 h14=>?_
   refine hK13 _ _ ?_
   refine wp_ret ?_;with_reducible repeat first | refine of_then_ret ?_ | refine of_block_ret ?_
   have R:x.form bl false=4:=by have:=hc11;rw [toForm_no];split <;> omega
   exact ret_tmp (t:=6) h14 rfl rfl ⟨by rw [R],hW3.bel⟩
  rw [hb] at h10
  have h9:x.block=0:=bne_eq_false_iff_eq.1 hb
  have hc15:Hid (x.block=0):=h9
  clear h9
  clear hb
  refine St.go h10 ?_;clear h10 a10
  refine sfTo1 ⟨_,hg3,rfl,rfl⟩ rfl rfl ?_
  refine sbInts 0 hW3 ⟨_,hg3,rfl,rfl⟩ rfl rfl rfl rfl ?_
  refine slInts ⟨_,hg3,rfl,rfl⟩ rfl rfl ?_
  refine sfTo2 ⟨_,hg3,rfl,rfl⟩ rfl rfl ?_
  refine sbInts 0 hW3 ⟨_,hg3,rfl,rfl⟩ rfl rfl rfl rfl ?_
  refine slInts ⟨_,hg3,rfl,rfl⟩ rfl rfl ?_
  intro a16 h16
  refine fr_pure_g (t:=19) (g:=3) (tg:=12) (want:=false) (v:=.int .i64 ((x.regs.length+x.args.length:Nat):Int)) (w':=w3) h16 rfl rfl hg3 rfl rfl rfl (fun K hK=>?_) ?_
  ·have k0:a16.tmps.getD 15 undef=.int .i64 (x.regs.length:Int):=h16.sl 15 _ rfl
   have k1:a16.tmps.getD 18 undef=.int .i64 (x.args.length:Int):=h16.sl 18 _ rfl
   have hwr:IntKind.i64.wrap ((x.regs.length:Int)+(x.args.length:Int))=(x.regs.length:Int)+(x.args.length:Int):=wrap_add _ _ (by omega)
   go_simp
   exact hK
  clear h16;intro a17 hF17
  refine St.go hF17 ?_;clear hF17 a17
  refine sgt ⟨_,hg3,rfl,rfl⟩ rfl rfl rfl ?_
  refine spf trivial rfl rfl rfl ?_
  refine St.nil fun a18 h18=>?_
  refine hK9 _ _ ?_
  refine fr_cond (t:=21) h18 rfl (fun hb=>?_) (fun hb=>?_)
  ·have hc19:0 < ((x.regs.length+x.args.length:Nat):Int):=of_decide_eq_true hb
   clear hb
   refine wp_seq_k fun K20 hK20=>?_
   refine rg h18 fun ops=>?_;clear h18 a18
   refine sa trivial rfl rfl ?_
   refine St.nil fun a21 h21=>?_
   refine hK20 _ _ ?_
   refine wp_ret ?_;with_reducible repeat first | refine of_then_ret ?_ | refine of_block_ret ?_
   have R:x.form bl false=4:=by have:=hc15.out;have:=hc19;rw [toForm_no];split <;> omega
   exact ret_tmp (t:=6) h21 rfl rfl ⟨by rw [R],hW3.bel⟩
  have hc22:¬ (0 < ((x.regs.length+x.args.length:Nat):Int)):=of_decide_eq_false hb
  clear hb
  refine wp_skip ?_
  refine hK8 _ _ ?_
  refine wp_seq_k fun K23 hK23=>?_
  refine rg h18 fun ops=>?_;clear h18 a18
  refine sa trivial rfl rfl ?_
  refine St.nil fun a24 h24=>?_
  refine hK23 _ _ ?_
  refine wp_ret ?_;with_reducible repeat first | refine of_then_ret ?_ | refine of_block_ret ?_
  have R:x.form bl false=0:=by have:=hc15.out;have:=hc22;rw [toForm_no];split <;> omega
  exact ret_tmp (t:=6) h24 rfl rfl ⟨by rw [R],hW3.bel⟩
theorem toFormT {x : MTo} {pR pA : Option Addr} {cR cA : Nat} {fr : Int} {fp fq fb : Option Addr} {fl fc fm fd bl fe : Nat} {w : World} (hr : x.regs.length < 2305843009213693952) (ha : x.args.length < 2305843009213693952) (hbl : bl < 2305843009213693952) :
    Rd Tryz.prog 82 #[.agg #[.int .i64 fr,.slice fp fl fc,.slice fq fm fd,.slice fb bl fe],.agg #[.int .i64 x.block,.slice pR x.regs.length cR,.slice pA x.args.length cA],.bool true] w (.int .i64 (x.form bl true)):=by
  refine fr_enter (n:=43) Tryz.func82 rfl rfl rfl ?_
  intro a hF
  have hW:=Wd.start w
  replace hF:Fr 43 a [(0,.agg #[.int .i64 fr,.slice fp fl fc,.slice fq fm fd,.slice fb bl fe]),(1,.agg #[.int .i64 x.block,.slice pR x.regs.length cR,.slice pA x.args.length cA]),(2,.bool true)]:=hF
  refine wp_seq_k fun K1 hK1=>?_
  refine rg hF fun ops=>?_;clear hF a
  refine sB hW trivial rfl rfl ?_
  clear hW;intro w2 B2 hW2 hN;clear hN
  refine sB hW2 trivial rfl rfl ?_
  clear hW2;intro w3 B3 hW3 hN;clear hN
  refine sa trivial rfl rfl ?_
  refine St.nil fun a4 h4=>?_
  refine hK1 _ _ ?_
  refine wp_seq_k fun K5 hK5=>?_
  refine wp_seq_k fun K6 hK6=>?_
  refine rg h4 fun ops=>?_;clear h4 a4
  refine sm trivial rfl rfl ?_
  refine sn trivial rfl rfl ?_
  refine St.nil fun a7 h7=>?_
  refine hK6 _ _ ?_
  refine fr_false (t:=8) h7 rfl ?_
  refine wp_skip ?_
  refine hK5 _ _ ?_
  refine wp_seq_k fun K8 hK8=>?_
  refine wp_seq_k fun K9 hK9=>?_
  refine fr_region ?_
  intro ops hops
  have hg3:(ops[3]?).bind (fun o:Oper=>o.dst)=some 25:=hops 3
  clear hops
  refine St.go h7 ?_;clear h7 a7
  refine sfTo0 trivial rfl rfl ?_
  refine sbInt 0 hW3 trivial rfl rfl rfl rfl ?_
  refine slt trivial rfl rfl rfl ?_
  refine sm trivial rfl rfl ?_
  intro a10 h10
  rcases Bool.eq_false_or_eq_true (decide (x.block < 0)) with hb | hb
  ·rw [hb] at h10
   have hc11:x.block < 0:=of_decide_eq_true hb
   clear hb
   refine St.go h10 ?_;clear h10 a10
   refine so hg3 rfl rfl rfl rfl ?_
   refine so hg3 rfl rfl rfl rfl ?_
   refine so hg3 rfl rfl rfl rfl ?_
   refine so hg3 rfl rfl rfl rfl ?_
   refine so hg3 rfl rfl rfl rfl ?_
   refine so hg3 rfl rfl rfl rfl ?_
   refine sp trivial rfl rfl rfl ?_
   refine St.nil fun a12 h12=>?_
   refine hK9 _ _ ?_
   refine fr_true (t:=32) h12 rfl ?_
   refine wp_seq_k fun K13 hK13=>?_
   refine rg h12 fun ops=>?_;clear h12 a12
   refine sa trivial rfl rfl ?_
   refine St.nil fun a14 h14=>?_
   refine hK13 _ _ ?_
   refine wp_ret ?_;with_reducible repeat first | refine of_then_ret ?_ | refine of_block_ret ?_
   have R:x.form bl true=1:=by simp [MTo.form,hc11]
   exact ret_tmp (t:=6) h14 rfl rfl ⟨by rw [R],hW3.bel⟩
  rw [hb] at h10
  have hc15:¬ (x.block < 0):=of_decide_eq_false hb
  clear hb
  refine St.go h10 ?_;clear h10 a10
  refine sfTo0 ⟨_,hg3,rfl,rfl⟩ rfl rfl ?_
  refine sbInt 0 hW3 ⟨_,hg3,rfl,rfl⟩ rfl rfl rfl rfl ?_
  refine sfFunc3 ⟨_,hg3,rfl,rfl⟩ rfl rfl ?_
  refine sbBlocks 1 hW3 ⟨_,hg3,rfl,rfl⟩ rfl rfl rfl rfl ?_
  refine slBlocks ⟨_,hg3,rfl,rfl⟩ rfl rfl ?_
  refine sge ⟨_,hg3,rfl,rfl⟩ rfl rfl rfl ?_
  refine spf trivial rfl rfl rfl ?_
  refine St.nil fun a16 h16=>?_
  refine hK9 _ _ ?_
  refine fr_cond (t:=32) h16 rfl (fun hb=>?_) (fun hb=>?_)
  ·have hc17:(bl:Int)≤x.block:=of_decide_eq_true hb
   clear hb
   refine wp_seq_k fun K18 hK18=>?_
   refine rg h16 fun ops=>?_;clear h16 a16
   refine sa trivial rfl rfl ?_
   refine St.nil fun a19 h19=>?_
   refine hK18 _ _ ?_
   refine wp_ret ?_;with_reducible repeat first | refine of_then_ret ?_ | refine of_block_ret ?_
   have R:x.form bl true=1:=by simp [MTo.form,hc15,hc17]
   exact ret_tmp (t:=6) h19 rfl rfl ⟨by rw [R],hW3.bel⟩
  have hc20:¬ ((bl:Int)≤x.block):=of_decide_eq_false hb
  clear hb
  refine wp_skip ?_
  refine hK8 _ _ ?_
  refine wp_seq_k fun K21 hK21=>?_
  refine wp_seq_k fun K22 hK22=>?_
  refine fr_region ?_
  intro ops hops
  have hg4:(ops[4]?).bind (fun o:Oper=>o.dst)=some 37:=hops 4
  clear hops
  refine St.go h16 ?_;clear h16 a16
  refine sfTo1 trivial rfl rfl ?_
  refine sbInts 0 hW3 trivial rfl rfl rfl rfl ?_
  refine slInts trivial rfl rfl ?_
  refine sgt trivial rfl rfl rfl ?_
  refine sm trivial rfl rfl ?_
  intro a23 h23
  rcases Bool.eq_false_or_eq_true (decide (16 < (x.regs.length:Int))) with hb | hb
  ·rw [hb] at h23
   have hc24:16 < x.regs.length:=by have:=of_decide_eq_true hb;omega
   clear hb
   refine St.go h23 ?_;clear h23 a23
   refine so hg4 rfl rfl rfl rfl ?_
   refine so hg4 rfl rfl rfl rfl ?_
   refine so hg4 rfl rfl rfl rfl ?_
   refine so hg4 rfl rfl rfl rfl ?_
   refine sp trivial rfl rfl rfl ?_
   refine St.nil fun a25 h25=>?_
   refine hK22 _ _ ?_
   refine fr_true (t:=42) h25 rfl ?_
   refine wp_seq_k fun K26 hK26=>?_
   refine rg h25 fun ops=>?_;clear h25 a25
   refine sa trivial rfl rfl ?_
   refine St.nil fun a27 h27=>?_
   refine hK26 _ _ ?_
   refine wp_ret ?_;with_reducible repeat first | refine of_then_ret ?_ | refine of_block_ret ?_
   have R:x.form bl true=2:=by simp [MTo.form,hc15,hc20,hc24]
   exact ret_tmp (t:=6) h27 rfl rfl ⟨by rw [R],hW3.bel⟩
  rw [hb] at h23
  have hc28:¬ (16 < x.regs.length):=by have:=of_decide_eq_false hb;omega
  clear hb
  refine St.go h23 ?_;clear h23 a23
  refine sfTo2 ⟨_,hg4,rfl,rfl⟩ rfl rfl ?_
  refine sbInts 0 hW3 ⟨_,hg4,rfl,rfl⟩ rfl rfl rfl rfl ?_
  refine slInts ⟨_,hg4,rfl,rfl⟩ rfl rfl ?_
  refine sgt ⟨_,hg4,rfl,rfl⟩ rfl rfl rfl ?_
  refine spf trivial rfl rfl rfl ?_
  refine St.nil fun a29 h29=>?_
  refine hK22 _ _ ?_
  refine fr_cond (t:=42) h29 rfl (fun hb=>?_) (fun hb=>?_)
  ·have hc30:8 < x.args.length:=by have:=of_decide_eq_true hb;omega
   clear hb
   refine wp_seq_k fun K31 hK31=>?_
   refine rg h29 fun ops=>?_;clear h29 a29
   refine sa trivial rfl rfl ?_
   refine St.nil fun a32 h32=>?_
   refine hK31 _ _ ?_
   refine wp_ret ?_;with_reducible repeat first | refine of_then_ret ?_ | refine of_block_ret ?_
   have R:x.form bl true=2:=by simp [MTo.form,hc15,hc20,hc28,hc30]
   exact ret_tmp (t:=6) h32 rfl rfl ⟨by rw [R],hW3.bel⟩
  have hc33:¬ (8 < x.args.length):=by have:=of_decide_eq_false hb;omega
  clear hb
  refine wp_skip ?_
  refine hK21 _ _ ?_
  refine wp_seq_k fun K34 hK34=>?_
  refine rg h29 fun ops=>?_;clear h29 a29
  refine sa trivial rfl rfl ?_
  refine St.nil fun a35 h35=>?_
  refine hK34 _ _ ?_
  refine wp_ret ?_;with_reducible repeat first | refine of_then_ret ?_ | refine of_block_ret ?_
  have R:x.form bl true=0:=by simp [MTo.form,hc15,hc20,hc28,hc33]
  exact ret_tmp (t:=6) h35 rfl rfl ⟨by rw [R],hW3.bel⟩
theorem toForm_any {x : MTo} {pR pA : Option Addr} {cR cA : Nat} {fr : Int} {fp fq fb : Option Addr} {fl fc fm fd bl fe : Nat} (has : Bool) {w : World} (hr : x.regs.length < 2305843009213693952) (ha : x.args.length < 2305843009213693952) (hbl : bl < 2305843009213693952) :
    Rd Tryz.prog 82 #[.agg #[.int .i64 fr,.slice fp fl fc,.slice fq fm fd,.slice fb bl fe],.agg #[.int .i64 x.block,.slice pR x.regs.length cR,.slice pA x.args.length cA],.bool has] w (.int .i64 (x.form bl has)):=by
  cases has
  · exact toFormF hr ha hbl
  · exact toFormT hr ha hbl
theorem toCodeF {x : MTo} {pR pA : Option Addr} {cR cA : Nat} {fr : Int} {fp fq fb : Option Addr} {fl fc fm fd bl fe : Nat} {w : World} (hr : x.regs.length < 2305843009213693952) (ha : x.args.length < 2305843009213693952) (hbl : bl < 2305843009213693952) :
    Rd Tryz.prog 123 #[.agg #[.int .i64 fr,.slice fp fl fc,.slice fq fm fd,.slice fb bl fe],.agg #[.int .i64 x.block,.slice pR x.regs.length cR,.slice pA x.args.length cA],.bool false] w (.int .i64 (x.form bl false)):=by
  refine fr_enter (n:=40) Tryz.func123 rfl rfl rfl ?_
  intro a hF
  have hW:=Wd.start w
  replace hF:Fr 40 a [(0,.agg #[.int .i64 fr,.slice fp fl fc,.slice fq fm fd,.slice fb bl fe]),(1,.agg #[.int .i64 x.block,.slice pR x.regs.length cR,.slice pA x.args.length cA]),(2,.bool false)]:=hF
  refine wp_seq_k fun K1 hK1=>?_
  refine rg hF fun ops=>?_;clear hF a
  refine sB hW trivial rfl rfl ?_
  clear hW;intro w2 B2 hW2 hN;clear hN
  refine sB hW2 trivial rfl rfl ?_
  clear hW2;intro w3 B3 hW3 hN;clear hN
  refine sa trivial rfl rfl ?_
  refine St.nil fun a4 h4=>?_
  refine hK1 _ _ ?_
  refine wp_seq_k fun K5 hK5=>?_
  refine wp_seq_k fun K6 hK6=>?_
  refine rg h4 fun ops=>?_;clear h4 a4
  refine sm trivial rfl rfl ?_
  refine sn trivial rfl rfl ?_
  refine St.nil fun a7 h7=>?_
  refine hK6 _ _ ?_
  refine fr_true (t:=9) h7 rfl ?_
  refine wp_seq_k fun K8 hK8=>?_
  refine wp_seq_k fun K9 hK9=>?_
  refine fr_region ?_
  intro ops hops
  have hg3:(ops[3]?).bind (fun o:Oper=>o.dst)=some 13:=hops 3
  have hg9:(ops[9]?).bind (fun o:Oper=>o.dst)=some 19:=hops 9
  clear hops
  refine St.go h7 ?_;clear h7 a7
  refine sfTo0 trivial rfl rfl ?_
  refine sbInt 0 hW3 trivial rfl rfl rfl rfl ?_
  refine sne trivial rfl rfl rfl ?_
  refine sm trivial rfl rfl ?_
  intro a10 h10
  rcases Bool.eq_false_or_eq_true (x.block != 0) with hb | hb
  ·rw [hb] at h10
   have h9:¬ x.block=0:=bne_iff_ne.1 hb
   have hc11:¬ x.block=0:=h9
   clear h9
   clear hb
   refine St.go h10 ?_;clear h10 a10
   refine so hg3 rfl rfl rfl rfl ?_
   refine so hg3 rfl rfl rfl rfl ?_
   refine so hg3 rfl rfl rfl rfl ?_
   refine so hg3 rfl rfl rfl rfl ?_
   refine sp trivial rfl rfl rfl ?_
   refine sm trivial rfl rfl ?_
   refine so hg9 rfl rfl rfl rfl ?_
   refine so hg9 rfl rfl rfl rfl ?_
   refine so hg9 rfl rfl rfl rfl ?_
   refine so hg9 rfl rfl rfl rfl ?_
   refine sp trivial rfl rfl rfl ?_
   refine St.nil fun a12 h12=>?_
   refine hK9 _ _ ?_
   refine fr_true (t:=24) h12 rfl ?_
   refine wp_seq_k fun K13 hK13=>?_
   refine rg h12 fun ops=>?_;clear h12 a12
   refine sa trivial rfl rfl ?_
   refine St.nil fun a14 h14=>?_
   refine hK13 _ _ ?_
   refine wp_ret ?_;with_reducible repeat first | refine of_then_ret ?_ | refine of_block_ret ?_
   have R:x.form bl false=4:=by have:=hc11;rw [toForm_no];split <;> omega
   exact ret_tmp (t:=6) h14 rfl rfl ⟨by rw [R],hW3.bel⟩
  rw [hb] at h10
  have h9:x.block=0:=bne_eq_false_iff_eq.1 hb
  have hc15:Hid (x.block=0):=h9
  clear h9
  clear hb
  refine St.go h10 ?_;clear h10 a10
  refine sfTo1 ⟨_,hg3,rfl,rfl⟩ rfl rfl ?_
  refine sbInts 0 hW3 ⟨_,hg3,rfl,rfl⟩ rfl rfl rfl rfl ?_
  refine slInts ⟨_,hg3,rfl,rfl⟩ rfl rfl ?_
  refine sgt ⟨_,hg3,rfl,rfl⟩ rfl rfl rfl ?_
  refine spf trivial rfl rfl rfl ?_
  refine sm trivial rfl rfl ?_
  intro a16 h16
  rcases Bool.eq_false_or_eq_true (decide (0 < (x.regs.length:Int))) with hb | hb
  ·rw [hb] at h16
   have hc17:0 < x.regs.length:=by have:=of_decide_eq_true hb;omega
   clear hb
   refine St.go h16 ?_;clear h16 a16
   refine so hg9 rfl rfl rfl rfl ?_
   refine so hg9 rfl rfl rfl rfl ?_
   refine so hg9 rfl rfl rfl rfl ?_
   refine so hg9 rfl rfl rfl rfl ?_
   refine sp trivial rfl rfl rfl ?_
   refine St.nil fun a18 h18=>?_
   refine hK9 _ _ ?_
   refine fr_true (t:=24) h18 rfl ?_
   refine wp_seq_k fun K19 hK19=>?_
   refine rg h18 fun ops=>?_;clear h18 a18
   refine sa trivial rfl rfl ?_
   refine St.nil fun a20 h20=>?_
   refine hK19 _ _ ?_
   refine wp_ret ?_;with_reducible repeat first | refine of_then_ret ?_ | refine of_block_ret ?_
   have R:x.form bl false=4:=by have:=hc15.out;have:=hc17;rw [toForm_no];split <;> omega
   exact ret_tmp (t:=6) h20 rfl rfl ⟨by rw [R],hW3.bel⟩
  rw [hb] at h16
  have hc21:¬ (0 < x.regs.length):=by have:=of_decide_eq_false hb;omega
  clear hb
  refine St.go h16 ?_;clear h16 a16
  refine sfTo2 ⟨_,hg9,rfl,rfl⟩ rfl rfl ?_
  refine sbInts 0 hW3 ⟨_,hg9,rfl,rfl⟩ rfl rfl rfl rfl ?_
  refine slInts ⟨_,hg9,rfl,rfl⟩ rfl rfl ?_
  refine sgt ⟨_,hg9,rfl,rfl⟩ rfl rfl rfl ?_
  refine spf trivial rfl rfl rfl ?_
  refine St.nil fun a22 h22=>?_
  refine hK9 _ _ ?_
  refine fr_cond (t:=24) h22 rfl (fun hb=>?_) (fun hb=>?_)
  ·have hc23:0 < x.args.length:=by have:=of_decide_eq_true hb;omega
   clear hb
   refine wp_seq_k fun K24 hK24=>?_
   refine rg h22 fun ops=>?_;clear h22 a22
   refine sa trivial rfl rfl ?_
   refine St.nil fun a25 h25=>?_
   refine hK24 _ _ ?_
   refine wp_ret ?_;with_reducible repeat first | refine of_then_ret ?_ | refine of_block_ret ?_
   have R:x.form bl false=4:=by have:=hc15.out;have:=hc21;have:=hc23;rw [toForm_no];split <;> omega
   exact ret_tmp (t:=6) h25 rfl rfl ⟨by rw [R],hW3.bel⟩
  have hc26:¬ (0 < x.args.length):=by have:=of_decide_eq_false hb;omega
  clear hb
  refine wp_skip ?_
  refine hK8 _ _ ?_
  refine wp_seq_k fun K27 hK27=>?_
  refine rg h22 fun ops=>?_;clear h22 a22
  refine sa trivial rfl rfl ?_
  refine St.nil fun a28 h28=>?_
  refine hK27 _ _ ?_
  refine wp_ret ?_;with_reducible repeat first | refine of_then_ret ?_ | refine of_block_ret ?_
  have R:x.form bl false=0:=by have:=hc15.out;have:=hc21;have:=hc26;rw [toForm_no];split <;> omega
  exact ret_tmp (t:=6) h28 rfl rfl ⟨by rw [R],hW3.bel⟩
theorem toCodeT {x : MTo} {pR pA : Option Addr} {cR cA : Nat} {fr : Int} {fp fq fb : Option Addr} {fl fc fm fd bl fe : Nat} {w : World} (hr : x.regs.length < 2305843009213693952) (ha : x.args.length < 2305843009213693952) (hbl : bl < 2305843009213693952) :
    Rd Tryz.prog 123 #[.agg #[.int .i64 fr,.slice fp fl fc,.slice fq fm fd,.slice fb bl fe],.agg #[.int .i64 x.block,.slice pR x.regs.length cR,.slice pA x.args.length cA],.bool true] w (.int .i64 (x.form bl true)):=by
  refine fr_enter (n:=40) Tryz.func123 rfl rfl rfl ?_
  intro a hF
  have hW:=Wd.start w
  replace hF:Fr 40 a [(0,.agg #[.int .i64 fr,.slice fp fl fc,.slice fq fm fd,.slice fb bl fe]),(1,.agg #[.int .i64 x.block,.slice pR x.regs.length cR,.slice pA x.args.length cA]),(2,.bool true)]:=hF
  refine wp_seq_k fun K1 hK1=>?_
  refine rg hF fun ops=>?_;clear hF a
  refine sB hW trivial rfl rfl ?_
  clear hW;intro w2 B2 hW2 hN;clear hN
  refine sB hW2 trivial rfl rfl ?_
  clear hW2;intro w3 B3 hW3 hN;clear hN
  refine sa trivial rfl rfl ?_
  refine St.nil fun a4 h4=>?_
  refine hK1 _ _ ?_
  refine wp_seq_k fun K5 hK5=>?_
  refine wp_seq_k fun K6 hK6=>?_
  refine rg h4 fun ops=>?_;clear h4 a4
  refine sm trivial rfl rfl ?_
  refine sn trivial rfl rfl ?_
  refine St.nil fun a7 h7=>?_
  refine hK6 _ _ ?_
  refine fr_false (t:=9) h7 rfl ?_
  refine wp_skip ?_
  refine hK5 _ _ ?_
  refine wp_seq_k fun K8 hK8=>?_
  refine wp_seq_k fun K9 hK9=>?_
  refine rg h7 fun ops=>?_;clear h7 a7
  refine sfTo0 trivial rfl rfl ?_
  refine sbInt 0 hW3 trivial rfl rfl rfl rfl ?_
  refine sfFunc3 trivial rfl rfl ?_
  refine sbBlocks 1 hW3 trivial rfl rfl rfl rfl ?_
  refine slBlocks trivial rfl rfl ?_
  intro a10 h10
  refine fr_pure (t:=30) (v:=.int .i64 ((bl:Int) - 1)) (w':=w3) h10 rfl rfl rfl (fun K hK=>?_) ?_
  ·have k0:a10.tmps.getD 29 undef=.int .i64 (bl:Int):=h10.sl 29 _ rfl
   have hwr:IntKind.i64.wrap ((bl:Int) - 1)=(bl:Int) - 1:=wrap_pred _ (by omega)
   go_simp
   exact hK
  clear h10;intro a11 hF11
  refine St.go hF11 ?_;clear hF11 a11
  refine sc_3 cf146 hW3 (rangeCode_any) trivial rfl rfl rfl rfl ?_
  clear hW3;intro w12 hW12
  refine sa trivial rfl rfl ?_
  refine St.nil fun a13 h13=>?_
  refine hK9 _ _ ?_
  refine wp_seq_k fun K14 hK14=>?_
  refine rg h13 fun ops=>?_;clear h13 a13
  refine sm trivial rfl rfl ?_
  refine sne trivial rfl rfl rfl ?_
  refine St.nil fun a15 h15=>?_
  refine hK14 _ _ ?_
  refine fr_cond (t:=33) h15 rfl (fun hb=>?_) (fun hb=>?_)
  ·have h9:¬ (rangeC x.block 0 ((bl:Int) - 1))=0:=bne_iff_ne.1 hb
   have hc16:¬ (rangeC x.block 0 ((bl:Int) - 1))=0:=h9
   clear h9
   clear hb
   refine wp_seq_k fun K17 hK17=>?_
   refine rg h15 fun ops=>?_;clear h15 a15
   refine sm trivial rfl rfl ?_
   refine sa trivial rfl rfl ?_
   refine St.nil fun a18 h18=>?_
   refine hK17 _ _ ?_
   refine wp_ret ?_;with_reducible repeat first | refine of_then_ret ?_ | refine of_block_ret ?_
   have R:x.form bl true=rangeC x.block 0 ((bl:Int) - 1):=by simp [toForm_eq,hc16]
   exact ret_tmp (t:=6) h18 rfl rfl ⟨by rw [R],hW12.bel⟩
  have h9:(rangeC x.block 0 ((bl:Int) - 1))=0:=bne_eq_false_iff_eq.1 hb
  have hc19:Hid ((rangeC x.block 0 ((bl:Int) - 1))=0):=h9
  clear h9
  clear hb
  refine wp_skip ?_
  refine hK8 _ _ ?_
  refine wp_seq_k fun K20 hK20=>?_
  refine rg h15 fun ops=>?_;clear h15 a15
  refine sfTo1 trivial rfl rfl ?_
  refine sbInts 0 hW12 trivial rfl rfl rfl rfl ?_
  refine sfTo2 trivial rfl rfl ?_
  refine sbInts 0 hW12 trivial rfl rfl rfl rfl ?_
  refine sc_3 cf148 hW12 (handedCode_any) trivial rfl rfl rfl rfl ?_
  clear hW12;intro w21 hW21
  refine sa trivial rfl rfl ?_
  refine St.nil fun a22 h22=>?_
  refine hK20 _ _ ?_
  refine wp_ret ?_;with_reducible repeat first | refine of_then_ret ?_ | refine of_block_ret ?_
  have R:x.form bl true=handedC x.regs.length 16 x.args.length:=by simp [toForm_eq,hc19.out]
  exact ret_tmp (t:=6) h22 rfl rfl ⟨by rw [R],hW21.bel⟩
theorem toCode_any {x : MTo} {pR pA : Option Addr} {cR cA : Nat} {fr : Int} {fp fq fb : Option Addr} {fl fc fm fd bl fe : Nat} (has : Bool) {w : World} (hr : x.regs.length < 2305843009213693952) (ha : x.args.length < 2305843009213693952) (hbl : bl < 2305843009213693952) :
    Rd Tryz.prog 123 #[.agg #[.int .i64 fr,.slice fp fl fc,.slice fq fm fd,.slice fb bl fe],.agg #[.int .i64 x.block,.slice pR x.regs.length cR,.slice pA x.args.length cA],.bool has] w (.int .i64 (x.form bl has)):=by
  cases has
  · exact toCodeF hr ha hbl
  · exact toCodeT hr ha hbl
theorem wrap_small (x : Int) (h : -4611686018427387904 ≤ x ∧ x < 4611686018427387904) : IntKind.i64.wrap x = x := by
  by_cases hx:0≤x
  · have e1:x % 2 ^ 64=x:=by omega
    simp only [IntKind.wrap,IntKind.signed,IntKind.bits,e1,Bool.true_and]
    rw [if_neg (by simp only [decide_eq_true_eq];omega)]
  · have e1:x % 2 ^ 64=x+2 ^ 64:=by omega
    simp only [IntKind.wrap,IntKind.signed,IntKind.bits,e1,Bool.true_and]
    rw [if_pos (by simp only [decide_eq_true_eq];omega)]
    omega
theorem cFuncAt_any {f : Nat} {w : World} (h : f < 1000000) :
    Rd Tryz.prog 73 #[.int .i64 (f:Int)] w (.int .i64 (10000 * (f:Int)+9999)):=by
  refine fr_enter (n:=6) Tryz.func73 rfl rfl rfl ?_
  intro a hF
  have hW:=Wd.start w
  replace hF:Fr 6 a [(0,.int .i64 (f:Int))]:=hF
  refine wp_seq_k fun K1 hK1=>?_
  refine rg hF fun ops=>?_;clear hF a
  refine sa trivial rfl rfl ?_
  refine St.nil fun a2 h2=>?_
  refine hK1 _ _ ?_
  refine wp_seq_k fun K3 hK3=>?_
  refine rg h2 fun ops=>?_;clear h2 a2
  refine sm trivial rfl rfl ?_
  intro a4 h4
  refine fr_pure (t:=4) (v:=.int .i64 ((f:Int) * 10000)) (w':=w) h4 rfl rfl rfl (fun K hK=>?_) ?_
  ·have k0:a4.tmps.getD 3 undef=.int .i64 (f:Int):=h4.sl 3 _ rfl
   have hwr:IntKind.i64.wrap ((f:Int) * 10000)=(f:Int) * 10000:=wrap_small _ (by omega)
   go_simp
   exact hK
  clear h4;intro a5 hF5
  refine fr_pure (t:=5) (v:=.int .i64 (((f:Int) * 10000)+9999)) (w':=w) hF5 rfl rfl rfl (fun K hK=>?_) ?_
  ·have k0:a5.tmps.getD 4 undef=.int .i64 ((f:Int) * 10000):=hF5.sl 4 _ rfl
   have hwr:IntKind.i64.wrap (((f:Int) * 10000)+9999)=((f:Int) * 10000)+9999:=wrap_small _ (by omega)
   go_simp
   exact hK
  clear hF5;intro a6 hF6
  refine St.go hF6 ?_;clear hF6 a6
  refine sa trivial rfl rfl ?_
  refine St.nil fun a7 h7=>?_
  refine hK3 _ _ ?_
  refine wp_ret ?_;with_reducible repeat first | refine of_then_ret ?_ | refine of_block_ret ?_
  have R:10000 * (f:Int)+9999=(((f:Int) * 10000)+9999):=by omega
  exact ret_tmp (t:=2) h7 rfl rfl ⟨by rw [R],hW.bel⟩
theorem atFunc_any {f : Nat} {w : World} (h : f < 1000000) :
    Rd Tryz.prog 29 #[.int .i64 (f:Int)] w (.int .i64 (10000 * (f:Int)+9999)):=by
  refine fr_enter (n:=6) Tryz.func29 rfl rfl rfl ?_
  intro a hF
  have hW:=Wd.start w
  replace hF:Fr 6 a [(0,.int .i64 (f:Int))]:=hF
  refine wp_seq_k fun K1 hK1=>?_
  refine rg hF fun ops=>?_;clear hF a
  refine sa trivial rfl rfl ?_
  refine St.nil fun a2 h2=>?_
  refine hK1 _ _ ?_
  refine wp_seq_k fun K3 hK3=>?_
  refine rg h2 fun ops=>?_;clear h2 a2
  refine sm trivial rfl rfl ?_
  intro a4 h4
  refine fr_pure (t:=4) (v:=.int .i64 (10000 * (f:Int))) (w':=w) h4 rfl rfl rfl (fun K hK=>?_) ?_
  ·have k0:a4.tmps.getD 3 undef=.int .i64 (f:Int):=h4.sl 3 _ rfl
   have hwr:IntKind.i64.wrap (10000 * (f:Int))=10000 * (f:Int):=wrap_small _ (by omega)
   go_simp
   exact hK
  clear h4;intro a5 hF5
  refine fr_pure (t:=5) (v:=.int .i64 ((10000 * (f:Int))+9999)) (w':=w) hF5 rfl rfl rfl (fun K hK=>?_) ?_
  ·have k0:a5.tmps.getD 4 undef=.int .i64 (10000 * (f:Int)):=hF5.sl 4 _ rfl
   have hwr:IntKind.i64.wrap ((10000 * (f:Int))+9999)=(10000 * (f:Int))+9999:=wrap_small _ (by omega)
   go_simp
   exact hK
  clear hF5;intro a6 hF6
  refine St.go hF6 ?_;clear hF6 a6
  refine sa trivial rfl rfl ?_
  refine St.nil fun a7 h7=>?_
  refine hK3 _ _ ?_
  refine wp_ret ?_;with_reducible repeat first | refine of_then_ret ?_ | refine of_block_ret ?_
  have R:10000 * (f:Int)+9999=((10000 * (f:Int))+9999):=by omega
  exact ret_tmp (t:=2) h7 rfl rfl ⟨by rw [R],hW.bel⟩
theorem cBlockAt_any {f b : Nat} {w : World} (h : f < 1000000 ∧ b < 1000000) :
    Rd Tryz.prog 94 #[.int .i64 (f:Int),.int .i64 (b:Int)] w (.int .i64 (10000 * (f:Int)+100 * (b:Int)+90)):=by
  refine fr_enter (n:=11) Tryz.func94 rfl rfl rfl ?_
  intro a hF
  have hW:=Wd.start w
  replace hF:Fr 11 a [(0,.int .i64 (f:Int)),(1,.int .i64 (b:Int))]:=hF
  refine wp_seq_k fun K1 hK1=>?_
  refine rg hF fun ops=>?_;clear hF a
  refine sa trivial rfl rfl ?_
  refine St.nil fun a2 h2=>?_
  refine hK1 _ _ ?_
  refine wp_seq_k fun K3 hK3=>?_
  refine rg h2 fun ops=>?_;clear h2 a2
  refine sm trivial rfl rfl ?_
  intro a4 h4
  refine fr_pure (t:=6) (v:=.int .i64 ((f:Int) * 10000)) (w':=w) h4 rfl rfl rfl (fun K hK=>?_) ?_
  ·have k0:a4.tmps.getD 5 undef=.int .i64 (f:Int):=h4.sl 5 _ rfl
   have hwr:IntKind.i64.wrap ((f:Int) * 10000)=(f:Int) * 10000:=wrap_small _ (by omega)
   go_simp
   exact hK
  clear h4;intro a5 hF5
  refine St.go hF5 ?_;clear hF5 a5
  refine sm trivial rfl rfl ?_
  intro a6 h6
  refine fr_pure (t:=8) (v:=.int .i64 ((b:Int) * 100)) (w':=w) h6 rfl rfl rfl (fun K hK=>?_) ?_
  ·have k0:a6.tmps.getD 7 undef=.int .i64 (b:Int):=h6.sl 7 _ rfl
   have hwr:IntKind.i64.wrap ((b:Int) * 100)=(b:Int) * 100:=wrap_small _ (by omega)
   go_simp
   exact hK
  clear h6;intro a7 hF7
  refine fr_pure (t:=9) (v:=.int .i64 (((f:Int) * 10000)+((b:Int) * 100))) (w':=w) hF7 rfl rfl rfl (fun K hK=>?_) ?_
  ·have k0:a7.tmps.getD 6 undef=.int .i64 ((f:Int) * 10000):=hF7.sl 6 _ rfl
   have k1:a7.tmps.getD 8 undef=.int .i64 ((b:Int) * 100):=hF7.sl 8 _ rfl
   have hwr:IntKind.i64.wrap (((f:Int) * 10000)+((b:Int) * 100))=((f:Int) * 10000)+((b:Int) * 100):=wrap_small _ (by omega)
   go_simp
   exact hK
  clear hF7;intro a8 hF8
  refine fr_pure (t:=10) (v:=.int .i64 ((((f:Int) * 10000)+((b:Int) * 100))+90)) (w':=w) hF8 rfl rfl rfl (fun K hK=>?_) ?_
  ·have k0:a8.tmps.getD 9 undef=.int .i64 (((f:Int) * 10000)+((b:Int) * 100)):=hF8.sl 9 _ rfl
   have hwr:IntKind.i64.wrap ((((f:Int) * 10000)+((b:Int) * 100))+90)=(((f:Int) * 10000)+((b:Int) * 100))+90:=wrap_small _ (by omega)
   go_simp
   exact hK
  clear hF8;intro a9 hF9
  refine St.go hF9 ?_;clear hF9 a9
  refine sa trivial rfl rfl ?_
  refine St.nil fun a10 h10=>?_
  refine hK3 _ _ ?_
  refine wp_ret ?_;with_reducible repeat first | refine of_then_ret ?_ | refine of_block_ret ?_
  have R:10000 * (f:Int)+100 * (b:Int)+90=((((f:Int) * 10000)+((b:Int) * 100))+90):=by omega
  exact ret_tmp (t:=4) h10 rfl rfl ⟨by rw [R],hW.bel⟩
theorem atBlock_any {f b : Nat} {w : World} (h : f < 1000000 ∧ b < 1000000) :
    Rd Tryz.prog 55 #[.int .i64 (f:Int),.int .i64 (b:Int)] w (.int .i64 (10000 * (f:Int)+100 * (b:Int)+90)):=by
  refine fr_enter (n:=11) Tryz.func55 rfl rfl rfl ?_
  intro a hF
  have hW:=Wd.start w
  replace hF:Fr 11 a [(0,.int .i64 (f:Int)),(1,.int .i64 (b:Int))]:=hF
  refine wp_seq_k fun K1 hK1=>?_
  refine rg hF fun ops=>?_;clear hF a
  refine sa trivial rfl rfl ?_
  refine St.nil fun a2 h2=>?_
  refine hK1 _ _ ?_
  refine wp_seq_k fun K3 hK3=>?_
  refine rg h2 fun ops=>?_;clear h2 a2
  refine sm trivial rfl rfl ?_
  intro a4 h4
  refine fr_pure (t:=6) (v:=.int .i64 (10000 * (f:Int))) (w':=w) h4 rfl rfl rfl (fun K hK=>?_) ?_
  ·have k0:a4.tmps.getD 5 undef=.int .i64 (f:Int):=h4.sl 5 _ rfl
   have hwr:IntKind.i64.wrap (10000 * (f:Int))=10000 * (f:Int):=wrap_small _ (by omega)
   go_simp
   exact hK
  clear h4;intro a5 hF5
  refine St.go hF5 ?_;clear hF5 a5
  refine sm trivial rfl rfl ?_
  intro a6 h6
  refine fr_pure (t:=8) (v:=.int .i64 (100 * (b:Int))) (w':=w) h6 rfl rfl rfl (fun K hK=>?_) ?_
  ·have k0:a6.tmps.getD 7 undef=.int .i64 (b:Int):=h6.sl 7 _ rfl
   have hwr:IntKind.i64.wrap (100 * (b:Int))=100 * (b:Int):=wrap_small _ (by omega)
   go_simp
   exact hK
  clear h6;intro a7 hF7
  refine fr_pure (t:=9) (v:=.int .i64 ((10000 * (f:Int))+(100 * (b:Int)))) (w':=w) hF7 rfl rfl rfl (fun K hK=>?_) ?_
  ·have k0:a7.tmps.getD 6 undef=.int .i64 (10000 * (f:Int)):=hF7.sl 6 _ rfl
   have k1:a7.tmps.getD 8 undef=.int .i64 (100 * (b:Int)):=hF7.sl 8 _ rfl
   have hwr:IntKind.i64.wrap ((10000 * (f:Int))+(100 * (b:Int)))=(10000 * (f:Int))+(100 * (b:Int)):=wrap_small _ (by omega)
   go_simp
   exact hK
  clear hF7;intro a8 hF8
  refine fr_pure (t:=10) (v:=.int .i64 (((10000 * (f:Int))+(100 * (b:Int)))+90)) (w':=w) hF8 rfl rfl rfl (fun K hK=>?_) ?_
  ·have k0:a8.tmps.getD 9 undef=.int .i64 ((10000 * (f:Int))+(100 * (b:Int))):=hF8.sl 9 _ rfl
   have hwr:IntKind.i64.wrap (((10000 * (f:Int))+(100 * (b:Int)))+90)=((10000 * (f:Int))+(100 * (b:Int)))+90:=wrap_small _ (by omega)
   go_simp
   exact hK
  clear hF8;intro a9 hF9
  refine St.go hF9 ?_;clear hF9 a9
  refine sa trivial rfl rfl ?_
  refine St.nil fun a10 h10=>?_
  refine hK3 _ _ ?_
  refine wp_ret ?_;with_reducible repeat first | refine of_then_ret ?_ | refine of_block_ret ?_
  have R:10000 * (f:Int)+100 * (b:Int)+90=(((10000 * (f:Int))+(100 * (b:Int)))+90):=by omega
  exact ret_tmp (t:=4) h10 rfl rfl ⟨by rw [R],hW.bel⟩
theorem cEndAt_any {f b : Nat} {w : World} (h : f < 1000000 ∧ b < 1000000) :
    Rd Tryz.prog 100 #[.int .i64 (f:Int),.int .i64 (b:Int)] w (.int .i64 (10000 * (f:Int)+100 * (b:Int)+91)):=by
  refine fr_enter (n:=11) Tryz.func100 rfl rfl rfl ?_
  intro a hF
  have hW:=Wd.start w
  replace hF:Fr 11 a [(0,.int .i64 (f:Int)),(1,.int .i64 (b:Int))]:=hF
  refine wp_seq_k fun K1 hK1=>?_
  refine rg hF fun ops=>?_;clear hF a
  refine sa trivial rfl rfl ?_
  refine St.nil fun a2 h2=>?_
  refine hK1 _ _ ?_
  refine wp_seq_k fun K3 hK3=>?_
  refine rg h2 fun ops=>?_;clear h2 a2
  refine sm trivial rfl rfl ?_
  intro a4 h4
  refine fr_pure (t:=6) (v:=.int .i64 ((f:Int) * 10000)) (w':=w) h4 rfl rfl rfl (fun K hK=>?_) ?_
  ·have k0:a4.tmps.getD 5 undef=.int .i64 (f:Int):=h4.sl 5 _ rfl
   have hwr:IntKind.i64.wrap ((f:Int) * 10000)=(f:Int) * 10000:=wrap_small _ (by omega)
   go_simp
   exact hK
  clear h4;intro a5 hF5
  refine St.go hF5 ?_;clear hF5 a5
  refine sm trivial rfl rfl ?_
  intro a6 h6
  refine fr_pure (t:=8) (v:=.int .i64 ((b:Int) * 100)) (w':=w) h6 rfl rfl rfl (fun K hK=>?_) ?_
  ·have k0:a6.tmps.getD 7 undef=.int .i64 (b:Int):=h6.sl 7 _ rfl
   have hwr:IntKind.i64.wrap ((b:Int) * 100)=(b:Int) * 100:=wrap_small _ (by omega)
   go_simp
   exact hK
  clear h6;intro a7 hF7
  refine fr_pure (t:=9) (v:=.int .i64 (((f:Int) * 10000)+((b:Int) * 100))) (w':=w) hF7 rfl rfl rfl (fun K hK=>?_) ?_
  ·have k0:a7.tmps.getD 6 undef=.int .i64 ((f:Int) * 10000):=hF7.sl 6 _ rfl
   have k1:a7.tmps.getD 8 undef=.int .i64 ((b:Int) * 100):=hF7.sl 8 _ rfl
   have hwr:IntKind.i64.wrap (((f:Int) * 10000)+((b:Int) * 100))=((f:Int) * 10000)+((b:Int) * 100):=wrap_small _ (by omega)
   go_simp
   exact hK
  clear hF7;intro a8 hF8
  refine fr_pure (t:=10) (v:=.int .i64 ((((f:Int) * 10000)+((b:Int) * 100))+91)) (w':=w) hF8 rfl rfl rfl (fun K hK=>?_) ?_
  ·have k0:a8.tmps.getD 9 undef=.int .i64 (((f:Int) * 10000)+((b:Int) * 100)):=hF8.sl 9 _ rfl
   have hwr:IntKind.i64.wrap ((((f:Int) * 10000)+((b:Int) * 100))+91)=(((f:Int) * 10000)+((b:Int) * 100))+91:=wrap_small _ (by omega)
   go_simp
   exact hK
  clear hF8;intro a9 hF9
  refine St.go hF9 ?_;clear hF9 a9
  refine sa trivial rfl rfl ?_
  refine St.nil fun a10 h10=>?_
  refine hK3 _ _ ?_
  refine wp_ret ?_;with_reducible repeat first | refine of_then_ret ?_ | refine of_block_ret ?_
  have R:10000 * (f:Int)+100 * (b:Int)+91=((((f:Int) * 10000)+((b:Int) * 100))+91):=by omega
  exact ret_tmp (t:=4) h10 rfl rfl ⟨by rw [R],hW.bel⟩
theorem atEnd_any {f b : Nat} {w : World} (h : f < 1000000 ∧ b < 1000000) :
    Rd Tryz.prog 59 #[.int .i64 (f:Int),.int .i64 (b:Int)] w (.int .i64 (10000 * (f:Int)+100 * (b:Int)+91)):=by
  refine fr_enter (n:=11) Tryz.func59 rfl rfl rfl ?_
  intro a hF
  have hW:=Wd.start w
  replace hF:Fr 11 a [(0,.int .i64 (f:Int)),(1,.int .i64 (b:Int))]:=hF
  refine wp_seq_k fun K1 hK1=>?_
  refine rg hF fun ops=>?_;clear hF a
  refine sa trivial rfl rfl ?_
  refine St.nil fun a2 h2=>?_
  refine hK1 _ _ ?_
  refine wp_seq_k fun K3 hK3=>?_
  refine rg h2 fun ops=>?_;clear h2 a2
  refine sm trivial rfl rfl ?_
  intro a4 h4
  refine fr_pure (t:=6) (v:=.int .i64 (10000 * (f:Int))) (w':=w) h4 rfl rfl rfl (fun K hK=>?_) ?_
  ·have k0:a4.tmps.getD 5 undef=.int .i64 (f:Int):=h4.sl 5 _ rfl
   have hwr:IntKind.i64.wrap (10000 * (f:Int))=10000 * (f:Int):=wrap_small _ (by omega)
   go_simp
   exact hK
  clear h4;intro a5 hF5
  refine St.go hF5 ?_;clear hF5 a5
  refine sm trivial rfl rfl ?_
  intro a6 h6
  refine fr_pure (t:=8) (v:=.int .i64 (100 * (b:Int))) (w':=w) h6 rfl rfl rfl (fun K hK=>?_) ?_
  ·have k0:a6.tmps.getD 7 undef=.int .i64 (b:Int):=h6.sl 7 _ rfl
   have hwr:IntKind.i64.wrap (100 * (b:Int))=100 * (b:Int):=wrap_small _ (by omega)
   go_simp
   exact hK
  clear h6;intro a7 hF7
  refine fr_pure (t:=9) (v:=.int .i64 ((10000 * (f:Int))+(100 * (b:Int)))) (w':=w) hF7 rfl rfl rfl (fun K hK=>?_) ?_
  ·have k0:a7.tmps.getD 6 undef=.int .i64 (10000 * (f:Int)):=hF7.sl 6 _ rfl
   have k1:a7.tmps.getD 8 undef=.int .i64 (100 * (b:Int)):=hF7.sl 8 _ rfl
   have hwr:IntKind.i64.wrap ((10000 * (f:Int))+(100 * (b:Int)))=(10000 * (f:Int))+(100 * (b:Int)):=wrap_small _ (by omega)
   go_simp
   exact hK
  clear hF7;intro a8 hF8
  refine fr_pure (t:=10) (v:=.int .i64 (((10000 * (f:Int))+(100 * (b:Int)))+91)) (w':=w) hF8 rfl rfl rfl (fun K hK=>?_) ?_
  ·have k0:a8.tmps.getD 9 undef=.int .i64 ((10000 * (f:Int))+(100 * (b:Int))):=hF8.sl 9 _ rfl
   have hwr:IntKind.i64.wrap (((10000 * (f:Int))+(100 * (b:Int)))+91)=((10000 * (f:Int))+(100 * (b:Int)))+91:=wrap_small _ (by omega)
   go_simp
   exact hK
  clear hF8;intro a9 hF9
  refine St.go hF9 ?_;clear hF9 a9
  refine sa trivial rfl rfl ?_
  refine St.nil fun a10 h10=>?_
  refine hK3 _ _ ?_
  refine wp_ret ?_;with_reducible repeat first | refine of_then_ret ?_ | refine of_block_ret ?_
  have R:10000 * (f:Int)+100 * (b:Int)+91=(((10000 * (f:Int))+(100 * (b:Int)))+91):=by omega
  exact ret_tmp (t:=4) h10 rfl rfl ⟨by rw [R],hW.bel⟩
theorem cInsAt_any {f b i : Nat} {w : World} (h : f < 1000000 ∧ b < 1000000 ∧ i < 1000000) :
    Rd Tryz.prog 98 #[.int .i64 (f:Int),.int .i64 (b:Int),.int .i64 (i:Int)] w (.int .i64 (10000 * (f:Int)+100 * (b:Int)+(i:Int))):=by
  refine fr_enter (n:=14) Tryz.func98 rfl rfl rfl ?_
  intro a hF
  have hW:=Wd.start w
  replace hF:Fr 14 a [(0,.int .i64 (f:Int)),(1,.int .i64 (b:Int)),(2,.int .i64 (i:Int))]:=hF
  refine wp_seq_k fun K1 hK1=>?_
  refine rg hF fun ops=>?_;clear hF a
  refine sa trivial rfl rfl ?_
  refine St.nil fun a2 h2=>?_
  refine hK1 _ _ ?_
  refine wp_seq_k fun K3 hK3=>?_
  refine rg h2 fun ops=>?_;clear h2 a2
  refine sm trivial rfl rfl ?_
  intro a4 h4
  refine fr_pure (t:=8) (v:=.int .i64 ((f:Int) * 10000)) (w':=w) h4 rfl rfl rfl (fun K hK=>?_) ?_
  ·have k0:a4.tmps.getD 7 undef=.int .i64 (f:Int):=h4.sl 7 _ rfl
   have hwr:IntKind.i64.wrap ((f:Int) * 10000)=(f:Int) * 10000:=wrap_small _ (by omega)
   go_simp
   exact hK
  clear h4;intro a5 hF5
  refine St.go hF5 ?_;clear hF5 a5
  refine sm trivial rfl rfl ?_
  intro a6 h6
  refine fr_pure (t:=10) (v:=.int .i64 ((b:Int) * 100)) (w':=w) h6 rfl rfl rfl (fun K hK=>?_) ?_
  ·have k0:a6.tmps.getD 9 undef=.int .i64 (b:Int):=h6.sl 9 _ rfl
   have hwr:IntKind.i64.wrap ((b:Int) * 100)=(b:Int) * 100:=wrap_small _ (by omega)
   go_simp
   exact hK
  clear h6;intro a7 hF7
  refine fr_pure (t:=11) (v:=.int .i64 (((f:Int) * 10000)+((b:Int) * 100))) (w':=w) hF7 rfl rfl rfl (fun K hK=>?_) ?_
  ·have k0:a7.tmps.getD 8 undef=.int .i64 ((f:Int) * 10000):=hF7.sl 8 _ rfl
   have k1:a7.tmps.getD 10 undef=.int .i64 ((b:Int) * 100):=hF7.sl 10 _ rfl
   have hwr:IntKind.i64.wrap (((f:Int) * 10000)+((b:Int) * 100))=((f:Int) * 10000)+((b:Int) * 100):=wrap_small _ (by omega)
   go_simp
   exact hK
  clear hF7;intro a8 hF8
  refine St.go hF8 ?_;clear hF8 a8
  refine sm trivial rfl rfl ?_
  intro a9 h9
  refine fr_pure (t:=13) (v:=.int .i64 ((((f:Int) * 10000)+((b:Int) * 100))+(i:Int))) (w':=w) h9 rfl rfl rfl (fun K hK=>?_) ?_
  ·have k0:a9.tmps.getD 11 undef=.int .i64 (((f:Int) * 10000)+((b:Int) * 100)):=h9.sl 11 _ rfl
   have k1:a9.tmps.getD 12 undef=.int .i64 (i:Int):=h9.sl 12 _ rfl
   have hwr:IntKind.i64.wrap ((((f:Int) * 10000)+((b:Int) * 100))+(i:Int))=(((f:Int) * 10000)+((b:Int) * 100))+(i:Int):=wrap_small _ (by omega)
   go_simp
   exact hK
  clear h9;intro a10 hF10
  refine St.go hF10 ?_;clear hF10 a10
  refine sa trivial rfl rfl ?_
  refine St.nil fun a11 h11=>?_
  refine hK3 _ _ ?_
  refine wp_ret ?_;with_reducible repeat first | refine of_then_ret ?_ | refine of_block_ret ?_
  have R:10000 * (f:Int)+100 * (b:Int)+(i:Int)=((((f:Int) * 10000)+((b:Int) * 100))+(i:Int)):=by omega
  exact ret_tmp (t:=6) h11 rfl rfl ⟨by rw [R],hW.bel⟩
theorem atIns_any {f b i : Nat} {w : World} (h : f < 1000000 ∧ b < 1000000 ∧ i < 1000000) :
    Rd Tryz.prog 57 #[.int .i64 (f:Int),.int .i64 (b:Int),.int .i64 (i:Int)] w (.int .i64 (10000 * (f:Int)+100 * (b:Int)+(i:Int))):=by
  refine fr_enter (n:=14) Tryz.func57 rfl rfl rfl ?_
  intro a hF
  have hW:=Wd.start w
  replace hF:Fr 14 a [(0,.int .i64 (f:Int)),(1,.int .i64 (b:Int)),(2,.int .i64 (i:Int))]:=hF
  refine wp_seq_k fun K1 hK1=>?_
  refine rg hF fun ops=>?_;clear hF a
  refine sa trivial rfl rfl ?_
  refine St.nil fun a2 h2=>?_
  refine hK1 _ _ ?_
  refine wp_seq_k fun K3 hK3=>?_
  refine rg h2 fun ops=>?_;clear h2 a2
  refine sm trivial rfl rfl ?_
  intro a4 h4
  refine fr_pure (t:=8) (v:=.int .i64 (10000 * (f:Int))) (w':=w) h4 rfl rfl rfl (fun K hK=>?_) ?_
  ·have k0:a4.tmps.getD 7 undef=.int .i64 (f:Int):=h4.sl 7 _ rfl
   have hwr:IntKind.i64.wrap (10000 * (f:Int))=10000 * (f:Int):=wrap_small _ (by omega)
   go_simp
   exact hK
  clear h4;intro a5 hF5
  refine St.go hF5 ?_;clear hF5 a5
  refine sm trivial rfl rfl ?_
  intro a6 h6
  refine fr_pure (t:=10) (v:=.int .i64 (100 * (b:Int))) (w':=w) h6 rfl rfl rfl (fun K hK=>?_) ?_
  ·have k0:a6.tmps.getD 9 undef=.int .i64 (b:Int):=h6.sl 9 _ rfl
   have hwr:IntKind.i64.wrap (100 * (b:Int))=100 * (b:Int):=wrap_small _ (by omega)
   go_simp
   exact hK
  clear h6;intro a7 hF7
  refine fr_pure (t:=11) (v:=.int .i64 ((10000 * (f:Int))+(100 * (b:Int)))) (w':=w) hF7 rfl rfl rfl (fun K hK=>?_) ?_
  ·have k0:a7.tmps.getD 8 undef=.int .i64 (10000 * (f:Int)):=hF7.sl 8 _ rfl
   have k1:a7.tmps.getD 10 undef=.int .i64 (100 * (b:Int)):=hF7.sl 10 _ rfl
   have hwr:IntKind.i64.wrap ((10000 * (f:Int))+(100 * (b:Int)))=(10000 * (f:Int))+(100 * (b:Int)):=wrap_small _ (by omega)
   go_simp
   exact hK
  clear hF7;intro a8 hF8
  refine St.go hF8 ?_;clear hF8 a8
  refine sm trivial rfl rfl ?_
  intro a9 h9
  refine fr_pure (t:=13) (v:=.int .i64 (((10000 * (f:Int))+(100 * (b:Int)))+(i:Int))) (w':=w) h9 rfl rfl rfl (fun K hK=>?_) ?_
  ·have k0:a9.tmps.getD 11 undef=.int .i64 ((10000 * (f:Int))+(100 * (b:Int))):=h9.sl 11 _ rfl
   have k1:a9.tmps.getD 12 undef=.int .i64 (i:Int):=h9.sl 12 _ rfl
   have hwr:IntKind.i64.wrap (((10000 * (f:Int))+(100 * (b:Int)))+(i:Int))=((10000 * (f:Int))+(100 * (b:Int)))+(i:Int):=wrap_small _ (by omega)
   go_simp
   exact hK
  clear h9;intro a10 hF10
  refine St.go hF10 ?_;clear hF10 a10
  refine sa trivial rfl rfl ?_
  refine St.nil fun a11 h11=>?_
  refine hK3 _ _ ?_
  refine wp_ret ?_;with_reducible repeat first | refine of_then_ret ?_ | refine of_block_ret ?_
  have R:10000 * (f:Int)+100 * (b:Int)+(i:Int)=(((10000 * (f:Int))+(100 * (b:Int)))+(i:Int)):=by omega
  exact ret_tmp (t:=6) h11 rfl rfl ⟨by rw [R],hW.bel⟩
def bareB (a b c k n : Int) (rl al : Nat) : Bool := a == 0 && b == 0 && c == 0 && k == 0 && n == 0 && (rl : Int) == 0 && (al : Int) == 0
def boundsC (funcs : Nat) (op k : Int) (rl al : Nat) : Int :=
  if op=2 then rangeC k 1 9 else if op=6 ∨ op=7 then rangeC k 0 7 else if op=5 then manyC al 8
  else if op=14 then (if rangeC k 0 ((funcs:Int) - 1)=0 then handedC rl 6 al else rangeC k 0 ((funcs:Int) - 1)) else 0
theorem isBare_any {xop xa xb xc xk xn : Int} {ra aa : Option Addr} {rl rc al ac : Nat} {w : World} :
    Rd Tryz.prog 121 #[.agg #[.int .i64 xop,.int .i64 xa,.int .i64 xb,.int .i64 xc,.int .i64 xk,.int .i64 xn,.slice ra rl rc,.slice aa al ac]] w (.bool (bareB xa xb xc xk xn rl al)):=by
  refine fr_enter (n:=38) Tryz.func121 rfl rfl rfl ?_
  intro a hF
  have hW:=Wd.start w
  replace hF:Fr 38 a [(0,.agg #[.int .i64 xop,.int .i64 xa,.int .i64 xb,.int .i64 xc,.int .i64 xk,.int .i64 xn,.slice ra rl rc,.slice aa al ac])]:=hF
  refine wp_seq_k fun K1 hK1=>?_
  refine rg hF fun ops=>?_;clear hF a
  refine sB hW trivial rfl rfl ?_
  clear hW;intro w2 B2 hW2 hN;clear hN
  refine sa trivial rfl rfl ?_
  refine St.nil fun a3 h3=>?_
  refine hK1 _ _ ?_
  refine wp_seq_k fun K4 hK4=>?_
  refine fr_region ?_
  intro ops hops
  have hg3:(ops[3]?).bind (fun o:Oper=>o.dst)=some 6:=hops 3
  have hg8:(ops[8]?).bind (fun o:Oper=>o.dst)=some 11:=hops 8
  have hg13:(ops[13]?).bind (fun o:Oper=>o.dst)=some 16:=hops 13
  have hg18:(ops[18]?).bind (fun o:Oper=>o.dst)=some 21:=hops 18
  have hg23:(ops[23]?).bind (fun o:Oper=>o.dst)=some 26:=hops 23
  have hg29:(ops[29]?).bind (fun o:Oper=>o.dst)=some 32:=hops 29
  clear hops
  refine St.go h3 ?_;clear h3 a3
  refine sfIns1 trivial rfl rfl ?_
  refine sbInt 0 hW2 trivial rfl rfl rfl rfl ?_
  refine seq trivial rfl rfl rfl ?_
  refine sm trivial rfl rfl ?_
  intro a5 h5
  rcases Bool.eq_false_or_eq_true (xa == 0) with hb | hb
  ·rw [hb] at h5
   have h9:xa=0:=eq_of_beq hb
   have hc6:Hid (xa=0):=h9
   clear h9
   clear hb
   refine St.go h5 ?_;clear h5 a5
   refine sfIns2 ⟨_,hg3,rfl,rfl⟩ rfl rfl ?_
   refine sbInt 0 hW2 ⟨_,hg3,rfl,rfl⟩ rfl rfl rfl rfl ?_
   refine seq ⟨_,hg3,rfl,rfl⟩ rfl rfl rfl ?_
   refine sp trivial rfl rfl rfl ?_
   refine sm trivial rfl rfl ?_
   intro a7 h7
   rcases Bool.eq_false_or_eq_true (xb == 0) with hb | hb
   ·rw [hb] at h7
    have h9:xb=0:=eq_of_beq hb
    have hc8:Hid (xb=0):=h9
    clear h9
    clear hb
    refine St.go h7 ?_;clear h7 a7
    refine sfIns3 ⟨_,hg8,rfl,rfl⟩ rfl rfl ?_
    refine sbInt 0 hW2 ⟨_,hg8,rfl,rfl⟩ rfl rfl rfl rfl ?_
    refine seq ⟨_,hg8,rfl,rfl⟩ rfl rfl rfl ?_
    refine sp trivial rfl rfl rfl ?_
    refine sm trivial rfl rfl ?_
    intro a9 h9
    rcases Bool.eq_false_or_eq_true (xc == 0) with hb | hb
    ·rw [hb] at h9
     have h9:xc=0:=eq_of_beq hb
     have hc10:Hid (xc=0):=h9
     clear h9
     clear hb
     refine St.go h9 ?_;clear h9 a9
     refine sfIns4 ⟨_,hg13,rfl,rfl⟩ rfl rfl ?_
     refine sbInt 0 hW2 ⟨_,hg13,rfl,rfl⟩ rfl rfl rfl rfl ?_
     refine seq ⟨_,hg13,rfl,rfl⟩ rfl rfl rfl ?_
     refine sp trivial rfl rfl rfl ?_
     refine sm trivial rfl rfl ?_
     intro a11 h11
     rcases Bool.eq_false_or_eq_true (xk == 0) with hb | hb
     ·rw [hb] at h11
      have h9:xk=0:=eq_of_beq hb
      have hc12:Hid (xk=0):=h9
      clear h9
      clear hb
      refine St.go h11 ?_;clear h11 a11
      refine sfIns5 ⟨_,hg18,rfl,rfl⟩ rfl rfl ?_
      refine sbInt6 0 hW2 ⟨_,hg18,rfl,rfl⟩ rfl rfl rfl rfl ?_
      refine seq6 ⟨_,hg18,rfl,rfl⟩ rfl rfl rfl ?_
      refine sp trivial rfl rfl rfl ?_
      refine sm trivial rfl rfl ?_
      intro a13 h13
      rcases Bool.eq_false_or_eq_true (xn == 0) with hb | hb
      ·rw [hb] at h13
       have h9:xn=0:=eq_of_beq hb
       have hc14:Hid (xn=0):=h9
       clear h9
       clear hb
       refine St.go h13 ?_;clear h13 a13
       refine sfIns6 ⟨_,hg23,rfl,rfl⟩ rfl rfl ?_
       refine sbInts 0 hW2 ⟨_,hg23,rfl,rfl⟩ rfl rfl rfl rfl ?_
       refine slInts ⟨_,hg23,rfl,rfl⟩ rfl rfl ?_
       refine seq ⟨_,hg23,rfl,rfl⟩ rfl rfl rfl ?_
       refine sp trivial rfl rfl rfl ?_
       refine sm trivial rfl rfl ?_
       intro a15 h15
       rcases Bool.eq_false_or_eq_true ((rl:Int) == 0) with hb | hb
       ·rw [hb] at h15
        have h9:rl=0:=by have h8:=eq_of_beq hb;omega
        have hc16:Hid (rl=0):=h9
        clear h9
        clear hb
        refine St.go h15 ?_;clear h15 a15
        refine sfIns7 ⟨_,hg29,rfl,rfl⟩ rfl rfl ?_
        refine sbInts 0 hW2 ⟨_,hg29,rfl,rfl⟩ rfl rfl rfl rfl ?_
        refine slInts ⟨_,hg29,rfl,rfl⟩ rfl rfl ?_
        refine seq ⟨_,hg29,rfl,rfl⟩ rfl rfl rfl ?_
        refine sp trivial rfl rfl rfl ?_
        refine sa trivial rfl rfl ?_
        refine St.nil fun a17 h17=>?_
        refine hK4 _ _ ?_
        refine wp_ret ?_;with_reducible repeat first | refine of_then_ret ?_ | refine of_block_ret ?_
        have R:bareB xa xb xc xk xn rl al=((al:Int) == 0):=by simp [bareB,hc6.out,hc8.out,hc10.out,hc12.out,hc14.out,hc16.out]
        exact ret_tmp (t:=2) h17 rfl rfl ⟨by rw [R],hW2.bel⟩
       rw [hb] at h15
       have h9:¬ rl=0:=by have h8:=ne_of_beq_false hb;omega
       have hc18:¬ rl=0:=h9
       clear h9
       clear hb
       refine St.go h15 ?_;clear h15 a15
       refine so hg29 rfl rfl rfl rfl ?_
       refine so hg29 rfl rfl rfl rfl ?_
       refine so hg29 rfl rfl rfl rfl ?_
       refine so hg29 rfl rfl rfl rfl ?_
       refine spf trivial rfl rfl rfl ?_
       refine sa trivial rfl rfl ?_
       refine St.nil fun a19 h19=>?_
       refine hK4 _ _ ?_
       refine wp_ret ?_;with_reducible repeat first | refine of_then_ret ?_ | refine of_block_ret ?_
       have R:bareB xa xb xc xk xn rl al=false:=by simp [bareB,hc6.out,hc8.out,hc10.out,hc12.out,hc14.out,hc18]
       exact ret_tmp (t:=2) h19 rfl rfl ⟨by rw [R],hW2.bel⟩
      rw [hb] at h13
      have h9:¬ xn=0:=ne_of_beq_false hb
      have hc20:¬ xn=0:=h9
      clear h9
      clear hb
      refine St.go h13 ?_;clear h13 a13
      refine so hg23 rfl rfl rfl rfl ?_
      refine so hg23 rfl rfl rfl rfl ?_
      refine so hg23 rfl rfl rfl rfl ?_
      refine so hg23 rfl rfl rfl rfl ?_
      refine spf trivial rfl rfl rfl ?_
      refine sm trivial rfl rfl ?_
      refine so hg29 rfl rfl rfl rfl ?_
      refine so hg29 rfl rfl rfl rfl ?_
      refine so hg29 rfl rfl rfl rfl ?_
      refine so hg29 rfl rfl rfl rfl ?_
      refine spf trivial rfl rfl rfl ?_
      refine sa trivial rfl rfl ?_
      refine St.nil fun a21 h21=>?_
      refine hK4 _ _ ?_
      refine wp_ret ?_;with_reducible repeat first | refine of_then_ret ?_ | refine of_block_ret ?_
      have R:bareB xa xb xc xk xn rl al=false:=by simp [bareB,hc6.out,hc8.out,hc10.out,hc12.out,hc20]
      exact ret_tmp (t:=2) h21 rfl rfl ⟨by rw [R],hW2.bel⟩
     rw [hb] at h11
     have h9:¬ xk=0:=ne_of_beq_false hb
     have hc22:¬ xk=0:=h9
     clear h9
     clear hb
     refine St.go h11 ?_;clear h11 a11
     refine so hg18 rfl rfl rfl rfl ?_
     refine so hg18 rfl rfl rfl rfl ?_
     refine so hg18 rfl rfl rfl rfl ?_
     refine spf trivial rfl rfl rfl ?_
     refine sm trivial rfl rfl ?_
     refine so hg23 rfl rfl rfl rfl ?_
     refine so hg23 rfl rfl rfl rfl ?_
     refine so hg23 rfl rfl rfl rfl ?_
     refine so hg23 rfl rfl rfl rfl ?_
     refine spf trivial rfl rfl rfl ?_
     refine sm trivial rfl rfl ?_
     refine so hg29 rfl rfl rfl rfl ?_
     refine so hg29 rfl rfl rfl rfl ?_
     refine so hg29 rfl rfl rfl rfl ?_
     refine so hg29 rfl rfl rfl rfl ?_
     refine spf trivial rfl rfl rfl ?_
     refine sa trivial rfl rfl ?_
     refine St.nil fun a23 h23=>?_
     refine hK4 _ _ ?_
     refine wp_ret ?_;with_reducible repeat first | refine of_then_ret ?_ | refine of_block_ret ?_
     have R:bareB xa xb xc xk xn rl al=false:=by simp [bareB,hc6.out,hc8.out,hc10.out,hc22]
     exact ret_tmp (t:=2) h23 rfl rfl ⟨by rw [R],hW2.bel⟩
    rw [hb] at h9
    have h9:¬ xc=0:=ne_of_beq_false hb
    have hc24:¬ xc=0:=h9
    clear h9
    clear hb
    refine St.go h9 ?_;clear h9 a9
    refine so hg13 rfl rfl rfl rfl ?_
    refine so hg13 rfl rfl rfl rfl ?_
    refine so hg13 rfl rfl rfl rfl ?_
    refine spf trivial rfl rfl rfl ?_
    refine sm trivial rfl rfl ?_
    refine so hg18 rfl rfl rfl rfl ?_
    refine so hg18 rfl rfl rfl rfl ?_
    refine so hg18 rfl rfl rfl rfl ?_
    refine spf trivial rfl rfl rfl ?_
    refine sm trivial rfl rfl ?_
    refine so hg23 rfl rfl rfl rfl ?_
    refine so hg23 rfl rfl rfl rfl ?_
    refine so hg23 rfl rfl rfl rfl ?_
    refine so hg23 rfl rfl rfl rfl ?_
    refine spf trivial rfl rfl rfl ?_
    refine sm trivial rfl rfl ?_
    refine so hg29 rfl rfl rfl rfl ?_
    refine so hg29 rfl rfl rfl rfl ?_
    refine so hg29 rfl rfl rfl rfl ?_
    refine so hg29 rfl rfl rfl rfl ?_
    refine spf trivial rfl rfl rfl ?_
    refine sa trivial rfl rfl ?_
    refine St.nil fun a25 h25=>?_
    refine hK4 _ _ ?_
    refine wp_ret ?_;with_reducible repeat first | refine of_then_ret ?_ | refine of_block_ret ?_
    have R:bareB xa xb xc xk xn rl al=false:=by simp [bareB,hc6.out,hc8.out,hc24]
    exact ret_tmp (t:=2) h25 rfl rfl ⟨by rw [R],hW2.bel⟩
   rw [hb] at h7
   have h9:¬ xb=0:=ne_of_beq_false hb
   have hc26:¬ xb=0:=h9
   clear h9
   clear hb
   refine St.go h7 ?_;clear h7 a7
   refine so hg8 rfl rfl rfl rfl ?_
   refine so hg8 rfl rfl rfl rfl ?_
   refine so hg8 rfl rfl rfl rfl ?_
   refine spf trivial rfl rfl rfl ?_
   refine sm trivial rfl rfl ?_
   refine so hg13 rfl rfl rfl rfl ?_
   refine so hg13 rfl rfl rfl rfl ?_
   refine so hg13 rfl rfl rfl rfl ?_
   refine spf trivial rfl rfl rfl ?_
   refine sm trivial rfl rfl ?_
   refine so hg18 rfl rfl rfl rfl ?_
   refine so hg18 rfl rfl rfl rfl ?_
   refine so hg18 rfl rfl rfl rfl ?_
   refine spf trivial rfl rfl rfl ?_
   refine sm trivial rfl rfl ?_
   refine so hg23 rfl rfl rfl rfl ?_
   refine so hg23 rfl rfl rfl rfl ?_
   refine so hg23 rfl rfl rfl rfl ?_
   refine so hg23 rfl rfl rfl rfl ?_
   refine spf trivial rfl rfl rfl ?_
   refine sm trivial rfl rfl ?_
   refine so hg29 rfl rfl rfl rfl ?_
   refine so hg29 rfl rfl rfl rfl ?_
   refine so hg29 rfl rfl rfl rfl ?_
   refine so hg29 rfl rfl rfl rfl ?_
   refine spf trivial rfl rfl rfl ?_
   refine sa trivial rfl rfl ?_
   refine St.nil fun a27 h27=>?_
   refine hK4 _ _ ?_
   refine wp_ret ?_;with_reducible repeat first | refine of_then_ret ?_ | refine of_block_ret ?_
   have R:bareB xa xb xc xk xn rl al=false:=by simp [bareB,hc6.out,hc26]
   exact ret_tmp (t:=2) h27 rfl rfl ⟨by rw [R],hW2.bel⟩
  rw [hb] at h5
  have h9:¬ xa=0:=ne_of_beq_false hb
  have hc28:¬ xa=0:=h9
  clear h9
  clear hb
  refine St.go h5 ?_;clear h5 a5
  refine so hg3 rfl rfl rfl rfl ?_
  refine so hg3 rfl rfl rfl rfl ?_
  refine so hg3 rfl rfl rfl rfl ?_
  refine spf trivial rfl rfl rfl ?_
  refine sm trivial rfl rfl ?_
  refine so hg8 rfl rfl rfl rfl ?_
  refine so hg8 rfl rfl rfl rfl ?_
  refine so hg8 rfl rfl rfl rfl ?_
  refine spf trivial rfl rfl rfl ?_
  refine sm trivial rfl rfl ?_
  refine so hg13 rfl rfl rfl rfl ?_
  refine so hg13 rfl rfl rfl rfl ?_
  refine so hg13 rfl rfl rfl rfl ?_
  refine spf trivial rfl rfl rfl ?_
  refine sm trivial rfl rfl ?_
  refine so hg18 rfl rfl rfl rfl ?_
  refine so hg18 rfl rfl rfl rfl ?_
  refine so hg18 rfl rfl rfl rfl ?_
  refine spf trivial rfl rfl rfl ?_
  refine sm trivial rfl rfl ?_
  refine so hg23 rfl rfl rfl rfl ?_
  refine so hg23 rfl rfl rfl rfl ?_
  refine so hg23 rfl rfl rfl rfl ?_
  refine so hg23 rfl rfl rfl rfl ?_
  refine spf trivial rfl rfl rfl ?_
  refine sm trivial rfl rfl ?_
  refine so hg29 rfl rfl rfl rfl ?_
  refine so hg29 rfl rfl rfl rfl ?_
  refine so hg29 rfl rfl rfl rfl ?_
  refine so hg29 rfl rfl rfl rfl ?_
  refine spf trivial rfl rfl rfl ?_
  refine sa trivial rfl rfl ?_
  refine St.nil fun a29 h29=>?_
  refine hK4 _ _ ?_
  refine wp_ret ?_;with_reducible repeat first | refine of_then_ret ?_ | refine of_block_ret ?_
  have R:bareB xa xb xc xk xn rl al=false:=by simp [bareB,hc28]
  exact ret_tmp (t:=2) h29 rfl rfl ⟨by rw [R],hW2.bel⟩
theorem bounds2 {xa xb xc xk xn : Int} {ra aa : Option Addr} {rl rc al ac : Nat} {am : Option Addr} {lm cm : Nat} {w : World} (hlm : lm < 2305843009213693952) :
    Rd Tryz.prog 122 #[.agg #[.slice am lm cm],.agg #[.int .i64 2,.int .i64 xa,.int .i64 xb,.int .i64 xc,.int .i64 xk,.int .i64 xn,.slice ra rl rc,.slice aa al ac]] w (.int .i64 (boundsC lm 2 xk rl al)):=by
  refine fr_enter (n:=41) Tryz.func122 rfl rfl rfl ?_
  intro a hF
  have hW:=Wd.start w
  replace hF:Fr 41 a [(0,.agg #[.slice am lm cm]),(1,.agg #[.int .i64 2,.int .i64 xa,.int .i64 xb,.int .i64 xc,.int .i64 xk,.int .i64 xn,.slice ra rl rc,.slice aa al ac])]:=hF
  refine wp_seq_k fun K1 hK1=>?_
  refine rg hF fun ops=>?_;clear hF a
  refine sB hW trivial rfl rfl ?_
  clear hW;intro w2 B2 hW2 hN;clear hN
  refine sB hW2 trivial rfl rfl ?_
  clear hW2;intro w3 B3 hW3 hN;clear hN
  refine sa trivial rfl rfl ?_
  refine St.nil fun a4 h4=>?_
  refine hK1 _ _ ?_
  refine wp_seq_k fun K5 hK5=>?_
  refine wp_seq_k fun K6 hK6=>?_
  refine rg h4 fun ops=>?_;clear h4 a4
  refine sfIns0 trivial rfl rfl ?_
  refine sbInt 0 hW3 trivial rfl rfl rfl rfl ?_
  refine St.nil fun a7 h7=>?_
  refine hK6 _ _ ?_
  refine wp_block ?_
  refine wp_seq_k fun K8 hK8=>?_
  refine rg h7 fun ops=>?_;clear h7 a7
  intro a9 h9
  refine fr_pure (t:=9) (v:=.bool true) (w':=w3) h9 rfl rfl rfl (fun K hK=>?_) ?_
  ·have k0:a9.tmps.getD 7 undef=.int .i64 2:=h9.sl 7 _ rfl
   go_simp
   exact hK
  clear h9;intro a10 hF10
  refine St.go hF10 ?_;clear hF10 a10
  refine sa trivial rfl rfl ?_
  refine St.nil fun a11 h11=>?_
  refine hK8 _ _ ?_
  refine fr_true (t:=8) h11 rfl ?_
  refine wp_seq_k fun K12 hK12=>?_
  refine rg h11 fun ops=>?_;clear h11 a11
  refine sfIns4 trivial rfl rfl ?_
  refine sbInt 0 hW3 trivial rfl rfl rfl rfl ?_
  refine sc_3 cf146 hW3 (rangeCode_any) trivial rfl rfl rfl rfl ?_
  clear hW3;intro w13 hW13
  refine sa trivial rfl rfl ?_
  refine St.nil fun a14 h14=>?_
  refine hK12 _ _ ?_
  refine wp_ret ?_;with_reducible repeat first | refine of_then_ret ?_ | refine of_block_ret ?_
  have R:boundsC lm 2 xk rl al=rangeC xk 1 9:=by simp [boundsC]
  exact ret_tmp (t:=4) h14 rfl rfl ⟨by rw [R],hW13.bel⟩
theorem bounds5 {xa xb xc xk xn : Int} {ra aa : Option Addr} {rl rc al ac : Nat} {am : Option Addr} {lm cm : Nat} {w : World} (hlm : lm < 2305843009213693952) :
    Rd Tryz.prog 122 #[.agg #[.slice am lm cm],.agg #[.int .i64 5,.int .i64 xa,.int .i64 xb,.int .i64 xc,.int .i64 xk,.int .i64 xn,.slice ra rl rc,.slice aa al ac]] w (.int .i64 (boundsC lm 5 xk rl al)):=by
  refine fr_enter (n:=41) Tryz.func122 rfl rfl rfl ?_
  intro a hF
  have hW:=Wd.start w
  replace hF:Fr 41 a [(0,.agg #[.slice am lm cm]),(1,.agg #[.int .i64 5,.int .i64 xa,.int .i64 xb,.int .i64 xc,.int .i64 xk,.int .i64 xn,.slice ra rl rc,.slice aa al ac])]:=hF
  refine wp_seq_k fun K1 hK1=>?_
  refine rg hF fun ops=>?_;clear hF a
  refine sB hW trivial rfl rfl ?_
  clear hW;intro w2 B2 hW2 hN;clear hN
  refine sB hW2 trivial rfl rfl ?_
  clear hW2;intro w3 B3 hW3 hN;clear hN
  refine sa trivial rfl rfl ?_
  refine St.nil fun a4 h4=>?_
  refine hK1 _ _ ?_
  refine wp_seq_k fun K5 hK5=>?_
  refine wp_seq_k fun K6 hK6=>?_
  refine rg h4 fun ops=>?_;clear h4 a4
  refine sfIns0 trivial rfl rfl ?_
  refine sbInt 0 hW3 trivial rfl rfl rfl rfl ?_
  refine St.nil fun a7 h7=>?_
  refine hK6 _ _ ?_
  refine wp_block ?_
  refine wp_seq_k fun K8 hK8=>?_
  refine rg h7 fun ops=>?_;clear h7 a7
  refine seq trivial rfl rfl rfl ?_
  refine sa trivial rfl rfl ?_
  refine St.nil fun a9 h9=>?_
  refine hK8 _ _ ?_
  refine fr_false (t:=8) h9 rfl ?_
  refine wp_seq_k fun K10 hK10=>?_
  refine wp_seq_k fun K11 hK11=>?_
  refine rg h9 fun ops=>?_;clear h9 a9
  refine seq trivial rfl rfl rfl ?_
  refine sa trivial rfl rfl ?_
  refine St.nil fun a12 h12=>?_
  refine hK11 _ _ ?_
  refine fr_false (t:=13) h12 rfl ?_
  refine rg h12 fun ops=>?_;clear h12 a12
  refine seq trivial rfl rfl rfl ?_
  refine sa trivial rfl rfl ?_
  refine St.nil fun a13 h13=>?_
  refine hK10 _ _ ?_
  refine fr_false (t:=13) h13 rfl ?_
  refine wp_seq_k fun K14 hK14=>?_
  refine rg h13 fun ops=>?_;clear h13 a13
  intro a15 h15
  refine fr_pure (t:=20) (v:=.bool true) (w':=w3) h15 rfl rfl rfl (fun K hK=>?_) ?_
  ·have k0:a15.tmps.getD 7 undef=.int .i64 5:=h15.sl 7 _ rfl
   go_simp
   exact hK
  clear h15;intro a16 hF16
  refine St.go hF16 ?_;clear hF16 a16
  refine sa trivial rfl rfl ?_
  refine St.nil fun a17 h17=>?_
  refine hK14 _ _ ?_
  refine fr_true (t:=19) h17 rfl ?_
  refine wp_seq_k fun K18 hK18=>?_
  refine rg h17 fun ops=>?_;clear h17 a17
  refine sfIns7 trivial rfl rfl ?_
  refine sbInts 0 hW3 trivial rfl rfl rfl rfl ?_
  refine sc_2 cf147 hW3 (manyCode_any) trivial rfl rfl rfl ?_
  clear hW3;intro w19 hW19
  refine sa trivial rfl rfl ?_
  refine St.nil fun a20 h20=>?_
  refine hK18 _ _ ?_
  refine wp_ret ?_;with_reducible repeat first | refine of_then_ret ?_ | refine of_block_ret ?_
  have R:boundsC lm 5 xk rl al=manyC al 8:=by simp [boundsC]
  exact ret_tmp (t:=4) h20 rfl rfl ⟨by rw [R],hW19.bel⟩
theorem bounds6 {xa xb xc xk xn : Int} {ra aa : Option Addr} {rl rc al ac : Nat} {am : Option Addr} {lm cm : Nat} {w : World} (hlm : lm < 2305843009213693952) :
    Rd Tryz.prog 122 #[.agg #[.slice am lm cm],.agg #[.int .i64 6,.int .i64 xa,.int .i64 xb,.int .i64 xc,.int .i64 xk,.int .i64 xn,.slice ra rl rc,.slice aa al ac]] w (.int .i64 (boundsC lm 6 xk rl al)):=by
  refine fr_enter (n:=41) Tryz.func122 rfl rfl rfl ?_
  intro a hF
  have hW:=Wd.start w
  replace hF:Fr 41 a [(0,.agg #[.slice am lm cm]),(1,.agg #[.int .i64 6,.int .i64 xa,.int .i64 xb,.int .i64 xc,.int .i64 xk,.int .i64 xn,.slice ra rl rc,.slice aa al ac])]:=hF
  refine wp_seq_k fun K1 hK1=>?_
  refine rg hF fun ops=>?_;clear hF a
  refine sB hW trivial rfl rfl ?_
  clear hW;intro w2 B2 hW2 hN;clear hN
  refine sB hW2 trivial rfl rfl ?_
  clear hW2;intro w3 B3 hW3 hN;clear hN
  refine sa trivial rfl rfl ?_
  refine St.nil fun a4 h4=>?_
  refine hK1 _ _ ?_
  refine wp_seq_k fun K5 hK5=>?_
  refine wp_seq_k fun K6 hK6=>?_
  refine rg h4 fun ops=>?_;clear h4 a4
  refine sfIns0 trivial rfl rfl ?_
  refine sbInt 0 hW3 trivial rfl rfl rfl rfl ?_
  refine St.nil fun a7 h7=>?_
  refine hK6 _ _ ?_
  refine wp_block ?_
  refine wp_seq_k fun K8 hK8=>?_
  refine rg h7 fun ops=>?_;clear h7 a7
  refine seq trivial rfl rfl rfl ?_
  refine sa trivial rfl rfl ?_
  refine St.nil fun a9 h9=>?_
  refine hK8 _ _ ?_
  refine fr_false (t:=8) h9 rfl ?_
  refine wp_seq_k fun K10 hK10=>?_
  refine wp_seq_k fun K11 hK11=>?_
  refine rg h9 fun ops=>?_;clear h9 a9
  intro a12 h12
  refine fr_pure (t:=14) (v:=.bool true) (w':=w3) h12 rfl rfl rfl (fun K hK=>?_) ?_
  ·have k0:a12.tmps.getD 7 undef=.int .i64 6:=h12.sl 7 _ rfl
   go_simp
   exact hK
  clear h12;intro a13 hF13
  refine St.go hF13 ?_;clear hF13 a13
  refine sa trivial rfl rfl ?_
  refine St.nil fun a14 h14=>?_
  refine hK11 _ _ ?_
  refine fr_true (t:=13) h14 rfl ?_
  refine wp_skip ?_
  refine hK10 _ _ ?_
  refine fr_true (t:=13) h14 rfl ?_
  refine wp_seq_k fun K15 hK15=>?_
  refine rg h14 fun ops=>?_;clear h14 a14
  refine sfIns4 trivial rfl rfl ?_
  refine sbInt 0 hW3 trivial rfl rfl rfl rfl ?_
  refine sc_3 cf146 hW3 (rangeCode_any) trivial rfl rfl rfl rfl ?_
  clear hW3;intro w16 hW16
  refine sa trivial rfl rfl ?_
  refine St.nil fun a17 h17=>?_
  refine hK15 _ _ ?_
  refine wp_ret ?_;with_reducible repeat first | refine of_then_ret ?_ | refine of_block_ret ?_
  have R:boundsC lm 6 xk rl al=rangeC xk 0 7:=by simp [boundsC]
  exact ret_tmp (t:=4) h17 rfl rfl ⟨by rw [R],hW16.bel⟩
theorem bounds7 {xa xb xc xk xn : Int} {ra aa : Option Addr} {rl rc al ac : Nat} {am : Option Addr} {lm cm : Nat} {w : World} (hlm : lm < 2305843009213693952) :
    Rd Tryz.prog 122 #[.agg #[.slice am lm cm],.agg #[.int .i64 7,.int .i64 xa,.int .i64 xb,.int .i64 xc,.int .i64 xk,.int .i64 xn,.slice ra rl rc,.slice aa al ac]] w (.int .i64 (boundsC lm 7 xk rl al)):=by
  refine fr_enter (n:=41) Tryz.func122 rfl rfl rfl ?_
  intro a hF
  have hW:=Wd.start w
  replace hF:Fr 41 a [(0,.agg #[.slice am lm cm]),(1,.agg #[.int .i64 7,.int .i64 xa,.int .i64 xb,.int .i64 xc,.int .i64 xk,.int .i64 xn,.slice ra rl rc,.slice aa al ac])]:=hF
  refine wp_seq_k fun K1 hK1=>?_
  refine rg hF fun ops=>?_;clear hF a
  refine sB hW trivial rfl rfl ?_
  clear hW;intro w2 B2 hW2 hN;clear hN
  refine sB hW2 trivial rfl rfl ?_
  clear hW2;intro w3 B3 hW3 hN;clear hN
  refine sa trivial rfl rfl ?_
  refine St.nil fun a4 h4=>?_
  refine hK1 _ _ ?_
  refine wp_seq_k fun K5 hK5=>?_
  refine wp_seq_k fun K6 hK6=>?_
  refine rg h4 fun ops=>?_;clear h4 a4
  refine sfIns0 trivial rfl rfl ?_
  refine sbInt 0 hW3 trivial rfl rfl rfl rfl ?_
  refine St.nil fun a7 h7=>?_
  refine hK6 _ _ ?_
  refine wp_block ?_
  refine wp_seq_k fun K8 hK8=>?_
  refine rg h7 fun ops=>?_;clear h7 a7
  refine seq trivial rfl rfl rfl ?_
  refine sa trivial rfl rfl ?_
  refine St.nil fun a9 h9=>?_
  refine hK8 _ _ ?_
  refine fr_false (t:=8) h9 rfl ?_
  refine wp_seq_k fun K10 hK10=>?_
  refine wp_seq_k fun K11 hK11=>?_
  refine rg h9 fun ops=>?_;clear h9 a9
  refine seq trivial rfl rfl rfl ?_
  refine sa trivial rfl rfl ?_
  refine St.nil fun a12 h12=>?_
  refine hK11 _ _ ?_
  refine fr_false (t:=13) h12 rfl ?_
  refine rg h12 fun ops=>?_;clear h12 a12
  intro a13 h13
  refine fr_pure (t:=15) (v:=.bool true) (w':=w3) h13 rfl rfl rfl (fun K hK=>?_) ?_
  ·have k0:a13.tmps.getD 7 undef=.int .i64 7:=h13.sl 7 _ rfl
   go_simp
   exact hK
  clear h13;intro a14 hF14
  refine St.go hF14 ?_;clear hF14 a14
  refine sa trivial rfl rfl ?_
  refine St.nil fun a15 h15=>?_
  refine hK10 _ _ ?_
  refine fr_true (t:=13) h15 rfl ?_
  refine wp_seq_k fun K16 hK16=>?_
  refine rg h15 fun ops=>?_;clear h15 a15
  refine sfIns4 trivial rfl rfl ?_
  refine sbInt 0 hW3 trivial rfl rfl rfl rfl ?_
  refine sc_3 cf146 hW3 (rangeCode_any) trivial rfl rfl rfl rfl ?_
  clear hW3;intro w17 hW17
  refine sa trivial rfl rfl ?_
  refine St.nil fun a18 h18=>?_
  refine hK16 _ _ ?_
  refine wp_ret ?_;with_reducible repeat first | refine of_then_ret ?_ | refine of_block_ret ?_
  have R:boundsC lm 7 xk rl al=rangeC xk 0 7:=by simp [boundsC]
  exact ret_tmp (t:=4) h18 rfl rfl ⟨by rw [R],hW17.bel⟩
theorem bounds14 {xa xb xc xk xn : Int} {ra aa : Option Addr} {rl rc al ac : Nat} {am : Option Addr} {lm cm : Nat} {w : World} (hlm : lm < 2305843009213693952) :
    Rd Tryz.prog 122 #[.agg #[.slice am lm cm],.agg #[.int .i64 14,.int .i64 xa,.int .i64 xb,.int .i64 xc,.int .i64 xk,.int .i64 xn,.slice ra rl rc,.slice aa al ac]] w (.int .i64 (boundsC lm 14 xk rl al)):=by
  refine fr_enter (n:=41) Tryz.func122 rfl rfl rfl ?_
  intro a hF
  have hW:=Wd.start w
  replace hF:Fr 41 a [(0,.agg #[.slice am lm cm]),(1,.agg #[.int .i64 14,.int .i64 xa,.int .i64 xb,.int .i64 xc,.int .i64 xk,.int .i64 xn,.slice ra rl rc,.slice aa al ac])]:=hF
  refine wp_seq_k fun K1 hK1=>?_
  refine rg hF fun ops=>?_;clear hF a
  refine sB hW trivial rfl rfl ?_
  clear hW;intro w2 B2 hW2 hN;clear hN
  refine sB hW2 trivial rfl rfl ?_
  clear hW2;intro w3 B3 hW3 hN;clear hN
  refine sa trivial rfl rfl ?_
  refine St.nil fun a4 h4=>?_
  refine hK1 _ _ ?_
  refine wp_seq_k fun K5 hK5=>?_
  refine wp_seq_k fun K6 hK6=>?_
  refine rg h4 fun ops=>?_;clear h4 a4
  refine sfIns0 trivial rfl rfl ?_
  refine sbInt 0 hW3 trivial rfl rfl rfl rfl ?_
  refine St.nil fun a7 h7=>?_
  refine hK6 _ _ ?_
  refine wp_block ?_
  refine wp_seq_k fun K8 hK8=>?_
  refine rg h7 fun ops=>?_;clear h7 a7
  refine seq trivial rfl rfl rfl ?_
  refine sa trivial rfl rfl ?_
  refine St.nil fun a9 h9=>?_
  refine hK8 _ _ ?_
  refine fr_false (t:=8) h9 rfl ?_
  refine wp_seq_k fun K10 hK10=>?_
  refine wp_seq_k fun K11 hK11=>?_
  refine rg h9 fun ops=>?_;clear h9 a9
  refine seq trivial rfl rfl rfl ?_
  refine sa trivial rfl rfl ?_
  refine St.nil fun a12 h12=>?_
  refine hK11 _ _ ?_
  refine fr_false (t:=13) h12 rfl ?_
  refine rg h12 fun ops=>?_;clear h12 a12
  refine seq trivial rfl rfl rfl ?_
  refine sa trivial rfl rfl ?_
  refine St.nil fun a13 h13=>?_
  refine hK10 _ _ ?_
  refine fr_false (t:=13) h13 rfl ?_
  refine wp_seq_k fun K14 hK14=>?_
  refine rg h13 fun ops=>?_;clear h13 a13
  refine seq trivial rfl rfl rfl ?_
  refine sa trivial rfl rfl ?_
  refine St.nil fun a15 h15=>?_
  refine hK14 _ _ ?_
  refine fr_false (t:=19) h15 rfl ?_
  refine wp_seq_k fun K16 hK16=>?_
  refine rg h15 fun ops=>?_;clear h15 a15
  intro a17 h17
  refine fr_pure (t:=25) (v:=.bool true) (w':=w3) h17 rfl rfl rfl (fun K hK=>?_) ?_
  ·have k0:a17.tmps.getD 7 undef=.int .i64 14:=h17.sl 7 _ rfl
   go_simp
   exact hK
  clear h17;intro a18 hF18
  refine St.go hF18 ?_;clear hF18 a18
  refine sa trivial rfl rfl ?_
  refine St.nil fun a19 h19=>?_
  refine hK16 _ _ ?_
  refine fr_true (t:=24) h19 rfl ?_
  refine wp_seq_k fun K20 hK20=>?_
  refine wp_seq_k fun K21 hK21=>?_
  refine rg h19 fun ops=>?_;clear h19 a19
  refine sfIns4 trivial rfl rfl ?_
  refine sbInt 0 hW3 trivial rfl rfl rfl rfl ?_
  refine sfModule0 trivial rfl rfl ?_
  refine sbFuncs 1 hW3 trivial rfl rfl rfl rfl ?_
  refine slFuncs trivial rfl rfl ?_
  intro a22 h22
  refine fr_pure (t:=31) (v:=.int .i64 ((lm:Int) - 1)) (w':=w3) h22 rfl rfl rfl (fun K hK=>?_) ?_
  ·have k0:a22.tmps.getD 30 undef=.int .i64 (lm:Int):=h22.sl 30 _ rfl
   have hwr:IntKind.i64.wrap ((lm:Int) - 1)=(lm:Int) - 1:=wrap_pred _ (by omega)
   go_simp
   exact hK
  clear h22;intro a23 hF23
  refine St.go hF23 ?_;clear hF23 a23
  refine sc_3 cf146 hW3 (rangeCode_any) trivial rfl rfl rfl rfl ?_
  clear hW3;intro w24 hW24
  refine sa trivial rfl rfl ?_
  refine St.nil fun a25 h25=>?_
  refine hK21 _ _ ?_
  refine wp_seq_k fun K26 hK26=>?_
  refine rg h25 fun ops=>?_;clear h25 a25
  refine sm trivial rfl rfl ?_
  refine sne trivial rfl rfl rfl ?_
  refine St.nil fun a27 h27=>?_
  refine hK26 _ _ ?_
  refine fr_cond (t:=34) h27 rfl (fun hb=>?_) (fun hb=>?_)
  ·have h9:¬ (rangeC xk 0 ((lm:Int) - 1))=0:=bne_iff_ne.1 hb
   have hc28:¬ (rangeC xk 0 ((lm:Int) - 1))=0:=h9
   clear h9
   clear hb
   refine wp_seq_k fun K29 hK29=>?_
   refine rg h27 fun ops=>?_;clear h27 a27
   refine sm trivial rfl rfl ?_
   refine sa trivial rfl rfl ?_
   refine St.nil fun a30 h30=>?_
   refine hK29 _ _ ?_
   refine wp_ret ?_;with_reducible repeat first | refine of_then_ret ?_ | refine of_block_ret ?_
   have R:boundsC lm 14 xk rl al=rangeC xk 0 ((lm:Int) - 1):=by simp [boundsC,hc28]
   exact ret_tmp (t:=4) h30 rfl rfl ⟨by rw [R],hW24.bel⟩
  have h9:(rangeC xk 0 ((lm:Int) - 1))=0:=bne_eq_false_iff_eq.1 hb
  have hc31:Hid ((rangeC xk 0 ((lm:Int) - 1))=0):=h9
  clear h9
  clear hb
  refine wp_skip ?_
  refine hK20 _ _ ?_
  refine wp_seq_k fun K32 hK32=>?_
  refine rg h27 fun ops=>?_;clear h27 a27
  refine sfIns6 trivial rfl rfl ?_
  refine sbInts 0 hW24 trivial rfl rfl rfl rfl ?_
  refine sfIns7 trivial rfl rfl ?_
  refine sbInts 0 hW24 trivial rfl rfl rfl rfl ?_
  refine sc_3 cf148 hW24 (handedCode_any) trivial rfl rfl rfl rfl ?_
  clear hW24;intro w33 hW33
  refine sa trivial rfl rfl ?_
  refine St.nil fun a34 h34=>?_
  refine hK32 _ _ ?_
  refine wp_ret ?_;with_reducible repeat first | refine of_then_ret ?_ | refine of_block_ret ?_
  have R:boundsC lm 14 xk rl al=handedC rl 6 al:=by simp [boundsC,hc31.out]
  exact ret_tmp (t:=4) h34 rfl rfl ⟨by rw [R],hW33.bel⟩
theorem boundsNo {xop xa xb xc xk xn : Int} {ra aa : Option Addr} {rl rc al ac : Nat} {am : Option Addr} {lm cm : Nat} {w : World} (hlm : lm < 2305843009213693952) (h : xop ≠ 2 ∧ xop ≠ 6 ∧ xop ≠ 7 ∧ xop ≠ 5 ∧ xop ≠ 14) :
    Rd Tryz.prog 122 #[.agg #[.slice am lm cm],.agg #[.int .i64 xop,.int .i64 xa,.int .i64 xb,.int .i64 xc,.int .i64 xk,.int .i64 xn,.slice ra rl rc,.slice aa al ac]] w (.int .i64 (boundsC lm xop xk rl al)):=by
  refine fr_enter (n:=41) Tryz.func122 rfl rfl rfl ?_
  intro a hF
  have hW:=Wd.start w
  replace hF:Fr 41 a [(0,.agg #[.slice am lm cm]),(1,.agg #[.int .i64 xop,.int .i64 xa,.int .i64 xb,.int .i64 xc,.int .i64 xk,.int .i64 xn,.slice ra rl rc,.slice aa al ac])]:=hF
  refine wp_seq_k fun K1 hK1=>?_
  refine rg hF fun ops=>?_;clear hF a
  refine sB hW trivial rfl rfl ?_
  clear hW;intro w2 B2 hW2 hN;clear hN
  refine sB hW2 trivial rfl rfl ?_
  clear hW2;intro w3 B3 hW3 hN;clear hN
  refine sa trivial rfl rfl ?_
  refine St.nil fun a4 h4=>?_
  refine hK1 _ _ ?_
  refine wp_seq_k fun K5 hK5=>?_
  refine wp_seq_k fun K6 hK6=>?_
  refine rg h4 fun ops=>?_;clear h4 a4
  refine sfIns0 trivial rfl rfl ?_
  refine sbInt 0 hW3 trivial rfl rfl rfl rfl ?_
  refine St.nil fun a7 h7=>?_
  refine hK6 _ _ ?_
  refine wp_block ?_
  refine wp_seq_k fun K8 hK8=>?_
  refine rg h7 fun ops=>?_;clear h7 a7
  refine seq trivial rfl rfl rfl ?_
  refine sa trivial rfl rfl ?_
  refine St.nil fun a9 h9=>?_
  refine hK8 _ _ ?_
  refine fr_cond (t:=8) h9 rfl (fun hb=>?_) (fun hb=>?_)
  ·exact absurd (by simpa using hb) h.1
  clear hb
  refine wp_seq_k fun K10 hK10=>?_
  refine wp_seq_k fun K11 hK11=>?_
  refine rg h9 fun ops=>?_;clear h9 a9
  refine seq trivial rfl rfl rfl ?_
  refine sa trivial rfl rfl ?_
  refine St.nil fun a12 h12=>?_
  refine hK11 _ _ ?_
  refine fr_cond (t:=13) h12 rfl (fun hb=>?_) (fun hb=>?_)
  ·rw [hb] at h12
   exact absurd (by simpa using hb) h.2.1
  rw [hb] at h12
  clear hb
  refine rg h12 fun ops=>?_;clear h12 a12
  refine seq trivial rfl rfl rfl ?_
  refine sa trivial rfl rfl ?_
  refine St.nil fun a13 h13=>?_
  refine hK10 _ _ ?_
  refine fr_cond (t:=13) h13 rfl (fun hb=>?_) (fun hb=>?_)
  ·rw [hb] at h13
   exact absurd (by simpa using hb) h.2.2.1
  rw [hb] at h13
  clear hb
  refine wp_seq_k fun K14 hK14=>?_
  refine rg h13 fun ops=>?_;clear h13 a13
  refine seq trivial rfl rfl rfl ?_
  refine sa trivial rfl rfl ?_
  refine St.nil fun a15 h15=>?_
  refine hK14 _ _ ?_
  refine fr_cond (t:=19) h15 rfl (fun hb=>?_) (fun hb=>?_)
  ·exact absurd (by simpa using hb) h.2.2.2.1
  clear hb
  refine wp_seq_k fun K16 hK16=>?_
  refine rg h15 fun ops=>?_;clear h15 a15
  refine seq trivial rfl rfl rfl ?_
  refine sa trivial rfl rfl ?_
  refine St.nil fun a17 h17=>?_
  refine hK16 _ _ ?_
  refine fr_cond (t:=24) h17 rfl (fun hb=>?_) (fun hb=>?_)
  ·exact absurd (by simpa using hb) h.2.2.2.2
  clear hb
  refine wp_skip ?_
  refine hK5 _ _ ?_
  refine wp_seq_k fun K18 hK18=>?_
  refine rg h17 fun ops=>?_;clear h17 a17
  refine sa trivial rfl rfl ?_
  refine St.nil fun a19 h19=>?_
  refine hK18 _ _ ?_
  refine wp_ret ?_;with_reducible repeat first | refine of_then_ret ?_ | refine of_block_ret ?_
  have R:boundsC lm xop xk rl al=0:=by simp [boundsC,h.1,h.2.1,h.2.2.1,h.2.2.2.1,h.2.2.2.2]
  exact ret_tmp (t:=4) h19 rfl rfl ⟨by rw [R],hW3.bel⟩
end Go.Proofs.YtjodmledadbgeacGreatDoor
