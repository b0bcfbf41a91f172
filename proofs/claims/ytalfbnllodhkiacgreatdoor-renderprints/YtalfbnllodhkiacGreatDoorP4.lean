import Derived.Test.YtalfbnllodhkiacGreatDoorP3
set_option maxHeartbeats 16000000
set_option maxRecDepth 100000
namespace Go.Proofs.YtalfbnllodhkiacGreatDoor
open Go.ChangeShapes Go.WideShapes Go.ChangeAt Go.RowKit
set_option linter.unusedSimpArgs false
set_option linter.unusedVariables false
abbrev faultV (p : Int × Int) : Value := .agg #[.int .i64 p.1, .int .i64 p.2]
def atF (c p : Int) : Int × Int := if c = 0 then (0, 0) else (c, p)
theorem firstF_at {α : Type} {f : Nat → α → Int × Int} : ∀ {l : List α} {j : Nat}, firstF (fun i x => atF (f i x).1 (f i x).2) j l = firstF f j l
  | [],_=>rfl
  | x::xs,j=>by
    simp only [firstF,atF]
    by_cases h:(f j x).1=0
    · simp only [h,if_true,ne_eq,not_true_eq_false,if_false]
      exact firstF_at
    · simp [h]
def MFunc.code {n : Nat} (f : Nat) (x : MFunc n) : Int :=
  if x.regs<0∨6<x.regs then 1 else if listC x.regs x.params≠0 then listC x.regs x.params else if listC x.regs x.results≠0 then listC x.regs x.results
  else if x.blocks.length<1∨12<x.blocks.length then 2 else if f=0∧¬ (x.regs=0∧x.params.length=0∧x.results.all (fun t=>t.kind==1)=true) then 18 else 0
theorem MFunc.fault_eq {n : Nat} (funcs f : Nat) (x : MFunc n) : MFunc.fault funcs f x = if x.code f = 0 then firstF (fun b y => MBlock.fault funcs f x b y) 0 x.blocks else (x.code f, 10000 * (f : Int) + 9999) := by
  unfold MFunc.fault MFunc.code
  generalize listC x.regs x.params=lp
  generalize listC x.regs x.results=lr
  generalize firstF (fun b y=>MBlock.fault funcs f x b y) 0 x.blocks=ff
  repeat' split
  all_goals first | rfl | (exfalso;omega) | contradiction
def MBlock.code' {n : Nat} (fn : MFunc n) (b : Nat) (x : MBlock n) : Int :=
  if x.regs<fn.regs∨16<x.regs then 1 else if listC x.regs x.params≠0 then listC x.regs x.params
  else if b=0∧(x.regs≠fn.regs∨sameL x.params fn.params=false) then 9 else if 40<x.code.length then 2 else 0
theorem MBlock.fault_eq {n : Nat} (funcs f : Nat) (fn : MFunc n) (b : Nat) (x : MBlock n) : MBlock.fault funcs f fn b x =
    if x.code' fn b=0 then (if (firstF (fun i y=>(MIns.form funcs y,(10000*f+100*b+i:Int))) 0 x.code).1=0 then atF (x.fin.form fn.blocks.length) (10000*(f:Int)+100*(b:Int)+91)
      else firstF (fun i y=>(MIns.form funcs y,(10000*f+100*b+i:Int))) 0 x.code) else (x.code' fn b,10000*(f:Int)+100*(b:Int)+90):=by
  unfold MBlock.fault MBlock.code' atF
  generalize firstF (fun i y=>(MIns.form funcs y,(10000*f+100*b+i:Int))) 0 x.code=ff
  generalize x.fin.form fn.blocks.length=ef
  generalize listC x.regs x.params=lp
  repeat' split
  all_goals first | rfl | (exfalso;omega) | contradiction
def idxK {n : Nat} : Nat → List (TT n) → Int
  | _,[]=>-1
  | i,t::ts=>if t.kind=1 then idxK (i+1) ts else (i:Int)
theorem idxK_at {n : Nat} : ∀ (l : List (TT n)) (i j : Nat) (x : TT n), l[i]? = some x → (∀ k y, k < i → l[k]? = some y → y.kind = 1) → ¬ x.kind = 1 → idxK j l = ((j + i : Nat) : Int)
  | [],i,j,x,h,_,_=>by simp at h
  | y::ys,0,j,x,h,_,hx=>by
    simp at h;subst h
    simp [idxK,hx]
  | y::ys,i+1,j,x,h,hz,hx=>by
    have h0:y.kind=1:=hz 0 y (by omega) rfl
    simp only [idxK,h0,if_true]
    rw [idxK_at ys i (j+1) x (by simpa using h) (fun k z hk hkz=>hz (k+1) z (by omega) (by simpa using hkz)) hx]
    congr 1;omega
theorem idxK_no {n : Nat} : ∀ (l : List (TT n)) (j : Nat), (∀ (k : Nat) y, l[k]? = some y → y.kind = 1) → idxK j l = -1
  | [],_,_=>rfl
  | y::ys,j,h=>by
    have h0:y.kind=1:=h 0 y rfl
    simp only [idxK,h0,if_true]
    exact idxK_no ys (j+1) (fun k z hz=>h (k+1) z (by simpa using hz))
theorem idxK_iff {n : Nat} : ∀ (l : List (TT n)) (j : Nat), (0 ≤ idxK j l) ↔ ¬ l.all (fun t => t.kind == 1) = true
  | [],j=>by simp [idxK]
  | y::ys,j=>by
    by_cases h:y.kind=1
    · simp only [idxK,h,if_true,List.all_cons,beq_self_eq_true,Bool.true_and]
      exact idxK_iff ys (j+1)
    · simp [idxK,h]
theorem rd_typeFault {n : Nat} {t : TT n} {a : Option Addr} {c : Nat} {regs : Int} {w : World} (ht : TIn w All t a) (hc : t.count ≤ 100000) : Rd Tryz.prog 72 #[Tv t a c, .int .i64 regs] w (.int .i64 (t.check regs)) := typeFaultT_any n t a c regs w ht hc
theorem rd_check {n : Nat} {t : TT n} {a : Option Addr} {c : Nat} {regs : Int} {w : World} (ht : TIn w All t a) (hc : t.count ≤ 100000) : Rd Tryz.prog 171 #[Tv t a c, .int .i64 regs] w (.int .i64 (t.check regs)) := check_any n t a c regs w ht hc
theorem firstL_at {α : Type} {f : α → Int} : ∀ {l : List α} {i : Nat} {x : α}, l[i]? = some x → (∀ k y, k < i → l[k]? = some y → f y = 0) → f x ≠ 0 → firstL f l = f x
  | [],i,x,h,_,_=>by simp at h
  | y::ys,0,x,h,_,hf=>by
    simp at h;subst h
    simp [firstL,hf]
  | y::ys,i+1,x,h,hz,hf=>by
    have h0:f y=0:=hz 0 y (by omega) rfl
    simp only [firstL,h0,ne_eq,not_true_eq_false,if_false]
    exact firstL_at (by simpa using h) (fun k z hk hkz=>hz (k+1) z (by omega) (by simpa using hkz)) hf
theorem firstL_no {α : Type} {f : α → Int} : ∀ {l : List α}, (∀ (k : Nat) y, l[k]? = some y → f y = 0) → firstL f l = 0
  | [],_=>rfl
  | y::ys,h=>by
    have h0:f y=0:=h 0 y rfl
    simp only [firstL,h0,ne_eq,not_true_eq_false,if_false]
    exact firstL_no (fun k z hz=>h (k+1) z (by simpa using hz))
theorem listForm_any {n : Nat} {l : List (TT n)} {p : Option Addr} {c : Nat} {regs : Int} {w : World} (hl0 : (typesL n).In w All l [.slice p l.length c]) (hs0 : tsmall l) :
    Rd Tryz.prog 38 #[.slice p l.length c,.int .i64 regs] w (.int .i64 (listC regs l)):=by
  have hl:Hid _:=hl0
  have hs:Hid _:=hs0
  have hsb:=hs0.1
  clear hl0 hs0
  refine fr_enter (n:=25) Tryz.func38 rfl rfl rfl ?_
  intro a hF
  have hW:=Wd.start w
  replace hF:Fr 25 a [(0,.slice p l.length c),(1,.int .i64 regs)]:=hF
  refine wp_seq_k fun K1 hK1=>?_
  refine rg hF fun ops=>?_;clear hF a
  refine sa trivial rfl rfl ?_
  refine St.nil fun a2 h2=>?_
  refine hK1 _ _ ?_
  refine wp_seq_k fun K3 hK3=>?_
  refine wp_seq_k fun K4 hK4=>?_
  refine rg h2 fun ops=>?_;clear h2 a2
  refine sm trivial rfl rfl ?_
  refine slTypes trivial rfl rfl ?_
  refine sgt trivial rfl rfl rfl ?_
  refine St.nil fun a5 h5=>?_
  refine hK4 _ _ ?_
  refine fr_cond (t:=9) h5 rfl (fun hb=>?_) (fun hb=>?_)
  ·have hbig:8<l.length:=by have:=of_decide_eq_true hb;omega
   clear hb
   refine wp_seq_k fun K6 hK6=>?_
   refine rg h5 fun ops=>?_;clear h5 a5
   refine sa trivial rfl rfl ?_
   refine St.nil fun a7 h7=>?_
   refine hK6 _ _ ?_
   refine wp_ret ?_;with_reducible repeat first | refine of_then_ret ?_ | refine of_block_ret ?_
   have R:listC regs l=2:=by unfold listC;rw [if_pos hbig]
   exact ret_tmp (t:=4) h7 rfl rfl ⟨by rw [R],hW.bel⟩
  have hbig:¬ (8<l.length):=by have:=of_decide_eq_false hb;omega
  clear hb
  refine wp_skip ?_
  refine hK3 _ _ ?_
  refine wp_seq_k fun K8 hK8=>?_
  refine wp_seq_k fun K9 hK9=>?_
  refine rg h5 fun ops=>?_;clear h5 a5
  refine sa trivial rfl rfl ?_
  refine St.nil fun a10 h10=>?_
  refine hK9 _ _ ?_
  refine wp_block ?_
  refine fr_loop (fun r a w'=>∃ q:Nat,q≤l.length∧r=l.length - q∧(∀ (j:Nat) y,j<q→l[j]?=some y→y.check regs=0)∧Fr 25 a [(1,.int .i64 regs),(0,.slice p l.length c),(4,.int .i64 0),(5,.int .i64 (q:Int))]∧Wd w w' []) (l.length) ⟨0,Nat.zero_le _,rfl,(fun j y hj=>by omega),(h10.keep (h10.keep (h10.keep (h10.keep h10.nil (t:=5) rfl) (t:=4) rfl) (t:=0) rfl) (t:=1) rfl),hW⟩ ?_
  clear h10 hW
  rintro r a11 w11 ⟨q,hq,hr,hall,hF11,hW11⟩ KL hKL
  refine wp_seq_k fun K12 hK12=>?_
  refine wp_seq_k fun K13 hK13=>?_
  refine rg hF11 fun ops=>?_;clear hF11 a11
  refine sm trivial rfl rfl ?_
  refine sm trivial rfl rfl ?_
  refine slTypes trivial rfl rfl ?_
  refine slt trivial rfl rfl rfl ?_
  refine St.nil fun a14 h14=>?_
  refine hK13 _ _ ?_
  refine fr_cond (t:=13) h14 rfl (fun hb=>?_) (fun hb=>?_)
  ·have hlt1:q<l.length:=by have:=of_decide_eq_true hb;omega
   clear hb
   obtain ⟨t,hx1⟩:∃ v9,(l)[q]?=some v9:=⟨_,List.getElem?_eq_getElem hlt1⟩
   obtain ⟨g1,o1,pt1,ct1,hp1,E1,In1⟩:=lin_at (types_lin hl.out).1 hx1
   replace In1:Hid _:=In1
   replace hp1:Hid _:=hp1
   replace hx1:Hid _:=hx1
   replace E1:Hid _:=E1
   refine wp_skip ?_
   refine hK12 _ _ ?_
   refine wp_seq_k fun K15 hK15=>?_
   refine wp_block ?_
   refine wp_seq_k fun K16 hK16=>?_
   refine rg h14 fun ops=>?_;clear h14 a14
   refine sm trivial rfl rfl ?_
   refine sm trivial rfl rfl ?_
   refine siTypes hp1.out hlt1 trivial rfl rfl rfl ?_
   refine sSE Tryz.underlying78 rfl (rangeAt_bel E1.out hW11.bel) infType trivial rfl rfl ?_
   refine sm trivial rfl rfl ?_
   refine sc_2 cf72 hW11 (rd_typeFault (c:=ct1) (regs:=regs) (TIn.below In1.out hW11.bel) (hs.out.2 _ (List.mem_of_getElem? hx1.out))) trivial rfl rfl rfl ?_
   clear hW11;intro w17 hW17
   refine sa trivial rfl rfl ?_
   refine St.nil fun a18 h18=>?_
   refine hK16 _ _ ?_
   refine wp_seq_k fun K19 hK19=>?_
   refine rg h18 fun ops=>?_;clear h18 a18
   refine sm trivial rfl rfl ?_
   refine sne trivial rfl rfl rfl ?_
   refine St.nil fun a20 h20=>?_
   refine hK19 _ _ ?_
   refine fr_cond (t:=23) h20 rfl (fun hb=>?_) (fun hb=>?_)
   ·have h9:¬ (t.check regs)=0:=bne_iff_ne.1 hb
    have hne:¬ (t.check regs)=0:=h9
    clear h9
    clear hb
    refine wp_seq_k fun K21 hK21=>?_
    refine rg h20 fun ops=>?_;clear h20 a20
    refine sm trivial rfl rfl ?_
    refine sa trivial rfl rfl ?_
    refine St.nil fun a22 h22=>?_
    refine hK21 _ _ ?_
    refine wp_ret ?_;with_reducible repeat first | refine of_then_ret ?_ | refine of_block_ret ?_
    have R:listC regs l=t.check regs:=by unfold listC;rw [if_neg hbig];exact firstL_at hx1.out (fun k y hk hy=>hall k y hk hy) hne
    exact ret_tmp (t:=4) h22 rfl rfl ⟨by rw [R],hW17.bel⟩
   have h9:(t.check regs)=0:=bne_eq_false_iff_eq.1 hb
   have hne:Hid ((t.check regs)=0):=h9
   clear h9
   clear hb
   refine wp_skip ?_
   refine hK15 _ _ ?_
   refine rg h20 fun ops=>?_;clear h20 a20
   refine sm trivial rfl rfl ?_
   refine sad (by omega) trivial rfl rfl rfl ?_
   refine sa trivial rfl rfl ?_
   refine St.nil fun a23 h23=>?_
   refine hKL _ _ (l.length - (q+1)) (by omega) ⟨q+1,by omega,rfl,?_,(h23.keep (h23.keep (h23.keep (h23.keep h23.nil (t:=5) rfl) (t:=4) rfl) (t:=0) rfl) (t:=1) rfl),hW17⟩
   ·intro j y hj hy
    by_cases e:j=q
    · subst e;rw [hx1.out] at hy;cases hy;exact hne.out
    · exact hall j y (by omega) hy
  have hge:q=l.length:=by have:=of_decide_eq_false hb;omega
  clear hb
  refine wp_exit ?_
  refine hK8 _ _ ?_
  refine wp_seq_k fun K24 hK24=>?_
  refine rg h14 fun ops=>?_;clear h14 a14
  refine sa trivial rfl rfl ?_
  refine St.nil fun a25 h25=>?_
  refine hK24 _ _ ?_
  refine wp_ret ?_;with_reducible repeat first | refine of_then_ret ?_ | refine of_block_ret ?_
  have R:listC regs l=0:=by unfold listC;rw [if_neg hbig];exact firstL_no (fun k y hy=>hall k y (by have:=(List.getElem?_eq_some_iff.1 hy).1;omega) hy)
  exact ret_tmp (t:=4) h25 rfl rfl ⟨by rw [R],hW11.bel⟩
theorem typesCode_any {n : Nat} {l : List (TT n)} {p : Option Addr} {c : Nat} {regs : Int} {w : World} (hl0 : (typesL n).In w All l [.slice p l.length c]) (hs0 : tsmall l) :
    Rd Tryz.prog 134 #[.slice p l.length c,.int .i64 regs] w (.int .i64 (listC regs l)):=by
  have hl:Hid _:=hl0
  have hs:Hid _:=hs0
  have hsb:=hs0.1
  clear hl0 hs0
  refine fr_enter (n:=24) Tryz.func134 rfl rfl rfl ?_
  intro a hF
  have hW:=Wd.start w
  replace hF:Fr 24 a [(0,.slice p l.length c),(1,.int .i64 regs)]:=hF
  refine wp_seq_k fun K1 hK1=>?_
  refine rg hF fun ops=>?_;clear hF a
  refine sa trivial rfl rfl ?_
  refine St.nil fun a2 h2=>?_
  refine hK1 _ _ ?_
  refine wp_seq_k fun K3 hK3=>?_
  refine wp_seq_k fun K4 hK4=>?_
  refine rg h2 fun ops=>?_;clear h2 a2
  refine sm trivial rfl rfl ?_
  refine slTypes trivial rfl rfl ?_
  refine sgt trivial rfl rfl rfl ?_
  refine St.nil fun a5 h5=>?_
  refine hK4 _ _ ?_
  refine fr_cond (t:=10) h5 rfl (fun hb=>?_) (fun hb=>?_)
  ·have hbig:8<l.length:=by have:=of_decide_eq_true hb;omega
   clear hb
   refine wp_seq_k fun K6 hK6=>?_
   refine rg h5 fun ops=>?_;clear h5 a5
   refine sa trivial rfl rfl ?_
   refine St.nil fun a7 h7=>?_
   refine hK6 _ _ ?_
   refine wp_ret ?_;with_reducible repeat first | refine of_then_ret ?_ | refine of_block_ret ?_
   have R:listC regs l=2:=by unfold listC;rw [if_pos hbig]
   exact ret_tmp (t:=4) h7 rfl rfl ⟨by rw [R],hW.bel⟩
  have hbig:¬ (8<l.length):=by have:=of_decide_eq_false hb;omega
  clear hb
  refine wp_skip ?_
  refine hK3 _ _ ?_
  refine wp_seq_k fun K8 hK8=>?_
  refine wp_seq_k fun K9 hK9=>?_
  refine rg h5 fun ops=>?_;clear h5 a5
  refine sm trivial rfl rfl ?_
  refine slTypes trivial rfl rfl ?_
  refine sm trivial rfl rfl ?_
  refine St.nil fun a10 h10=>?_
  refine hK9 _ _ ?_
  refine wp_block ?_
  refine fr_loop (fun r a w'=>∃ q:Nat,q≤l.length∧r=l.length - q∧(∀ (j:Nat) y,j<q→l[j]?=some y→y.check regs=0)∧Fr 24 a [(1,.int .i64 regs),(0,.slice p l.length c),(4,.int .i64 0),(11,.slice p l.length c),(12,.int .i64 (l.length:Int)),(13,.int .i64 (q:Int))]∧Wd w w' []) (l.length) ⟨0,Nat.zero_le _,rfl,(fun j y hj=>by omega),(h10.keep (h10.keep (h10.keep (h10.keep (h10.keep (h10.keep h10.nil (t:=13) rfl) (t:=12) rfl) (t:=11) rfl) (t:=4) rfl) (t:=0) rfl) (t:=1) rfl),hW⟩ ?_
  clear h10 hW
  rintro r a11 w11 ⟨q,hq,hr,hall,hF11,hW11⟩ KL hKL
  refine wp_seq_k fun K12 hK12=>?_
  refine rg hF11 fun ops=>?_;clear hF11 a11
  refine slt trivial rfl rfl rfl ?_
  refine St.nil fun a13 h13=>?_
  refine hK12 _ _ ?_
  refine wp_seq_k fun K14 hK14=>?_
  refine fr_cond (t:=14) h13 rfl (fun hb=>?_) (fun hb=>?_)
  ·have hlt1:q<l.length:=by have:=of_decide_eq_true hb;omega
   clear hb
   obtain ⟨t,hx1⟩:∃ v9,(l)[q]?=some v9:=⟨_,List.getElem?_eq_getElem hlt1⟩
   obtain ⟨g1,o1,pt1,ct1,hp1,E1,In1⟩:=lin_at (types_lin hl.out).1 hx1
   replace In1:Hid _:=In1
   replace hp1:Hid _:=hp1
   replace hx1:Hid _:=hx1
   replace E1:Hid _:=E1
   refine wp_skip ?_
   refine hK14 _ _ ?_
   refine wp_seq_k fun K15 hK15=>?_
   refine wp_block ?_
   refine wp_seq_k fun K16 hK16=>?_
   refine rg h13 fun ops=>?_;clear h13 a13
   refine siTypes hp1.out hlt1 trivial rfl rfl rfl ?_
   refine sSE Tryz.underlying78 rfl (rangeAt_bel E1.out hW11.bel) infType trivial rfl rfl ?_
   refine sAType hW11 trivial rfl ?_
   clear hW11;intro w17 B17 hW17 hN;clear hN
   refine sT 0 hW17 rfl rfl infType rfl rfl rfl ?_
   clear hW17;intro w18 hW18
   refine St.nil fun a19 h19=>?_
   refine hK16 _ _ ?_
   refine wp_seq_k fun K20 hK20=>?_
   refine rg h19 fun ops=>?_;clear h19 a19
   refine sS 0 3 Tryz.underlying78 rfl infType hW18 trivial rfl rfl rfl rfl ?_
   refine sm trivial rfl rfl ?_
   refine sc_2 cf171 hW18 (rd_check (c:=ct1) (regs:=regs) (TIn.below In1.out hW18.bel) (hs.out.2 _ (List.mem_of_getElem? hx1.out))) trivial rfl rfl rfl ?_
   clear hW18;intro w21 hW21
   refine sa trivial rfl rfl ?_
   refine St.nil fun a22 h22=>?_
   refine hK20 _ _ ?_
   refine wp_seq_k fun K23 hK23=>?_
   refine rg h22 fun ops=>?_;clear h22 a22
   refine sm trivial rfl rfl ?_
   refine sne trivial rfl rfl rfl ?_
   refine St.nil fun a24 h24=>?_
   refine hK23 _ _ ?_
   refine fr_cond (t:=21) h24 rfl (fun hb=>?_) (fun hb=>?_)
   ·have h9:¬ (t.check regs)=0:=bne_iff_ne.1 hb
    have hne:¬ (t.check regs)=0:=h9
    clear h9
    clear hb
    refine wp_seq_k fun K25 hK25=>?_
    refine rg h24 fun ops=>?_;clear h24 a24
    refine sm trivial rfl rfl ?_
    refine sa trivial rfl rfl ?_
    refine St.nil fun a26 h26=>?_
    refine hK25 _ _ ?_
    refine wp_ret ?_;with_reducible repeat first | refine of_then_ret ?_ | refine of_block_ret ?_
    have R:listC regs l=t.check regs:=by unfold listC;rw [if_neg hbig];exact firstL_at hx1.out (fun k y hk hy=>hall k y hk hy) hne
    exact ret_tmp (t:=4) h26 rfl rfl ⟨by rw [R],hW21.bel⟩
   have h9:(t.check regs)=0:=bne_eq_false_iff_eq.1 hb
   have hne:Hid ((t.check regs)=0):=h9
   clear h9
   clear hb
   refine wp_skip ?_
   refine hK15 _ _ ?_
   refine rg h24 fun ops=>?_;clear h24 a24
   refine sad (by omega) trivial rfl rfl rfl ?_
   refine sm trivial rfl rfl ?_
   refine St.nil fun a27 h27=>?_
   refine hKL _ _ (l.length - (q+1)) (by omega) ⟨q+1,by omega,rfl,?_,(h27.keep (h27.keep (h27.keep (h27.keep (h27.keep (h27.keep h27.nil (t:=13) rfl) (t:=12) rfl) (t:=11) rfl) (t:=4) rfl) (t:=0) rfl) (t:=1) rfl),hW21.tail⟩
   ·intro j y hj hy
    by_cases e:j=q
    · subst e;rw [hx1.out] at hy;cases hy;exact hne.out
    · exact hall j y (by omega) hy
  have hge:q=l.length:=by have:=of_decide_eq_false hb;omega
  clear hb
  refine wp_exit ?_
  refine hK8 _ _ ?_
  refine wp_seq_k fun K28 hK28=>?_
  refine rg h13 fun ops=>?_;clear h13 a13
  refine sa trivial rfl rfl ?_
  refine St.nil fun a29 h29=>?_
  refine hK28 _ _ ?_
  refine wp_ret ?_;with_reducible repeat first | refine of_then_ret ?_ | refine of_block_ret ?_
  have R:listC regs l=0:=by unfold listC;rw [if_neg hbig];exact firstL_no (fun k y hy=>hall k y (by have:=(List.getElem?_eq_some_iff.1 hy).1;omega) hy)
  exact ret_tmp (t:=4) h29 rfl rfl ⟨by rw [R],hW11.bel⟩
theorem faultAt_any {xc xp : Int} {w : World} :
    Rd Tryz.prog 105 #[.int .i64 xc,.int .i64 xp] w (faultV (atF xc xp)):=by
  refine fr_enter (n:=11) Tryz.func105 rfl rfl rfl ?_
  intro a hF
  have hW:=Wd.start w
  replace hF:Fr 11 a [(0,.int .i64 xc),(1,.int .i64 xp)]:=hF
  refine wp_seq_k fun K1 hK1=>?_
  refine rg hF fun ops=>?_;clear hF a
  refine sAFault hW trivial rfl ?_
  clear hW;intro w2 B2 hW2 hN;clear hN
  refine St.nil fun a3 h3=>?_
  refine hK1 _ _ ?_
  refine wp_seq_k fun K4 hK4=>?_
  refine wp_seq_k fun K5 hK5=>?_
  refine rg h3 fun ops=>?_;clear h3 a3
  refine sm trivial rfl rfl ?_
  refine seq trivial rfl rfl rfl ?_
  refine St.nil fun a6 h6=>?_
  refine hK5 _ _ ?_
  refine fr_cond (t:=6) h6 rfl (fun hb=>?_) (fun hb=>?_)
  ·have h9:xc=0:=eq_of_beq hb
   have hc7:Hid (xc=0):=h9
   clear h9
   clear hb
   refine wp_seq_k fun K8 hK8=>?_
   refine rg h6 fun ops=>?_;clear h6 a6
   intro a9 h9
   refine fr_pure (t:=7) (v:=.agg #[.int .i64 0,.int .i64 0]) (w':=w2) h9 rfl rfl rfl (fun K hK=>?_) ?_
   ·go_simp
    exact hK
   clear h9;intro a10 hF10
   refine St.go hF10 ?_;clear hF10 a10
   refine sT 0 hW2 rfl rfl infFault rfl rfl rfl ?_
   clear hW2;intro w11 hW11
   refine St.nil fun a12 h12=>?_
   refine hK8 _ _ ?_
   refine wp_ret ?_;with_reducible repeat first | refine of_then_ret ?_ | refine of_block_ret ?_
   have R:atF xc xp=(0,0):=by simp [atF,hc7.out]
   exact ret_box 0 h12 hW11 rfl rfl rfl Tryz.underlying27 rfl infFault ⟨by show Ending.returned (.agg #[.int .i64 0,.int .i64 0])=_;rw [R],hW11.bel⟩
  have h9:¬ xc=0:=ne_of_beq_false hb
  have hc13:¬ xc=0:=h9
  clear h9
  clear hb
  refine wp_skip ?_
  refine hK4 _ _ ?_
  refine wp_seq_k fun K14 hK14=>?_
  refine rg h6 fun ops=>?_;clear h6 a6
  refine sm trivial rfl rfl ?_
  refine sm trivial rfl rfl ?_
  intro a15 h15
  refine fr_pure (t:=10) (v:=.agg #[.int .i64 xc,.int .i64 xp]) (w':=w2) h15 rfl rfl rfl (fun K hK=>?_) ?_
  ·have k0:a15.tmps[8]?.getD undef=.int .i64 xc:=h15.sl2 8 _ rfl
   have k1:a15.tmps[9]?.getD undef=.int .i64 xp:=h15.sl2 9 _ rfl
   go_simp
   exact hK
  clear h15;intro a16 hF16
  refine St.go hF16 ?_;clear hF16 a16
  refine sT 0 hW2 rfl rfl infFault rfl rfl rfl ?_
  clear hW2;intro w17 hW17
  refine St.nil fun a18 h18=>?_
  refine hK14 _ _ ?_
  refine wp_ret ?_;with_reducible repeat first | refine of_then_ret ?_ | refine of_block_ret ?_
  have R:atF xc xp=(xc,xp):=by simp [atF,hc13]
  exact ret_box 0 h18 hW17 rfl rfl rfl Tryz.underlying27 rfl infFault ⟨by show Ending.returned (.agg #[.int .i64 xc,.int .i64 xp])=_;rw [R],hW17.bel⟩
theorem fF_any {xc xp : Int} {w : World} :
    Rd Tryz.prog 36 #[.int .i64 xc,.int .i64 xp] w (faultV (xc,xp)):=by
  refine fr_enter (n:=8) Tryz.func36 rfl rfl rfl ?_
  intro a hF
  have hW:=Wd.start w
  replace hF:Fr 8 a [(0,.int .i64 xc),(1,.int .i64 xp)]:=hF
  refine wp_seq_k fun K1 hK1=>?_
  refine rg hF fun ops=>?_;clear hF a
  refine sAFault hW trivial rfl ?_
  clear hW;intro w2 B2 hW2 hN;clear hN
  refine St.nil fun a3 h3=>?_
  refine hK1 _ _ ?_
  refine wp_seq_k fun K4 hK4=>?_
  refine rg h3 fun ops=>?_;clear h3 a3
  refine sm trivial rfl rfl ?_
  refine sm trivial rfl rfl ?_
  intro a5 h5
  refine fr_pure (t:=7) (v:=.agg #[.int .i64 xc,.int .i64 xp]) (w':=w2) h5 rfl rfl rfl (fun K hK=>?_) ?_
  ·have k0:a5.tmps[5]?.getD undef=.int .i64 xc:=h5.sl2 5 _ rfl
   have k1:a5.tmps[6]?.getD undef=.int .i64 xp:=h5.sl2 6 _ rfl
   go_simp
   exact hK
  clear h5;intro a6 hF6
  refine St.go hF6 ?_;clear hF6 a6
  refine sT 0 hW2 rfl rfl infFault rfl rfl rfl ?_
  clear hW2;intro w7 hW7
  refine St.nil fun a8 h8=>?_
  refine hK4 _ _ ?_
  refine wp_ret ?_;with_reducible repeat first | refine of_then_ret ?_ | refine of_block_ret ?_
  exact ret_box 0 h8 hW7 rfl rfl rfl Tryz.underlying27 rfl infFault ⟨rfl,hW7.bel⟩
theorem canB1_any {tk tr : Int} {tp : Option Addr} {tl tc : Nat} {w : World} :
    Rd Tryz.prog 173 #[.agg #[.int .i64 tk,.int .i64 tr,.slice tp tl tc]] w (.bool (tk != 1)):=by
  refine fr_enter (n:=6) Tryz.func173 rfl rfl rfl ?_
  intro a hF
  have hW:=Wd.start w
  replace hF:Fr 6 a [(0,.agg #[.int .i64 tk,.int .i64 tr,.slice tp tl tc])]:=hF
  refine wp_seq_k fun K1 hK1=>?_
  refine rg hF fun ops=>?_;clear hF a
  refine sB hW trivial rfl rfl ?_
  clear hW;intro w2 B2 hW2 hN;clear hN
  refine sa trivial rfl rfl ?_
  refine St.nil fun a3 h3=>?_
  refine hK1 _ _ ?_
  refine wp_seq_k fun K4 hK4=>?_
  refine rg h3 fun ops=>?_;clear h3 a3
  refine sfType0 trivial rfl rfl ?_
  refine sbInt 0 hW2 trivial rfl rfl rfl rfl ?_
  refine sne trivial rfl rfl rfl ?_
  refine sa trivial rfl rfl ?_
  refine St.nil fun a5 h5=>?_
  refine hK4 _ _ ?_
  refine wp_ret ?_;with_reducible repeat first | refine of_then_ret ?_ | refine of_block_ret ?_
  exact ret_tmp (t:=2) h5 rfl rfl ⟨rfl,hW2.bel⟩
theorem indexF_any {n : Nat} {l : List (TT n)} {p : Option Addr} {c : Nat} {w : World} (hl0 : (typesL n).In w All l [.slice p l.length c]) (hsb : l.length ≤ 200) :
    Rd Tryz.prog 205 #[.slice p l.length c,.func (.func 173) #[] #[]] w (.int .i64 (idxK 0 l)):=by
  have hl:Hid _:=hl0
  clear hl0
  refine fr_enter (n:=19) Tryz.func205 rfl rfl rfl ?_
  intro a hF
  have hW:=Wd.start w
  replace hF:Fr 19 a [(0,.slice p l.length c),(1,.func (.func 173) #[] #[])]:=hF
  refine wp_seq_k fun K1 hK1=>?_
  refine rg hF fun ops=>?_;clear hF a
  refine sa trivial rfl rfl ?_
  refine St.nil fun a2 h2=>?_
  refine hK1 _ _ ?_
  refine wp_seq_k fun K3 hK3=>?_
  refine wp_seq_k fun K4 hK4=>?_
  refine rg h2 fun ops=>?_;clear h2 a2
  refine sm trivial rfl rfl ?_
  refine slTypes trivial rfl rfl ?_
  refine sm trivial rfl rfl ?_
  refine St.nil fun a5 h5=>?_
  refine hK4 _ _ ?_
  refine wp_block ?_
  refine fr_loop (fun r a w'=>∃ q:Nat,q≤l.length∧r=l.length - q∧(∀ (j:Nat) y,j<q→l[j]?=some y→y.kind=1)∧Fr 19 a [(1,.func (.func 173) #[] #[]),(0,.slice p l.length c),(4,.int .i64 0),(7,.int .i64 (l.length:Int)),(8,.int .i64 (q:Int))]∧Wd w w' []) (l.length) ⟨0,Nat.zero_le _,rfl,(fun j y hj=>by omega),(h5.keep (h5.keep (h5.keep (h5.keep (h5.keep h5.nil (t:=8) rfl) (t:=7) rfl) (t:=4) rfl) (t:=0) rfl) (t:=1) rfl),hW⟩ ?_
  clear h5 hW
  rintro r a6 w6 ⟨q,hq,hr,hall,hF6,hW6⟩ KL hKL
  refine wp_seq_k fun K7 hK7=>?_
  refine rg hF6 fun ops=>?_;clear hF6 a6
  refine slt trivial rfl rfl rfl ?_
  refine St.nil fun a8 h8=>?_
  refine hK7 _ _ ?_
  refine wp_seq_k fun K9 hK9=>?_
  refine fr_cond (t:=9) h8 rfl (fun hb=>?_) (fun hb=>?_)
  ·have hlt1:q<l.length:=by have:=of_decide_eq_true hb;omega
   clear hb
   obtain ⟨t,hx1⟩:∃ v9,(l)[q]?=some v9:=⟨_,List.getElem?_eq_getElem hlt1⟩
   obtain ⟨g1,o1,pt1,ct1,hp1,E1,In1⟩:=lin_at (types_lin hl.out).1 hx1
   replace In1:Hid _:=In1
   replace hp1:Hid _:=hp1
   replace hx1:Hid _:=hx1
   replace E1:Hid _:=E1
   refine wp_skip ?_
   refine hK9 _ _ ?_
   refine wp_seq_k fun K10 hK10=>?_
   refine wp_block ?_
   refine wp_seq_k fun K11 hK11=>?_
   refine rg h8 fun ops=>?_;clear h8 a8
   refine sm trivial rfl rfl ?_
   refine sa trivial rfl rfl ?_
   refine St.nil fun a12 h12=>?_
   refine hK11 _ _ ?_
   refine wp_seq_k fun K13 hK13=>?_
   refine rg h12 fun ops=>?_;clear h12 a12
   refine sm trivial rfl rfl ?_
   refine sm trivial rfl rfl ?_
   refine sm trivial rfl rfl ?_
   refine siTypes hp1.out hlt1 trivial rfl rfl rfl ?_
   refine sSE Tryz.underlying78 rfl (rangeAt_bel E1.out hW6.bel) infType trivial rfl rfl ?_
   refine sv_10 cf173 hW6 (canB1_any) trivial rfl rfl rfl ?_
   clear hW6;intro w14 hW14
   refine St.nil fun a15 h15=>?_
   refine hK13 _ _ ?_
   refine fr_cond (t:=16) h15 rfl (fun hb=>?_) (fun hb=>?_)
   ·have h9:¬ t.kind=1:=bne_iff_ne.1 hb
    have hne:¬ t.kind=1:=h9
    clear h9
    clear hb
    refine wp_seq_k fun K16 hK16=>?_
    refine rg h15 fun ops=>?_;clear h15 a15
    refine sm trivial rfl rfl ?_
    refine sa trivial rfl rfl ?_
    refine St.nil fun a17 h17=>?_
    refine hK16 _ _ ?_
    refine wp_ret ?_;with_reducible repeat first | refine of_then_ret ?_ | refine of_block_ret ?_
    have R:idxK 0 l=(q:Int):=by have:=idxK_at l q 0 t hx1.out (fun k y hk hy=>hall k y hk hy) hne;rwa [Nat.zero_add] at this
    exact ret_tmp (t:=4) h17 rfl rfl ⟨by rw [R],hW14.bel⟩
   have h9:t.kind=1:=bne_eq_false_iff_eq.1 hb
   have hne:Hid (t.kind=1):=h9
   clear h9
   clear hb
   refine wp_skip ?_
   refine hK10 _ _ ?_
   refine rg h15 fun ops=>?_;clear h15 a15
   refine sad (by omega) trivial rfl rfl rfl ?_
   refine sm trivial rfl rfl ?_
   refine St.nil fun a18 h18=>?_
   refine hKL _ _ (l.length - (q+1)) (by omega) ⟨q+1,by omega,rfl,?_,(h18.keep (h18.keep (h18.keep (h18.keep (h18.keep h18.nil (t:=8) rfl) (t:=7) rfl) (t:=4) rfl) (t:=0) rfl) (t:=1) rfl),hW14⟩
   ·intro j y hj hy
    by_cases e:j=q
    · subst e;rw [hx1.out] at hy;cases hy;exact hne.out
    · exact hall j y (by omega) hy
  have hge:q=l.length:=by have:=of_decide_eq_false hb;omega
  clear hb
  refine wp_exit ?_
  refine hK3 _ _ ?_
  refine wp_seq_k fun K19 hK19=>?_
  refine rg h8 fun ops=>?_;clear h8 a8
  refine sa trivial rfl rfl ?_
  refine St.nil fun a20 h20=>?_
  refine hK19 _ _ ?_
  refine wp_ret ?_;with_reducible repeat first | refine of_then_ret ?_ | refine of_block_ret ?_
  have R:idxK 0 l=-1:=idxK_no l 0 (fun k y hy=>hall k y (by have:=(List.getElem?_eq_some_iff.1 hy).1;omega) hy)
  exact ret_tmp (t:=4) h20 rfl rfl ⟨by rw [R],hW6.bel⟩
theorem containsF_any {n : Nat} {l : List (TT n)} {p : Option Addr} {c : Nat} {w : World} (hl0 : (typesL n).In w All l [.slice p l.length c]) (hsb : l.length ≤ 200) :
    Rd Tryz.prog 172 #[.slice p l.length c,.func (.func 173) #[] #[]] w (.bool (decide (0≤idxK 0 l))):=by
  have hl:Hid _:=hl0
  clear hl0
  refine fr_enter (n:=9) Tryz.func172 rfl rfl rfl ?_
  intro a hF
  have hW:=Wd.start w
  replace hF:Fr 9 a [(0,.slice p l.length c),(1,.func (.func 173) #[] #[])]:=hF
  refine wp_seq_k fun K1 hK1=>?_
  refine rg hF fun ops=>?_;clear hF a
  refine sa trivial rfl rfl ?_
  refine St.nil fun a2 h2=>?_
  refine hK1 _ _ ?_
  refine wp_seq_k fun K3 hK3=>?_
  refine rg h2 fun ops=>?_;clear h2 a2
  refine sm trivial rfl rfl ?_
  refine sm trivial rfl rfl ?_
  refine sc_2 cf205 hW (indexF_any (Lay.below hl.out hW.bel) hsb) trivial rfl rfl rfl ?_
  clear hW;intro w4 hW4
  refine sge trivial rfl rfl rfl ?_
  refine sa trivial rfl rfl ?_
  refine St.nil fun a5 h5=>?_
  refine hK3 _ _ ?_
  refine wp_ret ?_;with_reducible repeat first | refine of_then_ret ?_ | refine of_block_ret ?_
  exact ret_tmp (t:=4) h5 rfl rfl ⟨rfl,hW4.bel⟩
def MFunc.begins {n : Nat} (x : MFunc n) : Prop := x.regs = 0 ∧ x.params.length = 0 ∧ x.results.all (fun t => t.kind == 1) = true
def MBlock.takes {n : Nat} (fn : MFunc n) (x : MBlock n) : Prop := x.regs = fn.regs ∧ x.params = fn.params
theorem takes_no {n : Nat} {fn : MFunc n} {x : MBlock n} (h : ¬ x.takes fn) : x.regs ≠ fn.regs ∨ sameL x.params fn.params = false := by
  by_cases h1:x.regs=fn.regs
  · refine .inr ?_
    cases e:sameL x.params fn.params with
    | false=>rfl
    | true=>exact absurd ⟨h1,sameL_iff.1 e⟩ h
  · exact .inl h1
theorem takes_yes {n : Nat} {fn : MFunc n} {x : MBlock n} (h : x.takes fn) : ¬ (x.regs ≠ fn.regs ∨ sameL x.params fn.params = false) := by
  rintro (h1 | h1)
  · exact h1 h.1
  · rw [sameL_iff.2 h.2] at h1;cases h1
theorem canBegin_any {n : Nat} {m : List (MFunc n)} {p : Option Addr} {c : Nat} {x : MFunc n} {fp : FP} {fi : Nat} {w : World} (hx0 : FIn w All x fp) (hs0 : x.small) :
    Rd Tryz.prog 135 #[.agg #[.slice p m.length c,.int .i64 x.regs,.slice fp.pP x.params.length fp.cP,.slice fp.pR x.results.length fp.cR,.slice fp.pB x.blocks.length fp.cB,.int .i64 (fi:Int)]] w (.bool (bdec x.begins)):=by
  have hx:Hid _:=hx0
  have hs:Hid _:=hs0
  clear hx0 hs0
  refine fr_enter (n:=21) Tryz.func135 rfl rfl rfl ?_
  intro a hF
  have hW:=Wd.start w
  replace hF:Fr 21 a [(0,.agg #[.slice p m.length c,.int .i64 x.regs,.slice fp.pP x.params.length fp.cP,.slice fp.pR x.results.length fp.cR,.slice fp.pB x.blocks.length fp.cB,.int .i64 (fi:Int)])]:=hF
  refine wp_seq_k fun K1 hK1=>?_
  refine rg hF fun ops=>?_;clear hF a
  refine sB hW trivial rfl rfl ?_
  clear hW;intro w2 B2 hW2 hN;clear hN
  refine sa trivial rfl rfl ?_
  refine St.nil fun a3 h3=>?_
  refine hK1 _ _ ?_
  refine wp_seq_k fun K4 hK4=>?_
  refine fr_region ?_
  intro ops hops
  have hg4:(ops[4]?).bind (fun o:Oper=>o.dst)=some 7:=hops 4
  have hg11:(ops[11]?).bind (fun o:Oper=>o.dst)=some 14:=hops 11
  clear hops
  refine St.go h3 ?_;clear h3 a3
  refine sffuncLook1 trivial rfl rfl ?_
  refine sfFunc0 trivial rfl rfl ?_
  refine sbInt 0 hW2 trivial rfl rfl rfl rfl ?_
  refine seq trivial rfl rfl rfl ?_
  refine sm trivial rfl rfl ?_
  intro a5 h5
  rcases Bool.eq_false_or_eq_true (x.regs==0) with hb | hb
  ·rw [hb] at h5
   have h9:x.regs=0:=eq_of_beq hb
   have hc6:Hid (x.regs=0):=h9
   clear h9
   clear hb
   refine St.go h5 ?_;clear h5 a5
   refine sffuncLook1 ⟨_,hg4,rfl,rfl⟩ rfl rfl ?_
   refine sfFunc1 ⟨_,hg4,rfl,rfl⟩ rfl rfl ?_
   refine sbTypes 0 hW2 ⟨_,hg4,rfl,rfl⟩ rfl rfl rfl rfl ?_
   refine slTypes ⟨_,hg4,rfl,rfl⟩ rfl rfl ?_
   refine seq ⟨_,hg4,rfl,rfl⟩ rfl rfl rfl ?_
   refine sp trivial rfl rfl rfl ?_
   refine sm trivial rfl rfl ?_
   intro a7 h7
   rcases Bool.eq_false_or_eq_true ((x.params.length:Int)==0) with hb | hb
   ·rw [hb] at h7
    have h9:x.params.length=0:=by have h8:=eq_of_beq hb;omega
    have hc8:Hid (x.params.length=0):=h9
    clear h9
    clear hb
    refine St.go h7 ?_;clear h7 a7
    refine sffuncLook1 ⟨_,hg11,rfl,rfl⟩ rfl rfl ?_
    refine sfFunc2 ⟨_,hg11,rfl,rfl⟩ rfl rfl ?_
    refine sbTypes 0 hW2 ⟨_,hg11,rfl,rfl⟩ rfl rfl rfl rfl ?_
    refine sc_2 cf172 hW2 (containsF_any (Lay.below hx.out.results hW2.bel) (by have:=hs.out.2.2.1.1;omega)) ⟨_,hg11,rfl,rfl⟩ rfl rfl rfl ?_
    clear hW2;intro w9 hW9
    refine sn ⟨_,hg11,rfl,rfl⟩ rfl rfl ?_
    refine sp trivial rfl rfl rfl ?_
    refine sa trivial rfl rfl ?_
    refine St.nil fun a10 h10=>?_
    refine hK4 _ _ ?_
    refine wp_ret ?_;with_reducible repeat first | refine of_then_ret ?_ | refine of_block_ret ?_
    have R:(!(decide (0≤idxK 0 x.results)))=true ↔ x.begins:=by
      have e1:=hc6.out
      have e2:=hc8.out
      have e3:=idxK_iff x.results 0
      by_cases hz:0≤idxK 0 x.results
      · simp only [hz,decide_true,Bool.not_true,Bool.false_eq_true,false_iff]
        exact fun h=>e3.1 hz h.2.2
      · simp only [hz,decide_false,Bool.not_false,true_iff]
        refine ⟨e1,e2,?_⟩
        cases e:x.results.all (fun t=>t.kind==1) with
        | true=>rfl
        | false=>exact absurd (e3.2 (by rw [e];decide)) hz
    exact ret_tmp (t:=2) h10 rfl rfl ⟨by rw [← bdec_of R],hW9.bel⟩
   rw [hb] at h7
   have h9:¬ x.params.length=0:=by have h8:=ne_of_beq_false hb;omega
   have hc11:¬ x.params.length=0:=h9
   clear h9
   clear hb
   refine St.go h7 ?_;clear h7 a7
   refine so hg11 rfl rfl rfl rfl ?_
   refine so hg11 rfl rfl rfl rfl ?_
   refine so hg11 rfl rfl rfl rfl ?_
   refine so hg11 rfl rfl rfl rfl ?_
   refine so hg11 rfl rfl rfl rfl ?_
   refine spf trivial rfl rfl rfl ?_
   refine sa trivial rfl rfl ?_
   refine St.nil fun a12 h12=>?_
   refine hK4 _ _ ?_
   refine wp_ret ?_;with_reducible repeat first | refine of_then_ret ?_ | refine of_block_ret ?_
   have R:¬ x.begins:=fun h=>hc11 h.2.1
   exact ret_tmp (t:=2) h12 rfl rfl ⟨by rw [bdec_false R],hW2.bel⟩
  rw [hb] at h5
  have h9:¬ x.regs=0:=ne_of_beq_false hb
  have hc13:¬ x.regs=0:=h9
  clear h9
  clear hb
  refine St.go h5 ?_;clear h5 a5
  refine so hg4 rfl rfl rfl rfl ?_
  refine so hg4 rfl rfl rfl rfl ?_
  refine so hg4 rfl rfl rfl rfl ?_
  refine so hg4 rfl rfl rfl rfl ?_
  refine so hg4 rfl rfl rfl rfl ?_
  refine spf trivial rfl rfl rfl ?_
  refine sm trivial rfl rfl ?_
  refine so hg11 rfl rfl rfl rfl ?_
  refine so hg11 rfl rfl rfl rfl ?_
  refine so hg11 rfl rfl rfl rfl ?_
  refine so hg11 rfl rfl rfl rfl ?_
  refine so hg11 rfl rfl rfl rfl ?_
  refine spf trivial rfl rfl rfl ?_
  refine sa trivial rfl rfl ?_
  refine St.nil fun a14 h14=>?_
  refine hK4 _ _ ?_
  refine wp_ret ?_;with_reducible repeat first | refine of_then_ret ?_ | refine of_block_ret ?_
  have R:¬ x.begins:=fun h=>hc13 h.1
  exact ret_tmp (t:=2) h14 rfl rfl ⟨by rw [bdec_false R],hW2.bel⟩
theorem takes_any {n : Nat} {m : List (MFunc n)} {p : Option Addr} {c : Nat} {x : MFunc n} {fp : FP} {fi : Nat} {y : MBlock n} {bp : BP} {bi : Nat} {w : World} (hx0 : FIn w All x fp) (hs0 : x.small) (hy0 : BIn w All y bp) (ht0 : y.small) :
    Rd Tryz.prog 174 #[.agg #[.slice p m.length c,.int .i64 x.regs,.slice fp.pP x.params.length fp.cP,.slice fp.pR x.results.length fp.cR,.slice fp.pB x.blocks.length fp.cB,.int .i64 (fi:Int),.int .i64 y.regs,.slice bp.pP y.params.length bp.cP,.slice bp.pC y.code.length bp.cC,.int .i64 y.fin.op,.int .i64 y.fin.a,.int .i64 y.fin.yes.block,.slice bp.e.pYR y.fin.yes.regs.length bp.e.cYR,.slice bp.e.pYA y.fin.yes.args.length bp.e.cYA,.int .i64 y.fin.no.block,.slice bp.e.pNR y.fin.no.regs.length bp.e.cNR,.slice bp.e.pNA y.fin.no.args.length bp.e.cNA,.slice bp.e.pA y.fin.args.length bp.e.cA,.int .i64 (bi:Int)]] w (.bool (bdec (y.takes x))):=by
  have hx:Hid _:=hx0
  have hs:Hid _:=hs0
  have hy:Hid _:=hy0
  have ht:Hid _:=ht0
  clear hx0 hs0 hy0 ht0
  refine fr_enter (n:=21) Tryz.func174 rfl rfl rfl ?_
  intro a hF
  have hW:=Wd.start w
  replace hF:Fr 21 a [(0,.agg #[.slice p m.length c,.int .i64 x.regs,.slice fp.pP x.params.length fp.cP,.slice fp.pR x.results.length fp.cR,.slice fp.pB x.blocks.length fp.cB,.int .i64 (fi:Int),.int .i64 y.regs,.slice bp.pP y.params.length bp.cP,.slice bp.pC y.code.length bp.cC,.int .i64 y.fin.op,.int .i64 y.fin.a,.int .i64 y.fin.yes.block,.slice bp.e.pYR y.fin.yes.regs.length bp.e.cYR,.slice bp.e.pYA y.fin.yes.args.length bp.e.cYA,.int .i64 y.fin.no.block,.slice bp.e.pNR y.fin.no.regs.length bp.e.cNR,.slice bp.e.pNA y.fin.no.args.length bp.e.cNA,.slice bp.e.pA y.fin.args.length bp.e.cA,.int .i64 (bi:Int)])]:=hF
  refine wp_seq_k fun K1 hK1=>?_
  refine rg hF fun ops=>?_;clear hF a
  refine sB hW trivial rfl rfl ?_
  clear hW;intro w2 B2 hW2 hN;clear hN
  refine sa trivial rfl rfl ?_
  refine St.nil fun a3 h3=>?_
  refine hK1 _ _ ?_
  refine wp_seq_k fun K4 hK4=>?_
  refine fr_region ?_
  intro ops hops
  have hg8:(ops[8]?).bind (fun o:Oper=>o.dst)=some 11:=hops 8
  clear hops
  refine St.go h3 ?_;clear h3 a3
  refine sfblockLook1 trivial rfl rfl ?_
  refine sfBlock0 trivial rfl rfl ?_
  refine sbInt 0 hW2 trivial rfl rfl rfl rfl ?_
  refine sfblockLook0 trivial rfl rfl ?_
  refine sffuncLook1 trivial rfl rfl ?_
  refine sfFunc0 trivial rfl rfl ?_
  refine sbInt 0 hW2 trivial rfl rfl rfl rfl ?_
  refine seq trivial rfl rfl rfl ?_
  refine sm trivial rfl rfl ?_
  intro a5 h5
  rcases Bool.eq_false_or_eq_true (y.regs==x.regs) with hb | hb
  ·rw [hb] at h5
   have h9:y.regs=x.regs:=eq_of_beq hb
   have hc6:Hid (y.regs=x.regs):=h9
   clear h9
   clear hb
   refine St.go h5 ?_;clear h5 a5
   refine sfblockLook1 ⟨_,hg8,rfl,rfl⟩ rfl rfl ?_
   refine sfBlock1 ⟨_,hg8,rfl,rfl⟩ rfl rfl ?_
   refine sbTypes 0 hW2 ⟨_,hg8,rfl,rfl⟩ rfl rfl rfl rfl ?_
   refine sfblockLook0 ⟨_,hg8,rfl,rfl⟩ rfl rfl ?_
   refine sffuncLook1 ⟨_,hg8,rfl,rfl⟩ rfl rfl ?_
   refine sfFunc1 ⟨_,hg8,rfl,rfl⟩ rfl rfl ?_
   refine sbTypes 0 hW2 ⟨_,hg8,rfl,rfl⟩ rfl rfl rfl rfl ?_
   refine sc_3 cf206 hW2 (eqTypes_any (Lay.below hy.out.params hW2.bel) (Lay.below hx.out.params hW2.bel) ht.out.2.1) ⟨_,hg8,rfl,rfl⟩ rfl rfl rfl rfl ?_
   clear hW2;intro w7 hW7
   refine sp trivial rfl rfl rfl ?_
   refine sa trivial rfl rfl ?_
   refine St.nil fun a8 h8=>?_
   refine hK4 _ _ ?_
   refine wp_ret ?_;with_reducible repeat first | refine of_then_ret ?_ | refine of_block_ret ?_
   have R:y.params=x.params ↔ y.takes x:=⟨fun h=>⟨hc6.out,h⟩,fun h=>h.2⟩
   exact ret_tmp (t:=2) h8 rfl rfl ⟨by rw [bdec_congr R],hW7.bel⟩
  rw [hb] at h5
  have h9:¬ y.regs=x.regs:=ne_of_beq_false hb
  have hc9:¬ y.regs=x.regs:=h9
  clear h9
  clear hb
  refine St.go h5 ?_;clear h5 a5
  refine so hg8 rfl rfl rfl rfl ?_
  refine so hg8 rfl rfl rfl rfl ?_
  refine so hg8 rfl rfl rfl rfl ?_
  refine so hg8 rfl rfl rfl rfl ?_
  refine so hg8 rfl rfl rfl rfl ?_
  refine so hg8 rfl rfl rfl rfl ?_
  refine so hg8 rfl rfl rfl rfl ?_
  refine so hg8 rfl rfl rfl rfl ?_
  refine spf trivial rfl rfl rfl ?_
  refine sa trivial rfl rfl ?_
  refine St.nil fun a10 h10=>?_
  refine hK4 _ _ ?_
  refine wp_ret ?_;with_reducible repeat first | refine of_then_ret ?_ | refine of_block_ret ?_
  have R:¬ y.takes x:=fun h=>hc9 h.1
  exact ret_tmp (t:=2) h10 rfl rfl ⟨by rw [bdec_false R],hW2.bel⟩
theorem funcCode_any {n : Nat} {m : List (MFunc n)} {p : Option Addr} {c : Nat} {x : MFunc n} {fp : FP} {fi : Nat} {w : World} (hx0 : FIn w All x fp) (hs0 : x.small) :
    Rd Tryz.prog 104 #[.agg #[.slice p m.length c,.int .i64 x.regs,.slice fp.pP x.params.length fp.cP,.slice fp.pR x.results.length fp.cR,.slice fp.pB x.blocks.length fp.cB,.int .i64 (fi:Int)]] w (.int .i64 (x.code fi)):=by
  have hx:Hid _:=hx0
  have hs:Hid _:=hs0
  clear hx0 hs0
  refine fr_enter (n:=55) Tryz.func104 rfl rfl rfl ?_
  intro a hF
  have hW:=Wd.start w
  replace hF:Fr 55 a [(0,.agg #[.slice p m.length c,.int .i64 x.regs,.slice fp.pP x.params.length fp.cP,.slice fp.pR x.results.length fp.cR,.slice fp.pB x.blocks.length fp.cB,.int .i64 (fi:Int)])]:=hF
  refine wp_seq_k fun K1 hK1=>?_
  refine rg hF fun ops=>?_;clear hF a
  refine sB hW trivial rfl rfl ?_
  clear hW;intro w2 B2 hW2 hN;clear hN
  refine sa trivial rfl rfl ?_
  refine St.nil fun a3 h3=>?_
  refine hK1 _ _ ?_
  refine wp_seq_k fun K4 hK4=>?_
  refine wp_seq_k fun K5 hK5=>?_
  refine fr_region ?_
  intro ops hops
  have hg4:(ops[4]?).bind (fun o:Oper=>o.dst)=some 9:=hops 4
  clear hops
  refine St.go h3 ?_;clear h3 a3
  refine sffuncLook1 trivial rfl rfl ?_
  refine sfFunc0 trivial rfl rfl ?_
  refine sbInt 0 hW2 trivial rfl rfl rfl rfl ?_
  refine slt trivial rfl rfl rfl ?_
  refine sm trivial rfl rfl ?_
  intro a6 h6
  rcases Bool.eq_false_or_eq_true (decide (x.regs<0)) with hb | hb
  ·rw [hb] at h6
   have hc7:x.regs<0:=of_decide_eq_true hb
   clear hb
   refine St.go h6 ?_;clear h6 a6
   refine so hg4 rfl rfl rfl rfl ?_
   refine so hg4 rfl rfl rfl rfl ?_
   refine so hg4 rfl rfl rfl rfl ?_
   refine so hg4 rfl rfl rfl rfl ?_
   refine sp trivial rfl rfl rfl ?_
   refine St.nil fun a8 h8=>?_
   refine hK5 _ _ ?_
   refine fr_true (t:=14) h8 rfl ?_
   refine wp_seq_k fun K9 hK9=>?_
   refine rg h8 fun ops=>?_;clear h8 a8
   refine sa trivial rfl rfl ?_
   refine St.nil fun a10 h10=>?_
   refine hK9 _ _ ?_
   refine wp_ret ?_;with_reducible repeat first | refine of_then_ret ?_ | refine of_block_ret ?_
   have R:x.code fi=1:=if_pos (by omega)
   exact ret_tmp (t:=2) h10 rfl rfl ⟨by rw [R],hW2.bel⟩
  rw [hb] at h6
  have hc11:¬ (x.regs<0):=of_decide_eq_false hb
  clear hb
  refine St.go h6 ?_;clear h6 a6
  refine sffuncLook1 ⟨_,hg4,rfl,rfl⟩ rfl rfl ?_
  refine sfFunc0 ⟨_,hg4,rfl,rfl⟩ rfl rfl ?_
  refine sbInt 0 hW2 ⟨_,hg4,rfl,rfl⟩ rfl rfl rfl rfl ?_
  refine sgt ⟨_,hg4,rfl,rfl⟩ rfl rfl rfl ?_
  refine spf trivial rfl rfl rfl ?_
  refine St.nil fun a12 h12=>?_
  refine hK5 _ _ ?_
  refine fr_cond (t:=14) h12 rfl (fun hb=>?_) (fun hb=>?_)
  ·have hc13:6<x.regs:=of_decide_eq_true hb
   clear hb
   refine wp_seq_k fun K14 hK14=>?_
   refine rg h12 fun ops=>?_;clear h12 a12
   refine sa trivial rfl rfl ?_
   refine St.nil fun a15 h15=>?_
   refine hK14 _ _ ?_
   refine wp_ret ?_;with_reducible repeat first | refine of_then_ret ?_ | refine of_block_ret ?_
   have R:x.code fi=1:=if_pos (by omega)
   exact ret_tmp (t:=2) h15 rfl rfl ⟨by rw [R],hW2.bel⟩
  have hc16:¬ (6<x.regs):=of_decide_eq_false hb
  clear hb
  refine wp_skip ?_
  refine hK4 _ _ ?_
  refine wp_seq_k fun K17 hK17=>?_
  refine wp_seq_k fun K18 hK18=>?_
  refine rg h12 fun ops=>?_;clear h12 a12
  refine sffuncLook1 trivial rfl rfl ?_
  refine sfFunc1 trivial rfl rfl ?_
  refine sbTypes 0 hW2 trivial rfl rfl rfl rfl ?_
  refine sffuncLook1 trivial rfl rfl ?_
  refine sfFunc0 trivial rfl rfl ?_
  refine sbInt 0 hW2 trivial rfl rfl rfl rfl ?_
  refine sc_2 cf134 hW2 (typesCode_any (regs:=x.regs) (Lay.below hx.out.params hW2.bel) hs.out.2.1) trivial rfl rfl rfl ?_
  clear hW2;intro w19 hW19
  refine sa trivial rfl rfl ?_
  refine St.nil fun a20 h20=>?_
  refine hK18 _ _ ?_
  refine wp_seq_k fun K21 hK21=>?_
  refine rg h20 fun ops=>?_;clear h20 a20
  refine sm trivial rfl rfl ?_
  refine sne trivial rfl rfl rfl ?_
  refine St.nil fun a22 h22=>?_
  refine hK21 _ _ ?_
  refine fr_cond (t:=23) h22 rfl (fun hb=>?_) (fun hb=>?_)
  ·have h9:¬ (listC x.regs x.params)=0:=bne_iff_ne.1 hb
   have hc23:¬ (listC x.regs x.params)=0:=h9
   clear h9
   clear hb
   refine wp_seq_k fun K24 hK24=>?_
   refine rg h22 fun ops=>?_;clear h22 a22
   refine sm trivial rfl rfl ?_
   refine sa trivial rfl rfl ?_
   refine St.nil fun a25 h25=>?_
   refine hK24 _ _ ?_
   refine wp_ret ?_;with_reducible repeat first | refine of_then_ret ?_ | refine of_block_ret ?_
   have R:x.code fi=listC x.regs x.params:=(if_neg (by omega)).trans (if_pos (by omega))
   exact ret_tmp (t:=2) h25 rfl rfl ⟨by rw [R],hW19.bel⟩
  have h9:(listC x.regs x.params)=0:=bne_eq_false_iff_eq.1 hb
  have hc26:Hid ((listC x.regs x.params)=0):=h9
  clear h9
  clear hb
  refine wp_skip ?_
  refine hK17 _ _ ?_
  refine wp_seq_k fun K27 hK27=>?_
  refine wp_seq_k fun K28 hK28=>?_
  refine rg h22 fun ops=>?_;clear h22 a22
  refine sffuncLook1 trivial rfl rfl ?_
  refine sfFunc2 trivial rfl rfl ?_
  refine sbTypes 0 hW19 trivial rfl rfl rfl rfl ?_
  refine sffuncLook1 trivial rfl rfl ?_
  refine sfFunc0 trivial rfl rfl ?_
  refine sbInt 0 hW19 trivial rfl rfl rfl rfl ?_
  refine sc_2 cf134 hW19 (typesCode_any (regs:=x.regs) (Lay.below hx.out.results hW19.bel) hs.out.2.2.1) trivial rfl rfl rfl ?_
  clear hW19;intro w29 hW29
  refine sa trivial rfl rfl ?_
  refine St.nil fun a30 h30=>?_
  refine hK28 _ _ ?_
  refine wp_seq_k fun K31 hK31=>?_
  refine rg h30 fun ops=>?_;clear h30 a30
  refine sm trivial rfl rfl ?_
  refine sne trivial rfl rfl rfl ?_
  refine St.nil fun a32 h32=>?_
  refine hK31 _ _ ?_
  refine fr_cond (t:=33) h32 rfl (fun hb=>?_) (fun hb=>?_)
  ·have h9:¬ (listC x.regs x.results)=0:=bne_iff_ne.1 hb
   have hc33:¬ (listC x.regs x.results)=0:=h9
   clear h9
   clear hb
   refine wp_seq_k fun K34 hK34=>?_
   refine rg h32 fun ops=>?_;clear h32 a32
   refine sm trivial rfl rfl ?_
   refine sa trivial rfl rfl ?_
   refine St.nil fun a35 h35=>?_
   refine hK34 _ _ ?_
   refine wp_ret ?_;with_reducible repeat first | refine of_then_ret ?_ | refine of_block_ret ?_
   have:=hc26.out
   have R:x.code fi=listC x.regs x.results:=(if_neg (by omega)).trans ((if_neg (by omega)).trans (if_pos (by omega)))
   exact ret_tmp (t:=2) h35 rfl rfl ⟨by rw [R],hW29.bel⟩
  have h9:(listC x.regs x.results)=0:=bne_eq_false_iff_eq.1 hb
  have hc36:Hid ((listC x.regs x.results)=0):=h9
  clear h9
  clear hb
  refine wp_skip ?_
  refine hK27 _ _ ?_
  refine wp_seq_k fun K37 hK37=>?_
  refine wp_seq_k fun K38 hK38=>?_
  refine fr_region ?_
  intro ops hops
  have hg5:(ops[5]?).bind (fun o:Oper=>o.dst)=some 40:=hops 5
  clear hops
  refine St.go h32 ?_;clear h32 a32
  refine sffuncLook1 trivial rfl rfl ?_
  refine sfFunc3 trivial rfl rfl ?_
  refine sbBlocks 0 hW29 trivial rfl rfl rfl rfl ?_
  refine slBlocks trivial rfl rfl ?_
  refine slt trivial rfl rfl rfl ?_
  refine sm trivial rfl rfl ?_
  intro a39 h39
  rcases Bool.eq_false_or_eq_true (decide ((x.blocks.length:Int)<1)) with hb | hb
  ·rw [hb] at h39
   have hc40:x.blocks.length<1:=by have:=of_decide_eq_true hb;omega
   clear hb
   refine St.go h39 ?_;clear h39 a39
   refine so hg5 rfl rfl rfl rfl ?_
   refine so hg5 rfl rfl rfl rfl ?_
   refine so hg5 rfl rfl rfl rfl ?_
   refine so hg5 rfl rfl rfl rfl ?_
   refine so hg5 rfl rfl rfl rfl ?_
   refine sp trivial rfl rfl rfl ?_
   refine St.nil fun a41 h41=>?_
   refine hK38 _ _ ?_
   refine fr_true (t:=46) h41 rfl ?_
   refine wp_seq_k fun K42 hK42=>?_
   refine rg h41 fun ops=>?_;clear h41 a41
   refine sa trivial rfl rfl ?_
   refine St.nil fun a43 h43=>?_
   refine hK42 _ _ ?_
   refine wp_ret ?_;with_reducible repeat first | refine of_then_ret ?_ | refine of_block_ret ?_
   have:=hc26.out
   have:=hc36.out
   have R:x.code fi=2:=(if_neg (by omega)).trans ((if_neg (by omega)).trans ((if_neg (by omega)).trans (if_pos (by omega))))
   exact ret_tmp (t:=2) h43 rfl rfl ⟨by rw [R],hW29.bel⟩
  rw [hb] at h39
  have hc44:¬ (x.blocks.length<1):=by have:=of_decide_eq_false hb;omega
  clear hb
  refine St.go h39 ?_;clear h39 a39
  refine sffuncLook1 ⟨_,hg5,rfl,rfl⟩ rfl rfl ?_
  refine sfFunc3 ⟨_,hg5,rfl,rfl⟩ rfl rfl ?_
  refine sbBlocks 0 hW29 ⟨_,hg5,rfl,rfl⟩ rfl rfl rfl rfl ?_
  refine slBlocks ⟨_,hg5,rfl,rfl⟩ rfl rfl ?_
  refine sgt ⟨_,hg5,rfl,rfl⟩ rfl rfl rfl ?_
  refine spf trivial rfl rfl rfl ?_
  refine St.nil fun a45 h45=>?_
  refine hK38 _ _ ?_
  refine fr_cond (t:=46) h45 rfl (fun hb=>?_) (fun hb=>?_)
  ·have hc46:12<x.blocks.length:=by have:=of_decide_eq_true hb;omega
   clear hb
   refine wp_seq_k fun K47 hK47=>?_
   refine rg h45 fun ops=>?_;clear h45 a45
   refine sa trivial rfl rfl ?_
   refine St.nil fun a48 h48=>?_
   refine hK47 _ _ ?_
   refine wp_ret ?_;with_reducible repeat first | refine of_then_ret ?_ | refine of_block_ret ?_
   have:=hc26.out
   have:=hc36.out
   have R:x.code fi=2:=(if_neg (by omega)).trans ((if_neg (by omega)).trans ((if_neg (by omega)).trans (if_pos (by omega))))
   exact ret_tmp (t:=2) h48 rfl rfl ⟨by rw [R],hW29.bel⟩
  have hc49:¬ (12<x.blocks.length):=by have:=of_decide_eq_false hb;omega
  clear hb
  refine wp_skip ?_
  refine hK37 _ _ ?_
  refine wp_seq_k fun K50 hK50=>?_
  refine wp_seq_k fun K51 hK51=>?_
  refine fr_region ?_
  intro ops hops
  have hg3:(ops[3]?).bind (fun o:Oper=>o.dst)=some 50:=hops 3
  clear hops
  refine St.go h45 ?_;clear h45 a45
  refine sffuncLook2 trivial rfl rfl ?_
  refine sbInt 0 hW29 trivial rfl rfl rfl rfl ?_
  refine seq trivial rfl rfl rfl ?_
  refine sm trivial rfl rfl ?_
  intro a52 h52
  rcases Bool.eq_false_or_eq_true ((fi:Int)==0) with hb | hb
  ·rw [hb] at h52
   have h9:fi=0:=by have h8:=eq_of_beq hb;omega
   have hc53:Hid (fi=0):=h9
   clear h9
   clear hb
   refine St.go h52 ?_;clear h52 a52
   refine sS 0 6 Tryz.underlying106 rfl inffuncLook hW29 ⟨_,hg3,rfl,rfl⟩ rfl rfl rfl rfl ?_
   refine sc_1 cf135 hW29 (canBegin_any (m:=m) (p:=p) (c:=c) (fi:=fi) (hx.out.below hW29.bel) hs.out) ⟨_,hg3,rfl,rfl⟩ rfl rfl ?_
   clear hW29;intro w54 hW54
   refine sn ⟨_,hg3,rfl,rfl⟩ rfl rfl ?_
   refine sp trivial rfl rfl rfl ?_
   refine St.nil fun a55 h55=>?_
   refine hK51 _ _ ?_
   refine fr_cond (t:=54) h55 rfl (fun hb=>?_) (fun hb=>?_)
   ·have hb:(bdec (x.begins))=false:=by simpa using hb
    have hc56:¬ (x.begins):=fun h=>by rw [bdec_true h] at hb;cases hb
    clear hb
    refine wp_seq_k fun K57 hK57=>?_
    refine rg h55 fun ops=>?_;clear h55 a55
    refine sa trivial rfl rfl ?_
    refine St.nil fun a58 h58=>?_
    refine hK57 _ _ ?_
    refine wp_ret ?_;with_reducible repeat first | refine of_then_ret ?_ | refine of_block_ret ?_
    have:=hc26.out
    have:=hc36.out
    have:=hc53.out
    have R:x.code fi=18:=(if_neg (by omega)).trans ((if_neg (by omega)).trans ((if_neg (by omega)).trans ((if_neg (by omega)).trans (if_pos (⟨by omega,hc56⟩)))))
    exact ret_tmp (t:=2) h58 rfl rfl ⟨by rw [R],hW54.bel⟩
   have hb:(bdec (x.begins))=true:=by simpa using hb
   have hc59:(x.begins):=bdec_iff.1 hb
   clear hb
   refine wp_skip ?_
   refine hK50 _ _ ?_
   refine wp_seq_k fun K60 hK60=>?_
   refine rg h55 fun ops=>?_;clear h55 a55
   refine sa trivial rfl rfl ?_
   refine St.nil fun a61 h61=>?_
   refine hK60 _ _ ?_
   refine wp_ret ?_;with_reducible repeat first | refine of_then_ret ?_ | refine of_block_ret ?_
   have:=hc26.out
   have:=hc36.out
   have:=hc53.out
   have R:x.code fi=0:=(if_neg (by omega)).trans ((if_neg (by omega)).trans ((if_neg (by omega)).trans ((if_neg (by omega)).trans ((if_neg (fun h=>h.2 hc59)).trans (rfl)))))
   exact ret_tmp (t:=2) h61 rfl rfl ⟨by rw [R],hW54.bel⟩
  rw [hb] at h52
  have h9:¬ fi=0:=by have h8:=ne_of_beq_false hb;omega
  have hc62:¬ fi=0:=h9
  clear h9
  clear hb
  refine St.go h52 ?_;clear h52 a52
  refine so hg3 rfl rfl rfl rfl ?_
  refine so hg3 rfl rfl rfl rfl ?_
  refine so hg3 rfl rfl rfl rfl ?_
  refine spf trivial rfl rfl rfl ?_
  refine St.nil fun a63 h63=>?_
  refine hK51 _ _ ?_
  refine fr_false (t:=54) h63 rfl ?_
  refine wp_skip ?_
  refine hK50 _ _ ?_
  refine wp_seq_k fun K64 hK64=>?_
  refine rg h63 fun ops=>?_;clear h63 a63
  refine sa trivial rfl rfl ?_
  refine St.nil fun a65 h65=>?_
  refine hK64 _ _ ?_
  refine wp_ret ?_;with_reducible repeat first | refine of_then_ret ?_ | refine of_block_ret ?_
  have:=hc26.out
  have:=hc36.out
  have R:x.code fi=0:=(if_neg (by omega)).trans ((if_neg (by omega)).trans ((if_neg (by omega)).trans ((if_neg (by omega)).trans ((if_neg (by omega)).trans (rfl)))))
  exact ret_tmp (t:=2) h65 rfl rfl ⟨by rw [R],hW29.bel⟩
theorem blockCode_any {n : Nat} {m : List (MFunc n)} {p : Option Addr} {c : Nat} {x : MFunc n} {fp : FP} {fi : Nat} {y : MBlock n} {bp : BP} {bi : Nat} {w : World} (hx0 : FIn w All x fp) (hs0 : x.small) (hy0 : BIn w All y bp) (ht0 : y.small) :
    Rd Tryz.prog 136 #[.agg #[.slice p m.length c,.int .i64 x.regs,.slice fp.pP x.params.length fp.cP,.slice fp.pR x.results.length fp.cR,.slice fp.pB x.blocks.length fp.cB,.int .i64 (fi:Int),.int .i64 y.regs,.slice bp.pP y.params.length bp.cP,.slice bp.pC y.code.length bp.cC,.int .i64 y.fin.op,.int .i64 y.fin.a,.int .i64 y.fin.yes.block,.slice bp.e.pYR y.fin.yes.regs.length bp.e.cYR,.slice bp.e.pYA y.fin.yes.args.length bp.e.cYA,.int .i64 y.fin.no.block,.slice bp.e.pNR y.fin.no.regs.length bp.e.cNR,.slice bp.e.pNA y.fin.no.args.length bp.e.cNA,.slice bp.e.pA y.fin.args.length bp.e.cA,.int .i64 (bi:Int)]] w (.int .i64 (y.code' x bi)):=by
  have hx:Hid _:=hx0
  have hs:Hid _:=hs0
  have hy:Hid _:=hy0
  have ht:Hid _:=ht0
  clear hx0 hs0 hy0 ht0
  refine fr_enter (n:=41) Tryz.func136 rfl rfl rfl ?_
  intro a hF
  have hW:=Wd.start w
  replace hF:Fr 41 a [(0,.agg #[.slice p m.length c,.int .i64 x.regs,.slice fp.pP x.params.length fp.cP,.slice fp.pR x.results.length fp.cR,.slice fp.pB x.blocks.length fp.cB,.int .i64 (fi:Int),.int .i64 y.regs,.slice bp.pP y.params.length bp.cP,.slice bp.pC y.code.length bp.cC,.int .i64 y.fin.op,.int .i64 y.fin.a,.int .i64 y.fin.yes.block,.slice bp.e.pYR y.fin.yes.regs.length bp.e.cYR,.slice bp.e.pYA y.fin.yes.args.length bp.e.cYA,.int .i64 y.fin.no.block,.slice bp.e.pNR y.fin.no.regs.length bp.e.cNR,.slice bp.e.pNA y.fin.no.args.length bp.e.cNA,.slice bp.e.pA y.fin.args.length bp.e.cA,.int .i64 (bi:Int)])]:=hF
  refine wp_seq_k fun K1 hK1=>?_
  refine rg hF fun ops=>?_;clear hF a
  refine sB hW trivial rfl rfl ?_
  clear hW;intro w2 B2 hW2 hN;clear hN
  refine sa trivial rfl rfl ?_
  refine St.nil fun a3 h3=>?_
  refine hK1 _ _ ?_
  refine wp_seq_k fun K4 hK4=>?_
  refine wp_seq_k fun K5 hK5=>?_
  refine fr_region ?_
  intro ops hops
  have hg8:(ops[8]?).bind (fun o:Oper=>o.dst)=some 12:=hops 8
  clear hops
  refine St.go h3 ?_;clear h3 a3
  refine sfblockLook1 trivial rfl rfl ?_
  refine sfBlock0 trivial rfl rfl ?_
  refine sbInt 0 hW2 trivial rfl rfl rfl rfl ?_
  refine sfblockLook0 trivial rfl rfl ?_
  refine sffuncLook1 trivial rfl rfl ?_
  refine sfFunc0 trivial rfl rfl ?_
  refine sbInt 0 hW2 trivial rfl rfl rfl rfl ?_
  refine slt trivial rfl rfl rfl ?_
  refine sm trivial rfl rfl ?_
  intro a6 h6
  rcases Bool.eq_false_or_eq_true (decide (y.regs<x.regs)) with hb | hb
  ·rw [hb] at h6
   have hc7:y.regs<x.regs:=of_decide_eq_true hb
   clear hb
   refine St.go h6 ?_;clear h6 a6
   refine so hg8 rfl rfl rfl rfl ?_
   refine so hg8 rfl rfl rfl rfl ?_
   refine so hg8 rfl rfl rfl rfl ?_
   refine so hg8 rfl rfl rfl rfl ?_
   refine sp trivial rfl rfl rfl ?_
   refine St.nil fun a8 h8=>?_
   refine hK5 _ _ ?_
   refine fr_true (t:=17) h8 rfl ?_
   refine wp_seq_k fun K9 hK9=>?_
   refine rg h8 fun ops=>?_;clear h8 a8
   refine sa trivial rfl rfl ?_
   refine St.nil fun a10 h10=>?_
   refine hK9 _ _ ?_
   refine wp_ret ?_;with_reducible repeat first | refine of_then_ret ?_ | refine of_block_ret ?_
   have R:y.code' x bi=1:=if_pos (by omega)
   exact ret_tmp (t:=2) h10 rfl rfl ⟨by rw [R],hW2.bel⟩
  rw [hb] at h6
  have hc11:¬ (y.regs<x.regs):=of_decide_eq_false hb
  clear hb
  refine St.go h6 ?_;clear h6 a6
  refine sfblockLook1 ⟨_,hg8,rfl,rfl⟩ rfl rfl ?_
  refine sfBlock0 ⟨_,hg8,rfl,rfl⟩ rfl rfl ?_
  refine sbInt 0 hW2 ⟨_,hg8,rfl,rfl⟩ rfl rfl rfl rfl ?_
  refine sgt ⟨_,hg8,rfl,rfl⟩ rfl rfl rfl ?_
  refine spf trivial rfl rfl rfl ?_
  refine St.nil fun a12 h12=>?_
  refine hK5 _ _ ?_
  refine fr_cond (t:=17) h12 rfl (fun hb=>?_) (fun hb=>?_)
  ·have hc13:16<y.regs:=of_decide_eq_true hb
   clear hb
   refine wp_seq_k fun K14 hK14=>?_
   refine rg h12 fun ops=>?_;clear h12 a12
   refine sa trivial rfl rfl ?_
   refine St.nil fun a15 h15=>?_
   refine hK14 _ _ ?_
   refine wp_ret ?_;with_reducible repeat first | refine of_then_ret ?_ | refine of_block_ret ?_
   have R:y.code' x bi=1:=if_pos (by omega)
   exact ret_tmp (t:=2) h15 rfl rfl ⟨by rw [R],hW2.bel⟩
  have hc16:¬ (16<y.regs):=of_decide_eq_false hb
  clear hb
  refine wp_skip ?_
  refine hK4 _ _ ?_
  refine wp_seq_k fun K17 hK17=>?_
  refine wp_seq_k fun K18 hK18=>?_
  refine rg h12 fun ops=>?_;clear h12 a12
  refine sfblockLook1 trivial rfl rfl ?_
  refine sfBlock1 trivial rfl rfl ?_
  refine sbTypes 0 hW2 trivial rfl rfl rfl rfl ?_
  refine sfblockLook1 trivial rfl rfl ?_
  refine sfBlock0 trivial rfl rfl ?_
  refine sbInt 0 hW2 trivial rfl rfl rfl rfl ?_
  refine sc_2 cf134 hW2 (typesCode_any (regs:=y.regs) (Lay.below hy.out.params hW2.bel) ht.out.2.1) trivial rfl rfl rfl ?_
  clear hW2;intro w19 hW19
  refine sa trivial rfl rfl ?_
  refine St.nil fun a20 h20=>?_
  refine hK18 _ _ ?_
  refine wp_seq_k fun K21 hK21=>?_
  refine rg h20 fun ops=>?_;clear h20 a20
  refine sm trivial rfl rfl ?_
  refine sne trivial rfl rfl rfl ?_
  refine St.nil fun a22 h22=>?_
  refine hK21 _ _ ?_
  refine fr_cond (t:=26) h22 rfl (fun hb=>?_) (fun hb=>?_)
  ·have h9:¬ (listC y.regs y.params)=0:=bne_iff_ne.1 hb
   have hc23:¬ (listC y.regs y.params)=0:=h9
   clear h9
   clear hb
   refine wp_seq_k fun K24 hK24=>?_
   refine rg h22 fun ops=>?_;clear h22 a22
   refine sm trivial rfl rfl ?_
   refine sa trivial rfl rfl ?_
   refine St.nil fun a25 h25=>?_
   refine hK24 _ _ ?_
   refine wp_ret ?_;with_reducible repeat first | refine of_then_ret ?_ | refine of_block_ret ?_
   have R:y.code' x bi=listC y.regs y.params:=(if_neg (by omega)).trans (if_pos (by omega))
   exact ret_tmp (t:=2) h25 rfl rfl ⟨by rw [R],hW19.bel⟩
  have h9:(listC y.regs y.params)=0:=bne_eq_false_iff_eq.1 hb
  have hc26:Hid ((listC y.regs y.params)=0):=h9
  clear h9
  clear hb
  refine wp_skip ?_
  refine hK17 _ _ ?_
  refine wp_seq_k fun K27 hK27=>?_
  refine wp_seq_k fun K28 hK28=>?_
  refine fr_region ?_
  intro ops hops
  have hg3:(ops[3]?).bind (fun o:Oper=>o.dst)=some 31:=hops 3
  clear hops
  refine St.go h22 ?_;clear h22 a22
  refine sfblockLook2 trivial rfl rfl ?_
  refine sbInt 0 hW19 trivial rfl rfl rfl rfl ?_
  refine seq trivial rfl rfl rfl ?_
  refine sm trivial rfl rfl ?_
  intro a29 h29
  rcases Bool.eq_false_or_eq_true ((bi:Int)==0) with hb | hb
  ·rw [hb] at h29
   have h9:bi=0:=by have h8:=eq_of_beq hb;omega
   have hc30:Hid (bi=0):=h9
   clear h9
   clear hb
   refine St.go h29 ?_;clear h29 a29
   refine sS 0 19 Tryz.underlying148 rfl infblockLook hW19 ⟨_,hg3,rfl,rfl⟩ rfl rfl rfl rfl ?_
   refine sc_1 cf174 hW19 (takes_any (m:=m) (p:=p) (c:=c) (fi:=fi) (bi:=bi) (hx.out.below hW19.bel) hs.out (hy.out.below hW19.bel) ht.out) ⟨_,hg3,rfl,rfl⟩ rfl rfl ?_
   clear hW19;intro w31 hW31
   refine sn ⟨_,hg3,rfl,rfl⟩ rfl rfl ?_
   refine sp trivial rfl rfl rfl ?_
   refine St.nil fun a32 h32=>?_
   refine hK28 _ _ ?_
   refine fr_cond (t:=35) h32 rfl (fun hb=>?_) (fun hb=>?_)
   ·have hb:(bdec (y.takes x))=false:=by simpa using hb
    have hc33:¬ (y.takes x):=fun h=>by rw [bdec_true h] at hb;cases hb
    clear hb
    refine wp_seq_k fun K34 hK34=>?_
    refine rg h32 fun ops=>?_;clear h32 a32
    refine sa trivial rfl rfl ?_
    refine St.nil fun a35 h35=>?_
    refine hK34 _ _ ?_
    refine wp_ret ?_;with_reducible repeat first | refine of_then_ret ?_ | refine of_block_ret ?_
    have:=hc26.out
    have:=hc30.out
    have R:y.code' x bi=9:=(if_neg (by omega)).trans ((if_neg (by omega)).trans (if_pos (⟨by omega,takes_no hc33⟩)))
    exact ret_tmp (t:=2) h35 rfl rfl ⟨by rw [R],hW31.bel⟩
   have hb:(bdec (y.takes x))=true:=by simpa using hb
   have hc36:(y.takes x):=bdec_iff.1 hb
   clear hb
   refine wp_skip ?_
   refine hK27 _ _ ?_
   refine wp_seq_k fun K37 hK37=>?_
   refine wp_seq_k fun K38 hK38=>?_
   refine rg h32 fun ops=>?_;clear h32 a32
   refine sfblockLook1 trivial rfl rfl ?_
   refine sfBlock2 trivial rfl rfl ?_
   refine sbInss 0 hW31 trivial rfl rfl rfl rfl ?_
   refine slInss trivial rfl rfl ?_
   refine sgt trivial rfl rfl rfl ?_
   refine St.nil fun a39 h39=>?_
   refine hK38 _ _ ?_
   refine fr_cond (t:=40) h39 rfl (fun hb=>?_) (fun hb=>?_)
   ·have hc40:40<y.code.length:=by have:=of_decide_eq_true hb;omega
    clear hb
    refine wp_seq_k fun K41 hK41=>?_
    refine rg h39 fun ops=>?_;clear h39 a39
    refine sa trivial rfl rfl ?_
    refine St.nil fun a42 h42=>?_
    refine hK41 _ _ ?_
    refine wp_ret ?_;with_reducible repeat first | refine of_then_ret ?_ | refine of_block_ret ?_
    have:=hc26.out
    have:=hc30.out
    have R:y.code' x bi=2:=(if_neg (by omega)).trans ((if_neg (by omega)).trans ((if_neg (fun h=>takes_yes hc36 h.2)).trans (if_pos (by omega))))
    exact ret_tmp (t:=2) h42 rfl rfl ⟨by rw [R],hW31.bel⟩
   have hc43:¬ (40<y.code.length):=by have:=of_decide_eq_false hb;omega
   clear hb
   refine wp_skip ?_
   refine hK37 _ _ ?_
   refine wp_seq_k fun K44 hK44=>?_
   refine rg h39 fun ops=>?_;clear h39 a39
   refine sa trivial rfl rfl ?_
   refine St.nil fun a45 h45=>?_
   refine hK44 _ _ ?_
   refine wp_ret ?_;with_reducible repeat first | refine of_then_ret ?_ | refine of_block_ret ?_
   have:=hc26.out
   have:=hc30.out
   have R:y.code' x bi=0:=(if_neg (by omega)).trans ((if_neg (by omega)).trans ((if_neg (fun h=>takes_yes hc36 h.2)).trans ((if_neg (by omega)).trans (rfl))))
   exact ret_tmp (t:=2) h45 rfl rfl ⟨by rw [R],hW31.bel⟩
  rw [hb] at h29
  have h9:¬ bi=0:=by have h8:=ne_of_beq_false hb;omega
  have hc46:¬ bi=0:=h9
  clear h9
  clear hb
  refine St.go h29 ?_;clear h29 a29
  refine so hg3 rfl rfl rfl rfl ?_
  refine so hg3 rfl rfl rfl rfl ?_
  refine so hg3 rfl rfl rfl rfl ?_
  refine spf trivial rfl rfl rfl ?_
  refine St.nil fun a47 h47=>?_
  refine hK28 _ _ ?_
  refine fr_false (t:=35) h47 rfl ?_
  refine wp_skip ?_
  refine hK27 _ _ ?_
  refine wp_seq_k fun K48 hK48=>?_
  refine wp_seq_k fun K49 hK49=>?_
  refine rg h47 fun ops=>?_;clear h47 a47
  refine sfblockLook1 trivial rfl rfl ?_
  refine sfBlock2 trivial rfl rfl ?_
  refine sbInss 0 hW19 trivial rfl rfl rfl rfl ?_
  refine slInss trivial rfl rfl ?_
  refine sgt trivial rfl rfl rfl ?_
  refine St.nil fun a50 h50=>?_
  refine hK49 _ _ ?_
  refine fr_cond (t:=40) h50 rfl (fun hb=>?_) (fun hb=>?_)
  ·have hc51:40<y.code.length:=by have:=of_decide_eq_true hb;omega
   clear hb
   refine wp_seq_k fun K52 hK52=>?_
   refine rg h50 fun ops=>?_;clear h50 a50
   refine sa trivial rfl rfl ?_
   refine St.nil fun a53 h53=>?_
   refine hK52 _ _ ?_
   refine wp_ret ?_;with_reducible repeat first | refine of_then_ret ?_ | refine of_block_ret ?_
   have:=hc26.out
   have R:y.code' x bi=2:=(if_neg (by omega)).trans ((if_neg (by omega)).trans ((if_neg (by omega)).trans (if_pos (by omega))))
   exact ret_tmp (t:=2) h53 rfl rfl ⟨by rw [R],hW19.bel⟩
  have hc54:¬ (40<y.code.length):=by have:=of_decide_eq_false hb;omega
  clear hb
  refine wp_skip ?_
  refine hK48 _ _ ?_
  refine wp_seq_k fun K55 hK55=>?_
  refine rg h50 fun ops=>?_;clear h50 a50
  refine sa trivial rfl rfl ?_
  refine St.nil fun a56 h56=>?_
  refine hK55 _ _ ?_
  refine wp_ret ?_;with_reducible repeat first | refine of_then_ret ?_ | refine of_block_ret ?_
  have:=hc26.out
  have R:y.code' x bi=0:=(if_neg (by omega)).trans ((if_neg (by omega)).trans ((if_neg (by omega)).trans ((if_neg (by omega)).trans (rfl))))
  exact ret_tmp (t:=2) h56 rfl rfl ⟨by rw [R],hW19.bel⟩
theorem ffIns_any {l : List MIns} {p : Option Addr} {c Bc : Nat} {w : World} (G : Nat → MIns → Int × Int) (hl0 : insL.list.In w All l [.slice p l.length c]) (hsb : l.length ≤ 100000)
    (hcl0:∀ (i:Nat) x (z:IP) wx,l[i]?=some x→IIn wx All x z→Below w.heap.size w wx→Rd Tryz.prog 139 #[.int .i64 (i:Int),.agg #[.int .i64 x.op,.int .i64 x.a,.int .i64 x.b,.int .i64 x.c,.int .i64 x.k,.int .i64 x.n,.slice z.pR x.regs.length z.cR,.slice z.pA x.args.length z.cA],.pointer (some ⟨Bc,0,none⟩)] wx (faultV (G i x))) :
    Rd Tryz.prog 138 #[.slice p l.length c,.func (.func 139) #[] #[.pointer (some ⟨Bc,0,none⟩)]] w (faultV (firstF G 0 l)):=by
  have hl:Hid _:=hl0
  have hcl:Hid _:=hcl0
  clear hl0 hcl0
  refine fr_enter (n:=25) Tryz.func138 rfl rfl rfl ?_
  intro a hF
  have hW:=Wd.start w
  replace hF:Fr 25 a [(0,.slice p l.length c),(1,.func (.func 139) #[] #[.pointer (some ⟨Bc,0,none⟩)])]:=hF
  refine wp_seq_k fun K1 hK1=>?_
  refine rg hF fun ops=>?_;clear hF a
  refine sAFault hW trivial rfl ?_
  clear hW;intro w2 B2 hW2 hN;clear hN
  refine St.nil fun a3 h3=>?_
  refine hK1 _ _ ?_
  refine wp_seq_k fun K4 hK4=>?_
  refine wp_seq_k fun K5 hK5=>?_
  refine rg h3 fun ops=>?_;clear h3 a3
  refine sm trivial rfl rfl ?_
  refine slInss trivial rfl rfl ?_
  refine sm trivial rfl rfl ?_
  refine St.nil fun a6 h6=>?_
  refine hK5 _ _ ?_
  refine wp_block ?_
  refine fr_loop (fun r a w'=>∃ q:Nat,q≤l.length∧r=l.length - q∧(∀ (j:Nat) y,j<q→l[j]?=some y→(G j y).1=0)∧Fr 25 a [(1,.func (.func 139) #[] #[.pointer (some ⟨Bc,0,none⟩)]),(0,.slice p l.length c),(4,.pointer (some ⟨B2,0,none⟩)),(8,.slice p l.length c),(9,.int .i64 (l.length:Int)),(10,.int .i64 (q:Int))]∧Wd w w' [(B2,#[.int .i64 0,.int .i64 0],27)]) (l.length) ⟨0,Nat.zero_le _,rfl,(fun j y hj=>by omega),(h6.keep (h6.keep (h6.keep (h6.keep (h6.keep (h6.keep h6.nil (t:=10) rfl) (t:=9) rfl) (t:=8) rfl) (t:=4) rfl) (t:=0) rfl) (t:=1) rfl),hW2⟩ ?_
  clear h6 hW2
  rintro r a7 w7 ⟨q,hq,hr,hall,hF7,hW7⟩ KL hKL
  refine wp_seq_k fun K8 hK8=>?_
  refine rg hF7 fun ops=>?_;clear hF7 a7
  refine slt trivial rfl rfl rfl ?_
  refine St.nil fun a9 h9=>?_
  refine hK8 _ _ ?_
  refine wp_seq_k fun K10 hK10=>?_
  refine fr_cond (t:=11) h9 rfl (fun hb=>?_) (fun hb=>?_)
  ·have hlt1:q<l.length:=by have:=of_decide_eq_true hb;omega
   clear hb
   obtain ⟨x,hx1⟩:∃ v9,(l)[q]?=some v9:=⟨_,List.getElem?_eq_getElem hlt1⟩
   obtain ⟨g1,o1,i1,hp1,E1,In1⟩:=ins_at hl.out hx1
   replace In1:Hid _:=In1
   replace hp1:Hid _:=hp1
   replace hx1:Hid _:=hx1
   replace E1:Hid _:=E1
   refine wp_skip ?_
   refine hK10 _ _ ?_
   refine wp_seq_k fun K11 hK11=>?_
   refine wp_block ?_
   refine wp_seq_k fun K12 hK12=>?_
   refine rg h9 fun ops=>?_;clear h9 a9
   refine sm trivial rfl rfl ?_
   refine siInss hp1.out hlt1 trivial rfl rfl rfl ?_
   refine sSE Tryz.underlying45 rfl (rangeAt_bel E1.out hW7.bel) infIns trivial rfl rfl ?_
   refine sAIns hW7 trivial rfl ?_
   clear hW7;intro w13 B13 hW13 hN;clear hN
   refine sa trivial rfl rfl ?_
   refine sT 0 hW13 rfl rfl infIns rfl rfl rfl ?_
   clear hW13;intro w14 hW14
   refine St.nil fun a15 h15=>?_
   refine hK12 _ _ ?_
   refine wp_seq_k fun K16 hK16=>?_
   refine rg h15 fun ops=>?_;clear h15 a15
   refine sm trivial rfl rfl ?_
   refine sm trivial rfl rfl ?_
   refine sS 0 8 Tryz.underlying45 rfl infIns hW14 trivial rfl rfl rfl rfl ?_
   refine sv_21 cf139 hW14 (hcl.out q x i1 w14 hx1.out (In1.out.below hW14.bel) hW14.bel) trivial rfl rfl rfl rfl ?_
   clear hW14;intro w17 hW17
   refine sAFault hW17 trivial rfl ?_
   clear hW17;intro w18 B18 hW18 hN;clear hN
   refine sT 0 hW18 rfl rfl infFault rfl rfl rfl ?_
   clear hW18;intro w19 hW19
   refine St.nil fun a20 h20=>?_
   refine hK16 _ _ ?_
   refine wp_seq_k fun K21 hK21=>?_
   refine rg h20 fun ops=>?_;clear h20 a20
   refine sfFault0 trivial rfl rfl ?_
   refine sbInt 0 hW19 trivial rfl rfl rfl rfl ?_
   refine sne trivial rfl rfl rfl ?_
   refine St.nil fun a22 h22=>?_
   refine hK21 _ _ ?_
   refine fr_cond (t:=21) h22 rfl (fun hb=>?_) (fun hb=>?_)
   ·have h9:¬ ((G q x).1)=0:=bne_iff_ne.1 hb
    have hne:¬ ((G q x).1)=0:=h9
    clear h9
    clear hb
    refine wp_seq_k fun K23 hK23=>?_
    refine rg h22 fun ops=>?_;clear h22 a22
    refine sS 0 2 Tryz.underlying27 rfl infFault hW19 trivial rfl rfl rfl rfl ?_
    refine sT 2 hW19 rfl rfl infFault rfl rfl rfl ?_
    clear hW19;intro w24 hW24
    refine St.nil fun a25 h25=>?_
    refine hK23 _ _ ?_
    refine wp_ret ?_;with_reducible repeat first | refine of_then_ret ?_ | refine of_block_ret ?_
    have R:firstF G 0 l=G q x:=by have h9:=firstF_eq (f:=G) (j:=0) hx1.out (fun k y hk hy=>by rw [Nat.zero_add];exact hall k y hk hy) (by rw [Nat.zero_add];exact hne);rwa [Nat.zero_add] at h9
    exact ret_box 2 h25 hW24 rfl rfl rfl Tryz.underlying27 rfl infFault ⟨by show Ending.returned (.agg #[.int .i64 ((G q x).1),.int .i64 ((G q x).2)])=_;rw [R],hW24.bel⟩
   have h9:((G q x).1)=0:=bne_eq_false_iff_eq.1 hb
   have hne:Hid (((G q x).1)=0):=h9
   clear h9
   clear hb
   refine wp_skip ?_
   refine hK11 _ _ ?_
   refine rg h22 fun ops=>?_;clear h22 a22
   refine sad (by omega) trivial rfl rfl rfl ?_
   refine sm trivial rfl rfl ?_
   refine St.nil fun a26 h26=>?_
   refine hKL _ _ (l.length - (q+1)) (by omega) ⟨q+1,by omega,rfl,?_,(h26.keep (h26.keep (h26.keep (h26.keep (h26.keep (h26.keep h26.nil (t:=10) rfl) (t:=9) rfl) (t:=8) rfl) (t:=4) rfl) (t:=0) rfl) (t:=1) rfl),hW19.tail.tail⟩
   ·intro j y hj hy
    by_cases e:j=q
    · subst e;rw [hx1.out] at hy;cases hy;exact hne.out
    · exact hall j y (by omega) hy
  have hge:q=l.length:=by have:=of_decide_eq_false hb;omega
  clear hb
  refine wp_exit ?_
  refine hK4 _ _ ?_
  refine wp_seq_k fun K27 hK27=>?_
  refine rg h9 fun ops=>?_;clear h9 a9
  intro a28 h28
  refine fr_pure (t:=24) (v:=.agg #[.int .i64 0,.int .i64 0]) (w':=w7) h28 rfl rfl rfl (fun K hK=>?_) ?_
  ·go_simp
   exact hK
  clear h28;intro a29 hF29
  refine St.go hF29 ?_;clear hF29 a29
  refine sT 0 hW7 rfl rfl infFault rfl rfl rfl ?_
  clear hW7;intro w30 hW30
  refine St.nil fun a31 h31=>?_
  refine hK27 _ _ ?_
  refine wp_ret ?_;with_reducible repeat first | refine of_then_ret ?_ | refine of_block_ret ?_
  have R:firstF G 0 l=(0,0):=firstF_zero (fun k y hy=>by rw [Nat.zero_add];exact hall k y (by have:=(List.getElem?_eq_some_iff.1 hy).1;omega) hy)
  exact ret_box 0 h31 hW30 rfl rfl rfl Tryz.underlying27 rfl infFault ⟨by show Ending.returned (.agg #[.int .i64 0,.int .i64 0])=_;rw [R],hW30.bel⟩
theorem ffBlock_any {n : Nat} {l : List (MBlock n)} {p : Option Addr} {c Bc : Nat} {w : World} (G : Nat → (MBlock n) → Int × Int) (hl0 : (blockL n).list.In w All l [.slice p l.length c]) (hsb : l.length ≤ 100000)
    (hcl0:∀ (i:Nat) x (z:BP) wx,l[i]?=some x→BIn wx All x z→Below w.heap.size w wx→Rd Tryz.prog 108 #[.int .i64 (i:Int),.agg #[.int .i64 x.regs,.slice z.pP x.params.length z.cP,.slice z.pC x.code.length z.cC,.int .i64 x.fin.op,.int .i64 x.fin.a,.int .i64 x.fin.yes.block,.slice z.e.pYR x.fin.yes.regs.length z.e.cYR,.slice z.e.pYA x.fin.yes.args.length z.e.cYA,.int .i64 x.fin.no.block,.slice z.e.pNR x.fin.no.regs.length z.e.cNR,.slice z.e.pNA x.fin.no.args.length z.e.cNA,.slice z.e.pA x.fin.args.length z.e.cA],.pointer (some ⟨Bc,0,none⟩)] wx (faultV (G i x))) :
    Rd Tryz.prog 107 #[.slice p l.length c,.func (.func 108) #[] #[.pointer (some ⟨Bc,0,none⟩)]] w (faultV (firstF G 0 l)):=by
  have hl:Hid _:=hl0
  have hcl:Hid _:=hcl0
  clear hl0 hcl0
  refine fr_enter (n:=25) Tryz.func107 rfl rfl rfl ?_
  intro a hF
  have hW:=Wd.start w
  replace hF:Fr 25 a [(0,.slice p l.length c),(1,.func (.func 108) #[] #[.pointer (some ⟨Bc,0,none⟩)])]:=hF
  refine wp_seq_k fun K1 hK1=>?_
  refine rg hF fun ops=>?_;clear hF a
  refine sAFault hW trivial rfl ?_
  clear hW;intro w2 B2 hW2 hN;clear hN
  refine St.nil fun a3 h3=>?_
  refine hK1 _ _ ?_
  refine wp_seq_k fun K4 hK4=>?_
  refine wp_seq_k fun K5 hK5=>?_
  refine rg h3 fun ops=>?_;clear h3 a3
  refine sm trivial rfl rfl ?_
  refine slBlocks trivial rfl rfl ?_
  refine sm trivial rfl rfl ?_
  refine St.nil fun a6 h6=>?_
  refine hK5 _ _ ?_
  refine wp_block ?_
  refine fr_loop (fun r a w'=>∃ q:Nat,q≤l.length∧r=l.length - q∧(∀ (j:Nat) y,j<q→l[j]?=some y→(G j y).1=0)∧Fr 25 a [(1,.func (.func 108) #[] #[.pointer (some ⟨Bc,0,none⟩)]),(0,.slice p l.length c),(4,.pointer (some ⟨B2,0,none⟩)),(8,.slice p l.length c),(9,.int .i64 (l.length:Int)),(10,.int .i64 (q:Int))]∧Wd w w' [(B2,#[.int .i64 0,.int .i64 0],27)]) (l.length) ⟨0,Nat.zero_le _,rfl,(fun j y hj=>by omega),(h6.keep (h6.keep (h6.keep (h6.keep (h6.keep (h6.keep h6.nil (t:=10) rfl) (t:=9) rfl) (t:=8) rfl) (t:=4) rfl) (t:=0) rfl) (t:=1) rfl),hW2⟩ ?_
  clear h6 hW2
  rintro r a7 w7 ⟨q,hq,hr,hall,hF7,hW7⟩ KL hKL
  refine wp_seq_k fun K8 hK8=>?_
  refine rg hF7 fun ops=>?_;clear hF7 a7
  refine slt trivial rfl rfl rfl ?_
  refine St.nil fun a9 h9=>?_
  refine hK8 _ _ ?_
  refine wp_seq_k fun K10 hK10=>?_
  refine fr_cond (t:=11) h9 rfl (fun hb=>?_) (fun hb=>?_)
  ·have hlt1:q<l.length:=by have:=of_decide_eq_true hb;omega
   clear hb
   obtain ⟨x,hx1⟩:∃ v9,(l)[q]?=some v9:=⟨_,List.getElem?_eq_getElem hlt1⟩
   obtain ⟨g1,o1,b1,hp1,E1,In1⟩:=block_at hl.out hx1
   replace In1:Hid _:=In1
   replace hp1:Hid _:=hp1
   replace hx1:Hid _:=hx1
   replace E1:Hid _:=E1
   refine wp_skip ?_
   refine hK10 _ _ ?_
   refine wp_seq_k fun K11 hK11=>?_
   refine wp_block ?_
   refine wp_seq_k fun K12 hK12=>?_
   refine rg h9 fun ops=>?_;clear h9 a9
   refine sm trivial rfl rfl ?_
   refine siBlocks hp1.out hlt1 trivial rfl rfl rfl ?_
   refine sSE Tryz.underlying52 rfl (rangeAt_bel E1.out hW7.bel) infBlock trivial rfl rfl ?_
   refine sABlock hW7 trivial rfl ?_
   clear hW7;intro w13 B13 hW13 hN;clear hN
   refine sa trivial rfl rfl ?_
   refine sT 0 hW13 rfl rfl infBlock rfl rfl rfl ?_
   clear hW13;intro w14 hW14
   refine St.nil fun a15 h15=>?_
   refine hK12 _ _ ?_
   refine wp_seq_k fun K16 hK16=>?_
   refine rg h15 fun ops=>?_;clear h15 a15
   refine sm trivial rfl rfl ?_
   refine sm trivial rfl rfl ?_
   refine sS 0 12 Tryz.underlying52 rfl infBlock hW14 trivial rfl rfl rfl rfl ?_
   refine sv_21 cf108 hW14 (hcl.out q x b1 w14 hx1.out (In1.out.below hW14.bel) hW14.bel) trivial rfl rfl rfl rfl ?_
   clear hW14;intro w17 hW17
   refine sAFault hW17 trivial rfl ?_
   clear hW17;intro w18 B18 hW18 hN;clear hN
   refine sT 0 hW18 rfl rfl infFault rfl rfl rfl ?_
   clear hW18;intro w19 hW19
   refine St.nil fun a20 h20=>?_
   refine hK16 _ _ ?_
   refine wp_seq_k fun K21 hK21=>?_
   refine rg h20 fun ops=>?_;clear h20 a20
   refine sfFault0 trivial rfl rfl ?_
   refine sbInt 0 hW19 trivial rfl rfl rfl rfl ?_
   refine sne trivial rfl rfl rfl ?_
   refine St.nil fun a22 h22=>?_
   refine hK21 _ _ ?_
   refine fr_cond (t:=21) h22 rfl (fun hb=>?_) (fun hb=>?_)
   ·have h9:¬ ((G q x).1)=0:=bne_iff_ne.1 hb
    have hne:¬ ((G q x).1)=0:=h9
    clear h9
    clear hb
    refine wp_seq_k fun K23 hK23=>?_
    refine rg h22 fun ops=>?_;clear h22 a22
    refine sS 0 2 Tryz.underlying27 rfl infFault hW19 trivial rfl rfl rfl rfl ?_
    refine sT 2 hW19 rfl rfl infFault rfl rfl rfl ?_
    clear hW19;intro w24 hW24
    refine St.nil fun a25 h25=>?_
    refine hK23 _ _ ?_
    refine wp_ret ?_;with_reducible repeat first | refine of_then_ret ?_ | refine of_block_ret ?_
    have R:firstF G 0 l=G q x:=by have h9:=firstF_eq (f:=G) (j:=0) hx1.out (fun k y hk hy=>by rw [Nat.zero_add];exact hall k y hk hy) (by rw [Nat.zero_add];exact hne);rwa [Nat.zero_add] at h9
    exact ret_box 2 h25 hW24 rfl rfl rfl Tryz.underlying27 rfl infFault ⟨by show Ending.returned (.agg #[.int .i64 ((G q x).1),.int .i64 ((G q x).2)])=_;rw [R],hW24.bel⟩
   have h9:((G q x).1)=0:=bne_eq_false_iff_eq.1 hb
   have hne:Hid (((G q x).1)=0):=h9
   clear h9
   clear hb
   refine wp_skip ?_
   refine hK11 _ _ ?_
   refine rg h22 fun ops=>?_;clear h22 a22
   refine sad (by omega) trivial rfl rfl rfl ?_
   refine sm trivial rfl rfl ?_
   refine St.nil fun a26 h26=>?_
   refine hKL _ _ (l.length - (q+1)) (by omega) ⟨q+1,by omega,rfl,?_,(h26.keep (h26.keep (h26.keep (h26.keep (h26.keep (h26.keep h26.nil (t:=10) rfl) (t:=9) rfl) (t:=8) rfl) (t:=4) rfl) (t:=0) rfl) (t:=1) rfl),hW19.tail.tail⟩
   ·intro j y hj hy
    by_cases e:j=q
    · subst e;rw [hx1.out] at hy;cases hy;exact hne.out
    · exact hall j y (by omega) hy
  have hge:q=l.length:=by have:=of_decide_eq_false hb;omega
  clear hb
  refine wp_exit ?_
  refine hK4 _ _ ?_
  refine wp_seq_k fun K27 hK27=>?_
  refine rg h9 fun ops=>?_;clear h9 a9
  intro a28 h28
  refine fr_pure (t:=24) (v:=.agg #[.int .i64 0,.int .i64 0]) (w':=w7) h28 rfl rfl rfl (fun K hK=>?_) ?_
  ·go_simp
   exact hK
  clear h28;intro a29 hF29
  refine St.go hF29 ?_;clear hF29 a29
  refine sT 0 hW7 rfl rfl infFault rfl rfl rfl ?_
  clear hW7;intro w30 hW30
  refine St.nil fun a31 h31=>?_
  refine hK27 _ _ ?_
  refine wp_ret ?_;with_reducible repeat first | refine of_then_ret ?_ | refine of_block_ret ?_
  have R:firstF G 0 l=(0,0):=firstF_zero (fun k y hy=>by rw [Nat.zero_add];exact hall k y (by have:=(List.getElem?_eq_some_iff.1 hy).1;omega) hy)
  exact ret_box 0 h31 hW30 rfl rfl rfl Tryz.underlying27 rfl infFault ⟨by show Ending.returned (.agg #[.int .i64 0,.int .i64 0])=_;rw [R],hW30.bel⟩
theorem ffFunc_any {n : Nat} {l : List (MFunc n)} {p : Option Addr} {c Bc : Nat} {w : World} (G : Nat → (MFunc n) → Int × Int) (hl0 : (modL n).In w All l [.slice p l.length c]) (hsb : l.length ≤ 100000)
    (hcl0:∀ (i:Nat) x (z:FP) wx,l[i]?=some x→FIn wx All x z→Below w.heap.size w wx→Rd Tryz.prog 55 #[.int .i64 (i:Int),.agg #[.int .i64 x.regs,.slice z.pP x.params.length z.cP,.slice z.pR x.results.length z.cR,.slice z.pB x.blocks.length z.cB],.pointer (some ⟨Bc,0,none⟩)] wx (faultV (G i x))) :
    Rd Tryz.prog 54 #[.slice p l.length c,.func (.func 55) #[] #[.pointer (some ⟨Bc,0,none⟩)]] w (faultV (firstF G 0 l)):=by
  have hl:Hid _:=hl0
  have hcl:Hid _:=hcl0
  clear hl0 hcl0
  refine fr_enter (n:=25) Tryz.func54 rfl rfl rfl ?_
  intro a hF
  have hW:=Wd.start w
  replace hF:Fr 25 a [(0,.slice p l.length c),(1,.func (.func 55) #[] #[.pointer (some ⟨Bc,0,none⟩)])]:=hF
  refine wp_seq_k fun K1 hK1=>?_
  refine rg hF fun ops=>?_;clear hF a
  refine sAFault hW trivial rfl ?_
  clear hW;intro w2 B2 hW2 hN;clear hN
  refine St.nil fun a3 h3=>?_
  refine hK1 _ _ ?_
  refine wp_seq_k fun K4 hK4=>?_
  refine wp_seq_k fun K5 hK5=>?_
  refine rg h3 fun ops=>?_;clear h3 a3
  refine sm trivial rfl rfl ?_
  refine slFuncs trivial rfl rfl ?_
  refine sm trivial rfl rfl ?_
  refine St.nil fun a6 h6=>?_
  refine hK5 _ _ ?_
  refine wp_block ?_
  refine fr_loop (fun r a w'=>∃ q:Nat,q≤l.length∧r=l.length - q∧(∀ (j:Nat) y,j<q→l[j]?=some y→(G j y).1=0)∧Fr 25 a [(1,.func (.func 55) #[] #[.pointer (some ⟨Bc,0,none⟩)]),(0,.slice p l.length c),(4,.pointer (some ⟨B2,0,none⟩)),(8,.slice p l.length c),(9,.int .i64 (l.length:Int)),(10,.int .i64 (q:Int))]∧Wd w w' [(B2,#[.int .i64 0,.int .i64 0],27)]) (l.length) ⟨0,Nat.zero_le _,rfl,(fun j y hj=>by omega),(h6.keep (h6.keep (h6.keep (h6.keep (h6.keep (h6.keep h6.nil (t:=10) rfl) (t:=9) rfl) (t:=8) rfl) (t:=4) rfl) (t:=0) rfl) (t:=1) rfl),hW2⟩ ?_
  clear h6 hW2
  rintro r a7 w7 ⟨q,hq,hr,hall,hF7,hW7⟩ KL hKL
  refine wp_seq_k fun K8 hK8=>?_
  refine rg hF7 fun ops=>?_;clear hF7 a7
  refine slt trivial rfl rfl rfl ?_
  refine St.nil fun a9 h9=>?_
  refine hK8 _ _ ?_
  refine wp_seq_k fun K10 hK10=>?_
  refine fr_cond (t:=11) h9 rfl (fun hb=>?_) (fun hb=>?_)
  ·have hlt1:q<l.length:=by have:=of_decide_eq_true hb;omega
   clear hb
   obtain ⟨x,hx1⟩:∃ v9,(l)[q]?=some v9:=⟨_,List.getElem?_eq_getElem hlt1⟩
   obtain ⟨g1,o1,f1,hp1,E1,In1⟩:=func_at hl.out hx1
   replace In1:Hid _:=In1
   replace hp1:Hid _:=hp1
   replace hx1:Hid _:=hx1
   replace E1:Hid _:=E1
   refine wp_skip ?_
   refine hK10 _ _ ?_
   refine wp_seq_k fun K11 hK11=>?_
   refine wp_block ?_
   refine wp_seq_k fun K12 hK12=>?_
   refine rg h9 fun ops=>?_;clear h9 a9
   refine sm trivial rfl rfl ?_
   refine siFuncs hp1.out hlt1 trivial rfl rfl rfl ?_
   refine sSE Tryz.underlying42 rfl (rangeAt_bel E1.out hW7.bel) infFunc trivial rfl rfl ?_
   refine sAFunc hW7 trivial rfl ?_
   clear hW7;intro w13 B13 hW13 hN;clear hN
   refine sa trivial rfl rfl ?_
   refine sT 0 hW13 rfl rfl infFunc rfl rfl rfl ?_
   clear hW13;intro w14 hW14
   refine St.nil fun a15 h15=>?_
   refine hK12 _ _ ?_
   refine wp_seq_k fun K16 hK16=>?_
   refine rg h15 fun ops=>?_;clear h15 a15
   refine sm trivial rfl rfl ?_
   refine sm trivial rfl rfl ?_
   refine sS 0 4 Tryz.underlying42 rfl infFunc hW14 trivial rfl rfl rfl rfl ?_
   refine sv_21 cf55 hW14 (hcl.out q x f1 w14 hx1.out (In1.out.below hW14.bel) hW14.bel) trivial rfl rfl rfl rfl ?_
   clear hW14;intro w17 hW17
   refine sAFault hW17 trivial rfl ?_
   clear hW17;intro w18 B18 hW18 hN;clear hN
   refine sT 0 hW18 rfl rfl infFault rfl rfl rfl ?_
   clear hW18;intro w19 hW19
   refine St.nil fun a20 h20=>?_
   refine hK16 _ _ ?_
   refine wp_seq_k fun K21 hK21=>?_
   refine rg h20 fun ops=>?_;clear h20 a20
   refine sfFault0 trivial rfl rfl ?_
   refine sbInt 0 hW19 trivial rfl rfl rfl rfl ?_
   refine sne trivial rfl rfl rfl ?_
   refine St.nil fun a22 h22=>?_
   refine hK21 _ _ ?_
   refine fr_cond (t:=21) h22 rfl (fun hb=>?_) (fun hb=>?_)
   ·have h9:¬ ((G q x).1)=0:=bne_iff_ne.1 hb
    have hne:¬ ((G q x).1)=0:=h9
    clear h9
    clear hb
    refine wp_seq_k fun K23 hK23=>?_
    refine rg h22 fun ops=>?_;clear h22 a22
    refine sS 0 2 Tryz.underlying27 rfl infFault hW19 trivial rfl rfl rfl rfl ?_
    refine sT 2 hW19 rfl rfl infFault rfl rfl rfl ?_
    clear hW19;intro w24 hW24
    refine St.nil fun a25 h25=>?_
    refine hK23 _ _ ?_
    refine wp_ret ?_;with_reducible repeat first | refine of_then_ret ?_ | refine of_block_ret ?_
    have R:firstF G 0 l=G q x:=by have h9:=firstF_eq (f:=G) (j:=0) hx1.out (fun k y hk hy=>by rw [Nat.zero_add];exact hall k y hk hy) (by rw [Nat.zero_add];exact hne);rwa [Nat.zero_add] at h9
    exact ret_box 2 h25 hW24 rfl rfl rfl Tryz.underlying27 rfl infFault ⟨by show Ending.returned (.agg #[.int .i64 ((G q x).1),.int .i64 ((G q x).2)])=_;rw [R],hW24.bel⟩
   have h9:((G q x).1)=0:=bne_eq_false_iff_eq.1 hb
   have hne:Hid (((G q x).1)=0):=h9
   clear h9
   clear hb
   refine wp_skip ?_
   refine hK11 _ _ ?_
   refine rg h22 fun ops=>?_;clear h22 a22
   refine sad (by omega) trivial rfl rfl rfl ?_
   refine sm trivial rfl rfl ?_
   refine St.nil fun a26 h26=>?_
   refine hKL _ _ (l.length - (q+1)) (by omega) ⟨q+1,by omega,rfl,?_,(h26.keep (h26.keep (h26.keep (h26.keep (h26.keep (h26.keep h26.nil (t:=10) rfl) (t:=9) rfl) (t:=8) rfl) (t:=4) rfl) (t:=0) rfl) (t:=1) rfl),hW19.tail.tail⟩
   ·intro j y hj hy
    by_cases e:j=q
    · subst e;rw [hx1.out] at hy;cases hy;exact hne.out
    · exact hall j y (by omega) hy
  have hge:q=l.length:=by have:=of_decide_eq_false hb;omega
  clear hb
  refine wp_exit ?_
  refine hK4 _ _ ?_
  refine wp_seq_k fun K27 hK27=>?_
  refine rg h9 fun ops=>?_;clear h9 a9
  intro a28 h28
  refine fr_pure (t:=24) (v:=.agg #[.int .i64 0,.int .i64 0]) (w':=w7) h28 rfl rfl rfl (fun K hK=>?_) ?_
  ·go_simp
   exact hK
  clear h28;intro a29 hF29
  refine St.go hF29 ?_;clear hF29 a29
  refine sT 0 hW7 rfl rfl infFault rfl rfl rfl ?_
  clear hW7;intro w30 hW30
  refine St.nil fun a31 h31=>?_
  refine hK27 _ _ ?_
  refine wp_ret ?_;with_reducible repeat first | refine of_then_ret ?_ | refine of_block_ret ?_
  have R:firstF G 0 l=(0,0):=firstF_zero (fun k y hy=>by rw [Nat.zero_add];exact hall k y (by have:=(List.getElem?_eq_some_iff.1 hy).1;omega) hy)
  exact ret_box 0 h31 hW30 rfl rfl rfl Tryz.underlying27 rfl infFault ⟨by show Ending.returned (.agg #[.int .i64 0,.int .i64 0])=_;rw [R],hW30.bel⟩
theorem clo97_any {n : Nat} {m : List (MFunc n)} {p : Option Addr} {c : Nat} {x : MFunc n} {fp : FP} {fi : Nat} {y : MBlock n} {bp : BP} {bi : Nat} {Bc : Nat} {w : World} {z : MIns} {zi : IP} {q : Nat} (hq : q < 1000000) (hm : m.length ≤ 100000) (hfi : fi < 1000000) (hbi : bi < 1000000) (hcap0 : Blk w Bc #[.slice p m.length c, .int .i64 x.regs, .slice fp.pP x.params.length fp.cP, .slice fp.pR x.results.length fp.cR, .slice fp.pB x.blocks.length fp.cB, .int .i64 (fi : Int), .int .i64 y.regs, .slice bp.pP y.params.length bp.cP, .slice bp.pC y.code.length bp.cC, .int .i64 y.fin.op, .int .i64 y.fin.a, .int .i64 y.fin.yes.block, .slice bp.e.pYR y.fin.yes.regs.length bp.e.cYR, .slice bp.e.pYA y.fin.yes.args.length bp.e.cYA, .int .i64 y.fin.no.block, .slice bp.e.pNR y.fin.no.regs.length bp.e.cNR, .slice bp.e.pNA y.fin.no.args.length bp.e.cNA, .slice bp.e.pA y.fin.args.length bp.e.cA, .int .i64 (bi : Int)] 148) :
    Rd Tryz.prog 139 #[.int .i64 (q:Int),.agg #[.int .i64 z.op,.int .i64 z.a,.int .i64 z.b,.int .i64 z.c,.int .i64 z.k,.int .i64 z.n,.slice zi.pR z.regs.length zi.cR,.slice zi.pA z.args.length zi.cA],.pointer (some ⟨Bc,0,none⟩)] w (faultV (atF (z.form m.length) (10000*(fi:Int)+100*(bi:Int)+(q:Int)))):=by
  have hcap:Hid _:=hcap0
  clear hcap0
  refine fr_enter (n:=19) Tryz.func139 rfl rfl rfl ?_
  intro a hF
  have hW:=Wd.start w
  replace hF:Fr 19 a [(0,.int .i64 (q:Int)),(1,.agg #[.int .i64 z.op,.int .i64 z.a,.int .i64 z.b,.int .i64 z.c,.int .i64 z.k,.int .i64 z.n,.slice zi.pR z.regs.length zi.cR,.slice zi.pA z.args.length zi.cA]),(2,.pointer (some ⟨Bc,0,none⟩))]:=hF
  refine wp_seq_k fun K1 hK1=>?_
  refine rg hF fun ops=>?_;clear hF a
  refine sB hW trivial rfl rfl ?_
  clear hW;intro w2 B2 hW2 hN;clear hN
  refine sAFault hW2 trivial rfl ?_
  clear hW2;intro w3 B3 hW3 hN;clear hN
  refine St.nil fun a4 h4=>?_
  refine hK1 _ _ ?_
  refine wp_seq_k fun K5 hK5=>?_
  have hF6:Fr 19 a4 [(2,.pointer (some ⟨Bc,0,none⟩)),(1,.agg #[.int .i64 z.op,.int .i64 z.a,.int .i64 z.b,.int .i64 z.c,.int .i64 z.k,.int .i64 z.n,.slice zi.pR z.regs.length zi.cR,.slice zi.pA z.args.length zi.cA]),(0,.int .i64 (q:Int)),(4,.pointer (some ⟨B2,0,none⟩)),(5,.pointer (some ⟨B3,0,none⟩))]:=(h4.keep (h4.keep (h4.keep (h4.keep (h4.keep h4.nil (t:=5) rfl) (t:=4) rfl) (t:=0) rfl) (t:=1) rfl) (t:=2) rfl)
  have ho2:a4.tmps.getD 2 undef=.pointer (some ⟨Bc,0,none⟩):=h4.sl 2 _ rfl
  have ho4:a4.tmps.getD 4 undef=.pointer (some ⟨B2,0,none⟩):=h4.sl 4 _ rfl
  have ho0:a4.tmps.getD 0 undef=.int .i64 (q:Int):=h4.sl 0 _ rfl
  refine fr_draw_k 13 ([(2,fun v _=>v=.pointer (some ⟨Bc,0,none⟩)),(4,fun v _=>v=.pointer (some ⟨B2,0,none⟩)),(0,fun v _=>v=.int .i64 (q:Int)),(6,fun v _=>v=.pointer (some ⟨Bc,0,none⟩)),(7,fun v _=>v=.pointer (some ⟨Bc,0,none⟩)),(8,fun v _=>v=.agg #[.slice p m.length c]),(9,fun v _=>v=.agg #[.int .i64 z.op,.int .i64 z.a,.int .i64 z.b,.int .i64 z.c,.int .i64 z.k,.int .i64 z.n,.slice zi.pR z.regs.length zi.cR,.slice zi.pA z.args.length zi.cA]),(10,fun v _=>v=.int .i64 (z.form m.length)),(11,fun v _=>v=.pointer (some ⟨Bc,0,none⟩)),(12,fun v _=>v=.pointer (some ⟨Bc,5,none⟩)),(13,fun v _=>v=.int .i64 (fi:Int)),(14,fun v _=>v=.pointer (some ⟨Bc,18,none⟩)),(15,fun v _=>v=.int .i64 (bi:Int)),(16,fun v _=>v=.int .i64 (q:Int)),(17,fun v _=>v=.int .i64 (10000*(fi:Int)+100*(bi:Int)+(q:Int))),(18,fun v _=>v=.agg #[.int .i64 ((atF (z.form m.length) (10000*(fi:Int)+100*(bi:Int)+(q:Int))).1),.int .i64 ((atF (z.form m.length) (10000*(fi:Int)+100*(bi:Int)+(q:Int))).2)])]:PTab) (fun w'=>Wd w w' [(B3,#[.int .i64 0,.int .i64 0],27),(B2,#[.int .i64 z.op,.int .i64 z.a,.int .i64 z.b,.int .i64 z.c,.int .i64 z.k,.int .i64 z.n,.slice zi.pR z.regs.length zi.cR,.slice zi.pA z.args.length zi.cA],45)]∧Below w3.heap.size w3 w') (fun w w'=>Below w.heap.size w w') (outs:=[2,4,0]) (gs:=[]) (bs:=[true,true,true,true,true,true,true,true,true,true,true,true,true]) (by kernel_rfl) hF6 rfl (by kernel_rfl) (by kernel_rfl) ?hR ?hG ⟨hW3.drewN 1,drewN_below (m:=1) (Below.refl _ _)⟩ ⟨ho2,ho4,ho0,trivial⟩ ?hA ?hend
  case hR=>exact ⟨fun _ _ _ _ h=>h,fun _ _ _ _ h=>h,fun _ _ _ _ h=>h,fun _ _ _ _ h=>h,fun _ _ _ _ h=>h,fun _ _ _ _ h=>h,fun _ _ _ _ h=>h,fun _ _ _ _ h=>h,fun _ _ _ _ h=>h,fun _ _ _ _ h=>h,fun _ _ _ _ h=>h,fun _ _ _ _ h=>h,fun _ _ _ _ h=>h,fun _ _ _ _ h=>h,fun _ _ _ _ h=>h,fun _ _ _ _ h=>h,trivial⟩
  case hG=>exact trivial
  case hA =>
   refine ⟨fun a w hW hk K hK=>?_,?_⟩
   · obtain ⟨k0,-⟩:=hk
     have k0:a.tmps.getD 2 undef=.pointer (some ⟨Bc,0,none⟩):=k0
     go_simp
     exact hK _ _ (Below.refl _ _) hW rfl
   refine ⟨fun a w hW hk K hK=>?_,?_⟩
   · obtain ⟨k0,-⟩:=hk
     have k0:a.tmps.getD 6 undef=.pointer (some ⟨Bc,0,none⟩):=k0
     go_simp
     exact hK _ _ (Below.refl _ _) hW rfl
   refine ⟨fun a w hW hk K hK=>?_,?_⟩
   · obtain ⟨k0,-⟩:=hk
     have k0:a.tmps.getD 7 undef=.pointer (some ⟨Bc,0,none⟩):=k0
     have d0:w.cell? ⟨Bc,0,none⟩=some (.slice p m.length c):=bel_cell hW.1.bel (cellOf hcap.out 0 _ rfl)
     go_simp
     exact hK _ _ (Below.refl _ _) hW rfl
   refine ⟨fun a w hW hk K hK=>?_,?_⟩
   · obtain ⟨k0,-⟩:=hk
     have k0:a.tmps.getD 4 undef=.pointer (some ⟨B2,0,none⟩):=k0
     have c0:w.cell? ⟨B2,0,none⟩=some (.int .i64 z.op):=cellOf (hW.1.get 1 rfl) 0 _ rfl
     have c1:w.cell? ⟨B2,1,none⟩=some (.int .i64 z.a):=cellOf (hW.1.get 1 rfl) 1 _ rfl
     have c2:w.cell? ⟨B2,2,none⟩=some (.int .i64 z.b):=cellOf (hW.1.get 1 rfl) 2 _ rfl
     have c3:w.cell? ⟨B2,3,none⟩=some (.int .i64 z.c):=cellOf (hW.1.get 1 rfl) 3 _ rfl
     have c4:w.cell? ⟨B2,4,none⟩=some (.int .i64 z.k):=cellOf (hW.1.get 1 rfl) 4 _ rfl
     have c5:w.cell? ⟨B2,5,none⟩=some (.int .i64 z.n):=cellOf (hW.1.get 1 rfl) 5 _ rfl
     have c6:w.cell? ⟨B2,6,none⟩=some (.slice zi.pR z.regs.length zi.cR):=cellOf (hW.1.get 1 rfl) 6 _ rfl
     have c7:w.cell? ⟨B2,7,none⟩=some (.slice zi.pA z.args.length zi.cA):=cellOf (hW.1.get 1 rfl) 7 _ rfl
     go_simp
     exact hK _ _ (Below.refl _ _) hW rfl
   refine ⟨fun a w hW hk K hK=>?_,?_⟩
   · obtain ⟨k0,k1,-⟩:=hk
     have k0:a.tmps.getD 8 undef=.agg #[.slice p m.length c]:=k0
     have k1:a.tmps.getD 9 undef=.agg #[.int .i64 z.op,.int .i64 z.a,.int .i64 z.b,.int .i64 z.c,.int .i64 z.k,.int .i64 z.n,.slice zi.pR z.regs.length zi.cR,.slice zi.pA z.args.length zi.cA]:=k1
     have hC:Rd Tryz.prog 140 #[.agg #[.slice p m.length c],.agg #[.int .i64 z.op,.int .i64 z.a,.int .i64 z.b,.int .i64 z.c,.int .i64 z.k,.int .i64 z.n,.slice zi.pR z.regs.length zi.cR,.slice zi.pA z.args.length zi.cA]] w (.int .i64 (z.form m.length)):=cIns_any m.length z zi p c w (by omega)
     go_simp
     refine hC.mono ?_
     rintro e w9 ⟨rfl,hb⟩
     exact hK _ _ hb ⟨hW.1.below hb,Below.andThen hW.2 hb⟩ rfl
   refine ⟨fun a w hW hk K hK=>?_,?_⟩
   · obtain ⟨k0,-⟩:=hk
     have k0:a.tmps.getD 2 undef=.pointer (some ⟨Bc,0,none⟩):=k0
     go_simp
     exact hK _ _ (Below.refl _ _) hW rfl
   refine ⟨fun a w hW hk K hK=>?_,?_⟩
   · obtain ⟨k0,-⟩:=hk
     have k0:a.tmps.getD 11 undef=.pointer (some ⟨Bc,0,none⟩):=k0
     go_simp
     exact hK _ _ (Below.refl _ _) hW rfl
   refine ⟨fun a w hW hk K hK=>?_,?_⟩
   · obtain ⟨k0,-⟩:=hk
     have k0:a.tmps.getD 12 undef=.pointer (some ⟨Bc,5,none⟩):=k0
     have d5:w.cell? ⟨Bc,5,none⟩=some (.int .i64 (fi:Int)):=bel_cell hW.1.bel (cellOf hcap.out 5 _ rfl)
     go_simp
     exact hK _ _ (Below.refl _ _) hW rfl
   refine ⟨fun a w hW hk K hK=>?_,?_⟩
   · obtain ⟨k0,-⟩:=hk
     have k0:a.tmps.getD 2 undef=.pointer (some ⟨Bc,0,none⟩):=k0
     go_simp
     exact hK _ _ (Below.refl _ _) hW rfl
   refine ⟨fun a w hW hk K hK=>?_,?_⟩
   · obtain ⟨k0,-⟩:=hk
     have k0:a.tmps.getD 14 undef=.pointer (some ⟨Bc,18,none⟩):=k0
     have d18:w.cell? ⟨Bc,18,none⟩=some (.int .i64 (bi:Int)):=bel_cell hW.1.bel (cellOf hcap.out 18 _ rfl)
     go_simp
     exact hK _ _ (Below.refl _ _) hW rfl
   refine ⟨fun a w hW hk K hK=>?_,?_⟩
   · obtain ⟨k0,-⟩:=hk
     have k0:a.tmps.getD 0 undef=.int .i64 (q:Int):=k0
     go_simp
     exact hK _ _ (Below.refl _ _) hW rfl
   refine ⟨fun a w hW hk K hK=>?_,?_⟩
   · obtain ⟨k0,k1,k2,-⟩:=hk
     have k0:a.tmps.getD 13 undef=.int .i64 (fi:Int):=k0
     have k1:a.tmps.getD 15 undef=.int .i64 (bi:Int):=k1
     have k2:a.tmps.getD 16 undef=.int .i64 (q:Int):=k2
     have hC:Rd Tryz.prog 141 #[.int .i64 (fi:Int),.int .i64 (bi:Int),.int .i64 (q:Int)] w (.int .i64 (10000*(fi:Int)+100*(bi:Int)+(q:Int))):=cInsAt_any (f:=fi) (b:=bi) (i:=q) ⟨by omega,by omega,by omega⟩
     go_simp
     refine hC.mono ?_
     rintro e w9 ⟨rfl,hb⟩
     exact hK _ _ hb ⟨hW.1.below hb,Below.andThen hW.2 hb⟩ rfl
   refine ⟨fun a w hW hk K hK=>?_,?_⟩
   · obtain ⟨k0,k1,-⟩:=hk
     have k0:a.tmps.getD 10 undef=.int .i64 (z.form m.length):=k0
     have k1:a.tmps.getD 17 undef=.int .i64 (10000*(fi:Int)+100*(bi:Int)+(q:Int)):=k1
     have hC:Rd Tryz.prog 105 #[.int .i64 (z.form m.length),.int .i64 (10000*(fi:Int)+100*(bi:Int)+(q:Int))] w (.agg #[.int .i64 ((atF (z.form m.length) (10000*(fi:Int)+100*(bi:Int)+(q:Int))).1),.int .i64 ((atF (z.form m.length) (10000*(fi:Int)+100*(bi:Int)+(q:Int))).2)]):=faultAt_any (xc:=z.form m.length) (xp:=10000*(fi:Int)+100*(bi:Int)+(q:Int))
     go_simp
     refine hC.mono ?_
     rintro e w9 ⟨rfl,hb⟩
     exact hK _ _ hb ⟨hW.1.below hb,Below.andThen hW.2 hb⟩ rfl
   trivial
  case hend =>
   intro ops a7 w7 hWD hE hFD
   have hd18:a7.tmps.getD 18 undef=.agg #[.int .i64 ((atF (z.form m.length) (10000*(fi:Int)+100*(bi:Int)+(q:Int))).1),.int .i64 ((atF (z.form m.length) (10000*(fi:Int)+100*(bi:Int)+(q:Int))).2)]:=hE 18 rfl
   have hF7:Fr 19 a7 [(18,.agg #[.int .i64 ((atF (z.form m.length) (10000*(fi:Int)+100*(bi:Int)+(q:Int))).1),.int .i64 ((atF (z.form m.length) (10000*(fi:Int)+100*(bi:Int)+(q:Int))).2)]),(2,.pointer (some ⟨Bc,0,none⟩)),(1,.agg #[.int .i64 z.op,.int .i64 z.a,.int .i64 z.b,.int .i64 z.c,.int .i64 z.k,.int .i64 z.n,.slice zi.pR z.regs.length zi.cR,.slice zi.pA z.args.length zi.cA]),(0,.int .i64 (q:Int)),(4,.pointer (some ⟨B2,0,none⟩)),(5,.pointer (some ⟨B3,0,none⟩))]:=(hFD.cons hd18)
   clear hd18
   have hW7:Wd w w7 [(B3,#[.int .i64 0,.int .i64 0],27),(B2,#[.int .i64 z.op,.int .i64 z.a,.int .i64 z.b,.int .i64 z.c,.int .i64 z.k,.int .i64 z.n,.slice zi.pR z.regs.length zi.cR,.slice zi.pA z.args.length zi.cA],45)]:=hWD.1
   clear hFD hWD hE hF6 h4
   clear hW3
   refine St.go hF7 ?_;clear hF7 a7
   refine sT 0 hW7 rfl rfl infFault rfl rfl rfl ?_
   clear hW7;intro w8 hW8
   refine St.nil fun a9 h9=>?_
   refine hK5 _ _ ?_
   refine wp_ret ?_;with_reducible repeat first | refine of_then_ret ?_ | refine of_block_ret ?_
   exact ret_box 0 h9 hW8 rfl rfl rfl Tryz.underlying27 rfl infFault ⟨rfl,hW8.bel⟩
theorem cBlockFault_any {n : Nat} {m : List (MFunc n)} {p : Option Addr} {c : Nat} {x : MFunc n} {fp : FP} {fi : Nat} {y : MBlock n} {bp : BP} {bi : Nat} {w : World} (hx0 : FIn w All x fp) (hs0 : x.small) (hy0 : BIn w All y bp) (ht0 : y.small) (hm : m.length ≤ 100000) (hfi : fi < 1000000) (hbi : bi < 1000000) :
    Rd Tryz.prog 109 #[.agg #[.slice p m.length c,.int .i64 x.regs,.slice fp.pP x.params.length fp.cP,.slice fp.pR x.results.length fp.cR,.slice fp.pB x.blocks.length fp.cB,.int .i64 (fi:Int),.int .i64 y.regs,.slice bp.pP y.params.length bp.cP,.slice bp.pC y.code.length bp.cC,.int .i64 y.fin.op,.int .i64 y.fin.a,.int .i64 y.fin.yes.block,.slice bp.e.pYR y.fin.yes.regs.length bp.e.cYR,.slice bp.e.pYA y.fin.yes.args.length bp.e.cYA,.int .i64 y.fin.no.block,.slice bp.e.pNR y.fin.no.regs.length bp.e.cNR,.slice bp.e.pNA y.fin.no.args.length bp.e.cNA,.slice bp.e.pA y.fin.args.length bp.e.cA,.int .i64 (bi:Int)]] w (faultV (MBlock.fault m.length fi x bi y)):=by
  have hx:Hid _:=hx0
  have hs:Hid _:=hs0
  have hy:Hid _:=hy0
  have ht:Hid _:=ht0
  clear hx0 hs0 hy0 ht0
  refine fr_enter (n:=40) Tryz.func109 rfl rfl rfl ?_
  intro a hF
  have hW:=Wd.start w
  replace hF:Fr 40 a [(0,.agg #[.slice p m.length c,.int .i64 x.regs,.slice fp.pP x.params.length fp.cP,.slice fp.pR x.results.length fp.cR,.slice fp.pB x.blocks.length fp.cB,.int .i64 (fi:Int),.int .i64 y.regs,.slice bp.pP y.params.length bp.cP,.slice bp.pC y.code.length bp.cC,.int .i64 y.fin.op,.int .i64 y.fin.a,.int .i64 y.fin.yes.block,.slice bp.e.pYR y.fin.yes.regs.length bp.e.cYR,.slice bp.e.pYA y.fin.yes.args.length bp.e.cYA,.int .i64 y.fin.no.block,.slice bp.e.pNR y.fin.no.regs.length bp.e.cNR,.slice bp.e.pNA y.fin.no.args.length bp.e.cNA,.slice bp.e.pA y.fin.args.length bp.e.cA,.int .i64 (bi:Int)])]:=hF
  refine wp_seq_k fun K1 hK1=>?_
  refine rg hF fun ops=>?_;clear hF a
  refine sB hW trivial rfl rfl ?_
  clear hW;intro w2 B2 hW2 hN;clear hN
  refine sAFault hW2 trivial rfl ?_
  clear hW2;intro w3 B3 hW3 hN;clear hN
  refine St.nil fun a4 h4=>?_
  refine hK1 _ _ ?_
  refine wp_seq_k fun K5 hK5=>?_
  refine wp_seq_k fun K6 hK6=>?_
  refine rg h4 fun ops=>?_;clear h4 a4
  refine sS 1 19 Tryz.underlying148 rfl infblockLook hW3 trivial rfl rfl rfl rfl ?_
  refine sc_1 cf136 hW3 (blockCode_any (m:=m) (p:=p) (c:=c) (fi:=fi) (bi:=bi) (hx.out.below hW3.bel) hs.out (hy.out.below hW3.bel) ht.out) trivial rfl rfl ?_
  clear hW3;intro w7 hW7
  refine sa trivial rfl rfl ?_
  refine St.nil fun a8 h8=>?_
  refine hK6 _ _ ?_
  refine wp_seq_k fun K9 hK9=>?_
  refine rg h8 fun ops=>?_;clear h8 a8
  refine sm trivial rfl rfl ?_
  refine sne trivial rfl rfl rfl ?_
  refine St.nil fun a10 h10=>?_
  refine hK9 _ _ ?_
  refine fr_cond (t:=8) h10 rfl (fun hb=>?_) (fun hb=>?_)
  ·have h9:¬ (y.code' x bi)=0:=bne_iff_ne.1 hb
   have hc11:¬ (y.code' x bi)=0:=h9
   clear h9
   clear hb
   refine wp_seq_k fun K12 hK12=>?_
   refine rg h10 fun ops=>?_;clear h10 a10
   refine sm trivial rfl rfl ?_
   refine sfblockLook0 trivial rfl rfl ?_
   refine sffuncLook2 trivial rfl rfl ?_
   refine sbInt 1 hW7 trivial rfl rfl rfl rfl ?_
   refine sfblockLook2 trivial rfl rfl ?_
   refine sbInt 1 hW7 trivial rfl rfl rfl rfl ?_
   refine sc_2 cf137 hW7 (cBlockAt_any (f:=fi) (b:=bi) ⟨by omega,by omega⟩) trivial rfl rfl rfl ?_
   clear hW7;intro w13 hW13
   refine sc_2 cf105 hW13 (faultAt_any (xc:=y.code' x bi) (xp:=10000*(fi:Int)+100*(bi:Int)+90)) trivial rfl rfl rfl ?_
   clear hW13;intro w14 hW14
   refine sT 0 hW14 rfl rfl infFault rfl rfl rfl ?_
   clear hW14;intro w15 hW15
   refine St.nil fun a16 h16=>?_
   refine hK12 _ _ ?_
   refine wp_ret ?_;with_reducible repeat first | refine of_then_ret ?_ | refine of_block_ret ?_
   have e0:=hc11
   have EF:=MBlock.fault_eq m.length fi x bi y
   have EI:=firstF_at (f:=fun i z=>(MIns.form m.length z,(10000*(fi:Int)+100*(bi:Int)+(i:Int)))) (l:=y.code) (j:=0)
   dsimp only at EI
   rw [if_neg e0] at EF
   exact ret_box 0 h16 hW15 rfl rfl rfl Tryz.underlying27 rfl infFault ⟨by show Ending.returned (.agg #[.int .i64 ((atF (y.code' x bi) (10000*(fi:Int)+100*(bi:Int)+90)).1),.int .i64 ((atF (y.code' x bi) (10000*(fi:Int)+100*(bi:Int)+90)).2)])=_;rw [EF] ;simp [atF,e0],hW15.bel⟩
  have h9:(y.code' x bi)=0:=bne_eq_false_iff_eq.1 hb
  have hc17:Hid ((y.code' x bi)=0):=h9
  clear h9
  clear hb
  refine wp_skip ?_
  refine hK5 _ _ ?_
  refine wp_seq_k fun K18 hK18=>?_
  refine rg h10 fun ops=>?_;clear h10 a10
  refine sfblockLook1 trivial rfl rfl ?_
  refine sfBlock2 trivial rfl rfl ?_
  refine sbInss 1 hW7 trivial rfl rfl rfl rfl ?_
  intro a19 h19
  refine fr_pure (t:=20) (v:=.func (.func 139) #[] #[.pointer (some ⟨B2,0,none⟩)]) (w':=w7) h19 rfl rfl rfl (fun K hK=>?_) ?_
  ·have k0:a19.tmps.getD 1 undef=.pointer (some ⟨B2,0,none⟩):=h19.sl 1 _ rfl
   go_simp
   exact hK
  clear h19;intro a20 hF20
  refine St.go hF20 ?_;clear hF20 a20
  refine sc_2 cf138 hW7 (ffIns_any (Bc:=B2) (fun i z=>atF (MIns.form m.length z) (10000*(fi:Int)+100*(bi:Int)+(i:Int))) (Lay.below hy.out.code hW7.bel) ht.out.1 (fun i z zi wx hz hi hb=>clo97_any (y:=y) (by have h9:=(List.getElem?_eq_some_iff.1 hz).1;have:=ht.out.1;omega) hm hfi hbi ((hW7.get 1 rfl).below hb))) trivial rfl rfl rfl ?_
  clear hW7;intro w21 hW21
  refine sAFault hW21 trivial rfl ?_
  clear hW21;intro w22 B22 hW22 hN;clear hN
  refine sT 0 hW22 rfl rfl infFault rfl rfl rfl ?_
  clear hW22;intro w23 hW23
  refine St.nil fun a24 h24=>?_
  refine hK18 _ _ ?_
  refine wp_seq_k fun K25 hK25=>?_
  refine wp_seq_k fun K26 hK26=>?_
  refine rg h24 fun ops=>?_;clear h24 a24
  refine sfFault0 trivial rfl rfl ?_
  refine sbInt 0 hW23 trivial rfl rfl rfl rfl ?_
  refine sne trivial rfl rfl rfl ?_
  refine St.nil fun a27 h27=>?_
  refine hK26 _ _ ?_
  refine fr_cond (t:=24) h27 rfl (fun hb=>?_) (fun hb=>?_)
  ·have h9:¬ ((firstF (fun i z=>atF (MIns.form m.length z) (10000*(fi:Int)+100*(bi:Int)+(i:Int))) 0 y.code).1)=0:=bne_iff_ne.1 hb
   have hc28:¬ ((firstF (fun i z=>atF (MIns.form m.length z) (10000*(fi:Int)+100*(bi:Int)+(i:Int))) 0 y.code).1)=0:=h9
   clear h9
   clear hb
   refine wp_seq_k fun K29 hK29=>?_
   refine rg h27 fun ops=>?_;clear h27 a27
   refine sS 0 2 Tryz.underlying27 rfl infFault hW23 trivial rfl rfl rfl rfl ?_
   refine sT 1 hW23 rfl rfl infFault rfl rfl rfl ?_
   clear hW23;intro w30 hW30
   refine St.nil fun a31 h31=>?_
   refine hK29 _ _ ?_
   refine wp_ret ?_;with_reducible repeat first | refine of_then_ret ?_ | refine of_block_ret ?_
   have e0:=hc17.out
   have e1:=hc28
   have EF:=MBlock.fault_eq m.length fi x bi y
   have EI:=firstF_at (f:=fun i z=>(MIns.form m.length z,(10000*(fi:Int)+100*(bi:Int)+(i:Int)))) (l:=y.code) (j:=0)
   dsimp only at EI
   rw [if_pos e0,if_neg (by rw [← EI];exact e1),← EI] at EF
   exact ret_box 1 h31 hW30 rfl rfl rfl Tryz.underlying27 rfl infFault ⟨by show Ending.returned (.agg #[.int .i64 ((firstF (fun i z=>atF (MIns.form m.length z) (10000*(fi:Int)+100*(bi:Int)+(i:Int))) 0 y.code).1),.int .i64 ((firstF (fun i z=>atF (MIns.form m.length z) (10000*(fi:Int)+100*(bi:Int)+(i:Int))) 0 y.code).2)])=_;rw [EF],hW30.bel⟩
  have h9:((firstF (fun i z=>atF (MIns.form m.length z) (10000*(fi:Int)+100*(bi:Int)+(i:Int))) 0 y.code).1)=0:=bne_eq_false_iff_eq.1 hb
  have hc32:Hid (((firstF (fun i z=>atF (MIns.form m.length z) (10000*(fi:Int)+100*(bi:Int)+(i:Int))) 0 y.code).1)=0):=h9
  clear h9
  clear hb
  refine wp_skip ?_
  refine hK25 _ _ ?_
  refine wp_seq_k fun K33 hK33=>?_
  have hF34:Fr 40 a27 [(0,.agg #[.slice p m.length c,.int .i64 x.regs,.slice fp.pP x.params.length fp.cP,.slice fp.pR x.results.length fp.cR,.slice fp.pB x.blocks.length fp.cB,.int .i64 (fi:Int),.int .i64 y.regs,.slice bp.pP y.params.length bp.cP,.slice bp.pC y.code.length bp.cC,.int .i64 y.fin.op,.int .i64 y.fin.a,.int .i64 y.fin.yes.block,.slice bp.e.pYR y.fin.yes.regs.length bp.e.cYR,.slice bp.e.pYA y.fin.yes.args.length bp.e.cYA,.int .i64 y.fin.no.block,.slice bp.e.pNR y.fin.no.regs.length bp.e.cNR,.slice bp.e.pNA y.fin.no.args.length bp.e.cNA,.slice bp.e.pA y.fin.args.length bp.e.cA,.int .i64 (bi:Int)]),(1,.pointer (some ⟨B2,0,none⟩)),(2,.pointer (some ⟨B3,0,none⟩)),(3,.int .i64 (y.code' x bi)),(4,.pointer (some ⟨B22,0,none⟩))]:=(h27.keep (h27.keep (h27.keep (h27.keep (h27.keep h27.nil (t:=4) rfl) (t:=3) rfl) (t:=2) rfl) (t:=1) rfl) (t:=0) rfl)
  have ho1:a27.tmps.getD 1 undef=.pointer (some ⟨B2,0,none⟩):=h27.sl 1 _ rfl
  refine fr_draw_k 14 ([(1,fun v _=>v=.pointer (some ⟨B2,0,none⟩)),(26,fun v _=>v=.pointer (some ⟨B2,0,none⟩)),(27,fun v _=>v=.pointer (some ⟨B2,1,none⟩)),(28,fun v _=>v=.agg #[.int .i64 x.regs,.slice fp.pP x.params.length fp.cP,.slice fp.pR x.results.length fp.cR,.slice fp.pB x.blocks.length fp.cB]),(29,fun v _=>v=.pointer (some ⟨B2,6,none⟩)),(30,fun v _=>v=.pointer (some ⟨B2,9,none⟩)),(31,fun v _=>v=.agg #[.int .i64 y.fin.op,.int .i64 y.fin.a,.int .i64 y.fin.yes.block,.slice bp.e.pYR y.fin.yes.regs.length bp.e.cYR,.slice bp.e.pYA y.fin.yes.args.length bp.e.cYA,.int .i64 y.fin.no.block,.slice bp.e.pNR y.fin.no.regs.length bp.e.cNR,.slice bp.e.pNA y.fin.no.args.length bp.e.cNA,.slice bp.e.pA y.fin.args.length bp.e.cA]),(32,fun v _=>v=.int .i64 (y.fin.form x.blocks.length)),(33,fun v _=>v=.pointer (some ⟨B2,0,none⟩)),(34,fun v _=>v=.pointer (some ⟨B2,5,none⟩)),(35,fun v _=>v=.int .i64 (fi:Int)),(36,fun v _=>v=.pointer (some ⟨B2,18,none⟩)),(37,fun v _=>v=.int .i64 (bi:Int)),(38,fun v _=>v=.int .i64 (10000*(fi:Int)+100*(bi:Int)+91)),(39,fun v _=>v=.agg #[.int .i64 ((atF (y.fin.form x.blocks.length) (10000*(fi:Int)+100*(bi:Int)+91)).1),.int .i64 ((atF (y.fin.form x.blocks.length) (10000*(fi:Int)+100*(bi:Int)+91)).2)])]:PTab) (fun w'=>Wd w w' [(B22,#[.int .i64 ((firstF (fun i z=>atF (MIns.form m.length z) (10000*(fi:Int)+100*(bi:Int)+(i:Int))) 0 y.code).1),.int .i64 ((firstF (fun i z=>atF (MIns.form m.length z) (10000*(fi:Int)+100*(bi:Int)+(i:Int))) 0 y.code).2)],27),(B3,#[.int .i64 0,.int .i64 0],27),(B2,#[.slice p m.length c,.int .i64 x.regs,.slice fp.pP x.params.length fp.cP,.slice fp.pR x.results.length fp.cR,.slice fp.pB x.blocks.length fp.cB,.int .i64 (fi:Int),.int .i64 y.regs,.slice bp.pP y.params.length bp.cP,.slice bp.pC y.code.length bp.cC,.int .i64 y.fin.op,.int .i64 y.fin.a,.int .i64 y.fin.yes.block,.slice bp.e.pYR y.fin.yes.regs.length bp.e.cYR,.slice bp.e.pYA y.fin.yes.args.length bp.e.cYA,.int .i64 y.fin.no.block,.slice bp.e.pNR y.fin.no.regs.length bp.e.cNR,.slice bp.e.pNA y.fin.no.args.length bp.e.cNA,.slice bp.e.pA y.fin.args.length bp.e.cA,.int .i64 (bi:Int)],148)]∧Below w23.heap.size w23 w') (fun w w'=>Below w.heap.size w w') (outs:=[1]) (gs:=[]) (bs:=[true,true,true,true,true,true,true,true,true,true,true,true,true,true]) (by kernel_rfl) hF34 rfl (by kernel_rfl) (by kernel_rfl) ?hR ?hG ⟨hW23.drewN 1,drewN_below (m:=1) (Below.refl _ _)⟩ ⟨ho1,trivial⟩ ?hA ?hend
  case hR=>exact ⟨fun _ _ _ _ h=>h,fun _ _ _ _ h=>h,fun _ _ _ _ h=>h,fun _ _ _ _ h=>h,fun _ _ _ _ h=>h,fun _ _ _ _ h=>h,fun _ _ _ _ h=>h,fun _ _ _ _ h=>h,fun _ _ _ _ h=>h,fun _ _ _ _ h=>h,fun _ _ _ _ h=>h,fun _ _ _ _ h=>h,fun _ _ _ _ h=>h,fun _ _ _ _ h=>h,fun _ _ _ _ h=>h,trivial⟩
  case hG=>exact trivial
  case hA =>
   refine ⟨fun a w hW hk K hK=>?_,?_⟩
   · obtain ⟨k0,-⟩:=hk
     have k0:a.tmps.getD 1 undef=.pointer (some ⟨B2,0,none⟩):=k0
     go_simp
     exact hK _ _ (Below.refl _ _) hW rfl
   refine ⟨fun a w hW hk K hK=>?_,?_⟩
   · obtain ⟨k0,-⟩:=hk
     have k0:a.tmps.getD 26 undef=.pointer (some ⟨B2,0,none⟩):=k0
     go_simp
     exact hK _ _ (Below.refl _ _) hW rfl
   refine ⟨fun a w hW hk K hK=>?_,?_⟩
   · obtain ⟨k0,-⟩:=hk
     have k0:a.tmps.getD 27 undef=.pointer (some ⟨B2,1,none⟩):=k0
     have c1:w.cell? ⟨B2,1,none⟩=some (.int .i64 x.regs):=cellOf (hW.1.get 2 rfl) 1 _ rfl
     have c2:w.cell? ⟨B2,2,none⟩=some (.slice fp.pP x.params.length fp.cP):=cellOf (hW.1.get 2 rfl) 2 _ rfl
     have c3:w.cell? ⟨B2,3,none⟩=some (.slice fp.pR x.results.length fp.cR):=cellOf (hW.1.get 2 rfl) 3 _ rfl
     have c4:w.cell? ⟨B2,4,none⟩=some (.slice fp.pB x.blocks.length fp.cB):=cellOf (hW.1.get 2 rfl) 4 _ rfl
     go_simp
     exact hK _ _ (Below.refl _ _) hW rfl
   refine ⟨fun a w hW hk K hK=>?_,?_⟩
   · obtain ⟨k0,-⟩:=hk
     have k0:a.tmps.getD 1 undef=.pointer (some ⟨B2,0,none⟩):=k0
     go_simp
     exact hK _ _ (Below.refl _ _) hW rfl
   refine ⟨fun a w hW hk K hK=>?_,?_⟩
   · obtain ⟨k0,-⟩:=hk
     have k0:a.tmps.getD 29 undef=.pointer (some ⟨B2,6,none⟩):=k0
     go_simp
     exact hK _ _ (Below.refl _ _) hW rfl
   refine ⟨fun a w hW hk K hK=>?_,?_⟩
   · obtain ⟨k0,-⟩:=hk
     have k0:a.tmps.getD 30 undef=.pointer (some ⟨B2,9,none⟩):=k0
     have c9:w.cell? ⟨B2,9,none⟩=some (.int .i64 y.fin.op):=cellOf (hW.1.get 2 rfl) 9 _ rfl
     have c10:w.cell? ⟨B2,10,none⟩=some (.int .i64 y.fin.a):=cellOf (hW.1.get 2 rfl) 10 _ rfl
     have c11:w.cell? ⟨B2,11,none⟩=some (.int .i64 y.fin.yes.block):=cellOf (hW.1.get 2 rfl) 11 _ rfl
     have c12:w.cell? ⟨B2,12,none⟩=some (.slice bp.e.pYR y.fin.yes.regs.length bp.e.cYR):=cellOf (hW.1.get 2 rfl) 12 _ rfl
     have c13:w.cell? ⟨B2,13,none⟩=some (.slice bp.e.pYA y.fin.yes.args.length bp.e.cYA):=cellOf (hW.1.get 2 rfl) 13 _ rfl
     have c14:w.cell? ⟨B2,14,none⟩=some (.int .i64 y.fin.no.block):=cellOf (hW.1.get 2 rfl) 14 _ rfl
     have c15:w.cell? ⟨B2,15,none⟩=some (.slice bp.e.pNR y.fin.no.regs.length bp.e.cNR):=cellOf (hW.1.get 2 rfl) 15 _ rfl
     have c16:w.cell? ⟨B2,16,none⟩=some (.slice bp.e.pNA y.fin.no.args.length bp.e.cNA):=cellOf (hW.1.get 2 rfl) 16 _ rfl
     have c17:w.cell? ⟨B2,17,none⟩=some (.slice bp.e.pA y.fin.args.length bp.e.cA):=cellOf (hW.1.get 2 rfl) 17 _ rfl
     go_simp
     exact hK _ _ (Below.refl _ _) hW rfl
   refine ⟨fun a w hW hk K hK=>?_,?_⟩
   · obtain ⟨k0,k1,-⟩:=hk
     have k0:a.tmps.getD 28 undef=.agg #[.int .i64 x.regs,.slice fp.pP x.params.length fp.cP,.slice fp.pR x.results.length fp.cR,.slice fp.pB x.blocks.length fp.cB]:=k0
     have k1:a.tmps.getD 31 undef=.agg #[.int .i64 y.fin.op,.int .i64 y.fin.a,.int .i64 y.fin.yes.block,.slice bp.e.pYR y.fin.yes.regs.length bp.e.cYR,.slice bp.e.pYA y.fin.yes.args.length bp.e.cYA,.int .i64 y.fin.no.block,.slice bp.e.pNR y.fin.no.regs.length bp.e.cNR,.slice bp.e.pNA y.fin.no.args.length bp.e.cNA,.slice bp.e.pA y.fin.args.length bp.e.cA]:=k1
     have hC:Rd Tryz.prog 142 #[.agg #[.int .i64 x.regs,.slice fp.pP x.params.length fp.cP,.slice fp.pR x.results.length fp.cR,.slice fp.pB x.blocks.length fp.cB],.agg #[.int .i64 y.fin.op,.int .i64 y.fin.a,.int .i64 y.fin.yes.block,.slice bp.e.pYR y.fin.yes.regs.length bp.e.cYR,.slice bp.e.pYA y.fin.yes.args.length bp.e.cYA,.int .i64 y.fin.no.block,.slice bp.e.pNR y.fin.no.regs.length bp.e.cNR,.slice bp.e.pNA y.fin.no.args.length bp.e.cNA,.slice bp.e.pA y.fin.args.length bp.e.cA]] w (.int .i64 (y.fin.form x.blocks.length)):=cEnd_any (x:=y.fin) (e:=bp.e) (fr:=x.regs) (fp:=fp.pP) (fl:=x.params.length) (fc:=fp.cP) (fq:=fp.pR) (fm:=x.results.length) (fd:=fp.cR) (fb:=fp.pB) (bl:=x.blocks.length) (fe:=fp.cB) (by have:=ht.out.2.2.1;exact ⟨by have:=this.1.1;omega,by have:=this.1.2;omega,by have:=this.2.1.1;omega,by have:=this.2.1.2;omega⟩) (by have:=hs.out.1;omega)
     go_simp
     refine hC.mono ?_
     rintro e w9 ⟨rfl,hb⟩
     exact hK _ _ hb ⟨hW.1.below hb,Below.andThen hW.2 hb⟩ rfl
   refine ⟨fun a w hW hk K hK=>?_,?_⟩
   · obtain ⟨k0,-⟩:=hk
     have k0:a.tmps.getD 1 undef=.pointer (some ⟨B2,0,none⟩):=k0
     go_simp
     exact hK _ _ (Below.refl _ _) hW rfl
   refine ⟨fun a w hW hk K hK=>?_,?_⟩
   · obtain ⟨k0,-⟩:=hk
     have k0:a.tmps.getD 33 undef=.pointer (some ⟨B2,0,none⟩):=k0
     go_simp
     exact hK _ _ (Below.refl _ _) hW rfl
   refine ⟨fun a w hW hk K hK=>?_,?_⟩
   · obtain ⟨k0,-⟩:=hk
     have k0:a.tmps.getD 34 undef=.pointer (some ⟨B2,5,none⟩):=k0
     have c5:w.cell? ⟨B2,5,none⟩=some (.int .i64 (fi:Int)):=cellOf (hW.1.get 2 rfl) 5 _ rfl
     go_simp
     exact hK _ _ (Below.refl _ _) hW rfl
   refine ⟨fun a w hW hk K hK=>?_,?_⟩
   · obtain ⟨k0,-⟩:=hk
     have k0:a.tmps.getD 1 undef=.pointer (some ⟨B2,0,none⟩):=k0
     go_simp
     exact hK _ _ (Below.refl _ _) hW rfl
   refine ⟨fun a w hW hk K hK=>?_,?_⟩
   · obtain ⟨k0,-⟩:=hk
     have k0:a.tmps.getD 36 undef=.pointer (some ⟨B2,18,none⟩):=k0
     have c18:w.cell? ⟨B2,18,none⟩=some (.int .i64 (bi:Int)):=cellOf (hW.1.get 2 rfl) 18 _ rfl
     go_simp
     exact hK _ _ (Below.refl _ _) hW rfl
   refine ⟨fun a w hW hk K hK=>?_,?_⟩
   · obtain ⟨k0,k1,-⟩:=hk
     have k0:a.tmps.getD 35 undef=.int .i64 (fi:Int):=k0
     have k1:a.tmps.getD 37 undef=.int .i64 (bi:Int):=k1
     have hC:Rd Tryz.prog 143 #[.int .i64 (fi:Int),.int .i64 (bi:Int)] w (.int .i64 (10000*(fi:Int)+100*(bi:Int)+91)):=cEndAt_any (f:=fi) (b:=bi) ⟨by omega,by omega⟩
     go_simp
     refine hC.mono ?_
     rintro e w9 ⟨rfl,hb⟩
     exact hK _ _ hb ⟨hW.1.below hb,Below.andThen hW.2 hb⟩ rfl
   refine ⟨fun a w hW hk K hK=>?_,?_⟩
   · obtain ⟨k0,k1,-⟩:=hk
     have k0:a.tmps.getD 32 undef=.int .i64 (y.fin.form x.blocks.length):=k0
     have k1:a.tmps.getD 38 undef=.int .i64 (10000*(fi:Int)+100*(bi:Int)+91):=k1
     have hC:Rd Tryz.prog 105 #[.int .i64 (y.fin.form x.blocks.length),.int .i64 (10000*(fi:Int)+100*(bi:Int)+91)] w (.agg #[.int .i64 ((atF (y.fin.form x.blocks.length) (10000*(fi:Int)+100*(bi:Int)+91)).1),.int .i64 ((atF (y.fin.form x.blocks.length) (10000*(fi:Int)+100*(bi:Int)+91)).2)]):=faultAt_any (xc:=y.fin.form x.blocks.length) (xp:=10000*(fi:Int)+100*(bi:Int)+91)
     go_simp
     refine hC.mono ?_
     rintro e w9 ⟨rfl,hb⟩
     exact hK _ _ hb ⟨hW.1.below hb,Below.andThen hW.2 hb⟩ rfl
   trivial
  case hend =>
   intro ops a35 w35 hWD hE hFD
   have hd39:a35.tmps.getD 39 undef=.agg #[.int .i64 ((atF (y.fin.form x.blocks.length) (10000*(fi:Int)+100*(bi:Int)+91)).1),.int .i64 ((atF (y.fin.form x.blocks.length) (10000*(fi:Int)+100*(bi:Int)+91)).2)]:=hE 39 rfl
   have hF35:Fr 40 a35 [(39,.agg #[.int .i64 ((atF (y.fin.form x.blocks.length) (10000*(fi:Int)+100*(bi:Int)+91)).1),.int .i64 ((atF (y.fin.form x.blocks.length) (10000*(fi:Int)+100*(bi:Int)+91)).2)]),(0,.agg #[.slice p m.length c,.int .i64 x.regs,.slice fp.pP x.params.length fp.cP,.slice fp.pR x.results.length fp.cR,.slice fp.pB x.blocks.length fp.cB,.int .i64 (fi:Int),.int .i64 y.regs,.slice bp.pP y.params.length bp.cP,.slice bp.pC y.code.length bp.cC,.int .i64 y.fin.op,.int .i64 y.fin.a,.int .i64 y.fin.yes.block,.slice bp.e.pYR y.fin.yes.regs.length bp.e.cYR,.slice bp.e.pYA y.fin.yes.args.length bp.e.cYA,.int .i64 y.fin.no.block,.slice bp.e.pNR y.fin.no.regs.length bp.e.cNR,.slice bp.e.pNA y.fin.no.args.length bp.e.cNA,.slice bp.e.pA y.fin.args.length bp.e.cA,.int .i64 (bi:Int)]),(1,.pointer (some ⟨B2,0,none⟩)),(2,.pointer (some ⟨B3,0,none⟩)),(3,.int .i64 (y.code' x bi)),(4,.pointer (some ⟨B22,0,none⟩))]:=(hFD.cons hd39)
   clear hd39
   have hW35:Wd w w35 [(B22,#[.int .i64 ((firstF (fun i z=>atF (MIns.form m.length z) (10000*(fi:Int)+100*(bi:Int)+(i:Int))) 0 y.code).1),.int .i64 ((firstF (fun i z=>atF (MIns.form m.length z) (10000*(fi:Int)+100*(bi:Int)+(i:Int))) 0 y.code).2)],27),(B3,#[.int .i64 0,.int .i64 0],27),(B2,#[.slice p m.length c,.int .i64 x.regs,.slice fp.pP x.params.length fp.cP,.slice fp.pR x.results.length fp.cR,.slice fp.pB x.blocks.length fp.cB,.int .i64 (fi:Int),.int .i64 y.regs,.slice bp.pP y.params.length bp.cP,.slice bp.pC y.code.length bp.cC,.int .i64 y.fin.op,.int .i64 y.fin.a,.int .i64 y.fin.yes.block,.slice bp.e.pYR y.fin.yes.regs.length bp.e.cYR,.slice bp.e.pYA y.fin.yes.args.length bp.e.cYA,.int .i64 y.fin.no.block,.slice bp.e.pNR y.fin.no.regs.length bp.e.cNR,.slice bp.e.pNA y.fin.no.args.length bp.e.cNA,.slice bp.e.pA y.fin.args.length bp.e.cA,.int .i64 (bi:Int)],148)]:=hWD.1
   clear hFD hWD hE hF34 h27
   clear hW23
   refine St.go hF35 ?_;clear hF35 a35
   refine sT 1 hW35 rfl rfl infFault rfl rfl rfl ?_
   clear hW35;intro w36 hW36
   refine St.nil fun a37 h37=>?_
   refine hK33 _ _ ?_
   refine wp_ret ?_;with_reducible repeat first | refine of_then_ret ?_ | refine of_block_ret ?_
   have e0:=hc17.out
   have e1:=hc32.out
   have EF:=MBlock.fault_eq m.length fi x bi y
   have EI:=firstF_at (f:=fun i z=>(MIns.form m.length z,(10000*(fi:Int)+100*(bi:Int)+(i:Int)))) (l:=y.code) (j:=0)
   dsimp only at EI
   rw [if_pos e0,if_pos (by rw [← EI];exact e1)] at EF
   exact ret_box 1 h37 hW36 rfl rfl rfl Tryz.underlying27 rfl infFault ⟨by show Ending.returned (.agg #[.int .i64 ((atF (y.fin.form x.blocks.length) (10000*(fi:Int)+100*(bi:Int)+91)).1),.int .i64 ((atF (y.fin.form x.blocks.length) (10000*(fi:Int)+100*(bi:Int)+91)).2)])=_;rw [EF],hW36.bel⟩
theorem clo72_any {n : Nat} {m : List (MFunc n)} {p : Option Addr} {c : Nat} {x : MFunc n} {fp : FP} {fi : Nat} {y : MBlock n} {bp : BP} {bi : Nat} {w : World} (hx0 : FIn w All x fp) (hs0 : x.small) (hy0 : BIn w All y bp) (ht0 : y.small) {Bc : Nat} (hm : m.length ≤ 100000) (hfi : fi < 1000000) (hbi : bi < 1000000) (hcap0 : Blk w Bc #[.slice p m.length c, .int .i64 x.regs, .slice fp.pP x.params.length fp.cP, .slice fp.pR x.results.length fp.cR, .slice fp.pB x.blocks.length fp.cB, .int .i64 (fi : Int)] 106) :
    Rd Tryz.prog 108 #[.int .i64 (bi:Int),.agg #[.int .i64 y.regs,.slice bp.pP y.params.length bp.cP,.slice bp.pC y.code.length bp.cC,.int .i64 y.fin.op,.int .i64 y.fin.a,.int .i64 y.fin.yes.block,.slice bp.e.pYR y.fin.yes.regs.length bp.e.cYR,.slice bp.e.pYA y.fin.yes.args.length bp.e.cYA,.int .i64 y.fin.no.block,.slice bp.e.pNR y.fin.no.regs.length bp.e.cNR,.slice bp.e.pNA y.fin.no.args.length bp.e.cNA,.slice bp.e.pA y.fin.args.length bp.e.cA],.pointer (some ⟨Bc,0,none⟩)] w (faultV (MBlock.fault m.length fi x bi y)):=by
  have hx:Hid _:=hx0
  have hs:Hid _:=hs0
  have hy:Hid _:=hy0
  have ht:Hid _:=ht0
  clear hx0 hs0 hy0 ht0
  have hcap:Hid _:=hcap0
  clear hcap0
  refine fr_enter (n:=11) Tryz.func108 rfl rfl rfl ?_
  intro a hF
  have hW:=Wd.start w
  replace hF:Fr 11 a [(0,.int .i64 (bi:Int)),(1,.agg #[.int .i64 y.regs,.slice bp.pP y.params.length bp.cP,.slice bp.pC y.code.length bp.cC,.int .i64 y.fin.op,.int .i64 y.fin.a,.int .i64 y.fin.yes.block,.slice bp.e.pYR y.fin.yes.regs.length bp.e.cYR,.slice bp.e.pYA y.fin.yes.args.length bp.e.cYA,.int .i64 y.fin.no.block,.slice bp.e.pNR y.fin.no.regs.length bp.e.cNR,.slice bp.e.pNA y.fin.no.args.length bp.e.cNA,.slice bp.e.pA y.fin.args.length bp.e.cA]),(2,.pointer (some ⟨Bc,0,none⟩))]:=hF
  refine wp_seq_k fun K1 hK1=>?_
  refine rg hF fun ops=>?_;clear hF a
  refine sB hW trivial rfl rfl ?_
  clear hW;intro w2 B2 hW2 hN;clear hN
  refine sAFault hW2 trivial rfl ?_
  clear hW2;intro w3 B3 hW3 hN;clear hN
  refine St.nil fun a4 h4=>?_
  refine hK1 _ _ ?_
  refine wp_seq_k fun K5 hK5=>?_
  refine rg h4 fun ops=>?_;clear h4 a4
  refine sSE Tryz.underlying106 rfl (rangeAt_bel (rangeOf hcap.out 0 6 rfl) hW3.bel) inffuncLook trivial rfl rfl ?_
  refine sS 1 12 Tryz.underlying52 rfl infBlock hW3 trivial rfl rfl rfl rfl ?_
  refine sm trivial rfl rfl ?_
  intro a6 h6
  refine fr_pure (t:=9) (v:=.agg #[.slice p m.length c,.int .i64 x.regs,.slice fp.pP x.params.length fp.cP,.slice fp.pR x.results.length fp.cR,.slice fp.pB x.blocks.length fp.cB,.int .i64 (fi:Int),.int .i64 y.regs,.slice bp.pP y.params.length bp.cP,.slice bp.pC y.code.length bp.cC,.int .i64 y.fin.op,.int .i64 y.fin.a,.int .i64 y.fin.yes.block,.slice bp.e.pYR y.fin.yes.regs.length bp.e.cYR,.slice bp.e.pYA y.fin.yes.args.length bp.e.cYA,.int .i64 y.fin.no.block,.slice bp.e.pNR y.fin.no.regs.length bp.e.cNR,.slice bp.e.pNA y.fin.no.args.length bp.e.cNA,.slice bp.e.pA y.fin.args.length bp.e.cA,.int .i64 (bi:Int)]) (w':=w3) h6 rfl rfl rfl (fun K hK=>?_) ?_
  ·have k0:a6.tmps[6]?.getD undef=.agg #[.slice p m.length c,.int .i64 x.regs,.slice fp.pP x.params.length fp.cP,.slice fp.pR x.results.length fp.cR,.slice fp.pB x.blocks.length fp.cB,.int .i64 (fi:Int)]:=h6.sl2 6 _ rfl
   have k1:a6.tmps[7]?.getD undef=.agg #[.int .i64 y.regs,.slice bp.pP y.params.length bp.cP,.slice bp.pC y.code.length bp.cC,.int .i64 y.fin.op,.int .i64 y.fin.a,.int .i64 y.fin.yes.block,.slice bp.e.pYR y.fin.yes.regs.length bp.e.cYR,.slice bp.e.pYA y.fin.yes.args.length bp.e.cYA,.int .i64 y.fin.no.block,.slice bp.e.pNR y.fin.no.regs.length bp.e.cNR,.slice bp.e.pNA y.fin.no.args.length bp.e.cNA,.slice bp.e.pA y.fin.args.length bp.e.cA]:=h6.sl2 7 _ rfl
   have k2:a6.tmps[8]?.getD undef=.int .i64 (bi:Int):=h6.sl2 8 _ rfl
   go_simp
   exact hK
  clear h6;intro a7 hF7
  refine St.go hF7 ?_;clear hF7 a7
  refine sc_1 cf109 hW3 (cBlockFault_any (m:=m) (p:=p) (c:=c) (x:=x) (fp:=fp) (fi:=fi) (y:=y) (bp:=bp) (bi:=bi) (hx.out.below hW3.bel) hs.out (hy.out.below hW3.bel) ht.out hm hfi hbi) trivial rfl rfl ?_
  clear hW3;intro w8 hW8
  refine sT 0 hW8 rfl rfl infFault rfl rfl rfl ?_
  clear hW8;intro w9 hW9
  refine St.nil fun a10 h10=>?_
  refine hK5 _ _ ?_
  refine wp_ret ?_;with_reducible repeat first | refine of_then_ret ?_ | refine of_block_ret ?_
  exact ret_box 0 h10 hW9 rfl rfl rfl Tryz.underlying27 rfl infFault ⟨rfl,hW9.bel⟩
theorem cFuncFault_any {n : Nat} {m : List (MFunc n)} {p : Option Addr} {c : Nat} {x : MFunc n} {fp : FP} {fi : Nat} {w : World} (hx0 : FIn w All x fp) (hs0 : x.small) (hm : m.length ≤ 100000) (hfi : fi < 1000000) :
    Rd Tryz.prog 56 #[.agg #[.slice p m.length c,.int .i64 x.regs,.slice fp.pP x.params.length fp.cP,.slice fp.pR x.results.length fp.cR,.slice fp.pB x.blocks.length fp.cB,.int .i64 (fi:Int)]] w (faultV (MFunc.fault m.length fi x)):=by
  have hx:Hid _:=hx0
  have hs:Hid _:=hs0
  clear hx0 hs0
  refine fr_enter (n:=18) Tryz.func56 rfl rfl rfl ?_
  intro a hF
  have hW:=Wd.start w
  replace hF:Fr 18 a [(0,.agg #[.slice p m.length c,.int .i64 x.regs,.slice fp.pP x.params.length fp.cP,.slice fp.pR x.results.length fp.cR,.slice fp.pB x.blocks.length fp.cB,.int .i64 (fi:Int)])]:=hF
  refine wp_seq_k fun K1 hK1=>?_
  refine rg hF fun ops=>?_;clear hF a
  refine sB hW trivial rfl rfl ?_
  clear hW;intro w2 B2 hW2 hN;clear hN
  refine sAFault hW2 trivial rfl ?_
  clear hW2;intro w3 B3 hW3 hN;clear hN
  refine St.nil fun a4 h4=>?_
  refine hK1 _ _ ?_
  refine wp_seq_k fun K5 hK5=>?_
  refine wp_seq_k fun K6 hK6=>?_
  refine rg h4 fun ops=>?_;clear h4 a4
  refine sS 1 6 Tryz.underlying106 rfl inffuncLook hW3 trivial rfl rfl rfl rfl ?_
  refine sc_1 cf104 hW3 (funcCode_any (m:=m) (p:=p) (c:=c) (fi:=fi) (hx.out.below hW3.bel) hs.out) trivial rfl rfl ?_
  clear hW3;intro w7 hW7
  refine sa trivial rfl rfl ?_
  refine St.nil fun a8 h8=>?_
  refine hK6 _ _ ?_
  refine wp_seq_k fun K9 hK9=>?_
  refine rg h8 fun ops=>?_;clear h8 a8
  refine sm trivial rfl rfl ?_
  refine sne trivial rfl rfl rfl ?_
  refine St.nil fun a10 h10=>?_
  refine hK9 _ _ ?_
  refine fr_cond (t:=7) h10 rfl (fun hb=>?_) (fun hb=>?_)
  ·have h9:¬ (x.code fi)=0:=bne_iff_ne.1 hb
   have hc11:¬ (x.code fi)=0:=h9
   clear h9
   clear hb
   refine wp_seq_k fun K12 hK12=>?_
   refine rg h10 fun ops=>?_;clear h10 a10
   refine sm trivial rfl rfl ?_
   refine sffuncLook2 trivial rfl rfl ?_
   refine sbInt 1 hW7 trivial rfl rfl rfl rfl ?_
   refine sc_1 cf106 hW7 (cFuncAt_any (f:=fi) (by omega)) trivial rfl rfl ?_
   clear hW7;intro w13 hW13
   refine sc_2 cf105 hW13 (faultAt_any (xc:=x.code fi) (xp:=10000*(fi:Int)+9999)) trivial rfl rfl rfl ?_
   clear hW13;intro w14 hW14
   refine sT 0 hW14 rfl rfl infFault rfl rfl rfl ?_
   clear hW14;intro w15 hW15
   refine St.nil fun a16 h16=>?_
   refine hK12 _ _ ?_
   refine wp_ret ?_;with_reducible repeat first | refine of_then_ret ?_ | refine of_block_ret ?_
   have e0:=hc11
   have EF:=MFunc.fault_eq m.length fi x
   rw [if_neg e0] at EF
   exact ret_box 0 h16 hW15 rfl rfl rfl Tryz.underlying27 rfl infFault ⟨by show Ending.returned (.agg #[.int .i64 ((atF (x.code fi) (10000*(fi:Int)+9999)).1),.int .i64 ((atF (x.code fi) (10000*(fi:Int)+9999)).2)])=_;rw [EF] ;simp [atF,e0],hW15.bel⟩
  have h9:(x.code fi)=0:=bne_eq_false_iff_eq.1 hb
  have hc17:Hid ((x.code fi)=0):=h9
  clear h9
  clear hb
  refine wp_skip ?_
  refine hK5 _ _ ?_
  refine wp_seq_k fun K18 hK18=>?_
  refine rg h10 fun ops=>?_;clear h10 a10
  refine sffuncLook1 trivial rfl rfl ?_
  refine sfFunc3 trivial rfl rfl ?_
  refine sbBlocks 1 hW7 trivial rfl rfl rfl rfl ?_
  intro a19 h19
  refine fr_pure (t:=16) (v:=.func (.func 108) #[] #[.pointer (some ⟨B2,0,none⟩)]) (w':=w7) h19 rfl rfl rfl (fun K hK=>?_) ?_
  ·have k0:a19.tmps.getD 1 undef=.pointer (some ⟨B2,0,none⟩):=h19.sl 1 _ rfl
   go_simp
   exact hK
  clear h19;intro a20 hF20
  refine St.go hF20 ?_;clear hF20 a20
  refine sc_2 cf107 hW7 (ffBlock_any (Bc:=B2) (fun b y=>MBlock.fault m.length fi x b y) (Lay.below hx.out.blocks hW7.bel) (by have:=hs.out.1;omega) (fun b y yi wx hz hi hb=>clo72_any ((hx.out.below hW7.bel).below hb) hs.out hi (hs.out.2.2.2 _ (List.mem_of_getElem? hz)) hm hfi (by have h9:=(List.getElem?_eq_some_iff.1 hz).1;have:=hs.out.1;omega) ((hW7.get 1 rfl).below hb))) trivial rfl rfl rfl ?_
  clear hW7;intro w21 hW21
  refine sT 0 hW21 rfl rfl infFault rfl rfl rfl ?_
  clear hW21;intro w22 hW22
  refine St.nil fun a23 h23=>?_
  refine hK18 _ _ ?_
  refine wp_ret ?_;with_reducible repeat first | refine of_then_ret ?_ | refine of_block_ret ?_
  have e0:=hc17.out
  have EF:=MFunc.fault_eq m.length fi x
  rw [if_pos e0] at EF
  exact ret_box 0 h23 hW22 rfl rfl rfl Tryz.underlying27 rfl infFault ⟨by show Ending.returned (.agg #[.int .i64 ((firstF (fun b y=>MBlock.fault m.length fi x b y) 0 x.blocks).1),.int .i64 ((firstF (fun b y=>MBlock.fault m.length fi x b y) 0 x.blocks).2)])=_;rw [EF],hW22.bel⟩
theorem clo46_any {n : Nat} {m : List (MFunc n)} {p : Option Addr} {c : Nat} {x : MFunc n} {fp : FP} {fi : Nat} {w : World} (hx0 : FIn w All x fp) (hs0 : x.small) {Bc : Nat} (hm : m.length ≤ 100000) (hfi : fi < 1000000) (hcap0 : Blk w Bc #[.slice p m.length c] 25) :
    Rd Tryz.prog 55 #[.int .i64 (fi:Int),.agg #[.int .i64 x.regs,.slice fp.pP x.params.length fp.cP,.slice fp.pR x.results.length fp.cR,.slice fp.pB x.blocks.length fp.cB],.pointer (some ⟨Bc,0,none⟩)] w (faultV (MFunc.fault m.length fi x)):=by
  have hx:Hid _:=hx0
  have hs:Hid _:=hs0
  clear hx0 hs0
  have hcap:Hid _:=hcap0
  clear hcap0
  refine fr_enter (n:=11) Tryz.func55 rfl rfl rfl ?_
  intro a hF
  have hW:=Wd.start w
  replace hF:Fr 11 a [(0,.int .i64 (fi:Int)),(1,.agg #[.int .i64 x.regs,.slice fp.pP x.params.length fp.cP,.slice fp.pR x.results.length fp.cR,.slice fp.pB x.blocks.length fp.cB]),(2,.pointer (some ⟨Bc,0,none⟩))]:=hF
  refine wp_seq_k fun K1 hK1=>?_
  refine rg hF fun ops=>?_;clear hF a
  refine sB hW trivial rfl rfl ?_
  clear hW;intro w2 B2 hW2 hN;clear hN
  refine sAFault hW2 trivial rfl ?_
  clear hW2;intro w3 B3 hW3 hN;clear hN
  refine St.nil fun a4 h4=>?_
  refine hK1 _ _ ?_
  refine wp_seq_k fun K5 hK5=>?_
  refine rg h4 fun ops=>?_;clear h4 a4
  refine sSE Tryz.underlying25 rfl (rangeAt_bel (rangeOf hcap.out 0 1 rfl) hW3.bel) infModule trivial rfl rfl ?_
  refine sS 1 4 Tryz.underlying42 rfl infFunc hW3 trivial rfl rfl rfl rfl ?_
  refine sm trivial rfl rfl ?_
  intro a6 h6
  refine fr_pure (t:=9) (v:=.agg #[.slice p m.length c,.int .i64 x.regs,.slice fp.pP x.params.length fp.cP,.slice fp.pR x.results.length fp.cR,.slice fp.pB x.blocks.length fp.cB,.int .i64 (fi:Int)]) (w':=w3) h6 rfl rfl rfl (fun K hK=>?_) ?_
  ·have k0:a6.tmps[6]?.getD undef=.agg #[.slice p m.length c]:=h6.sl2 6 _ rfl
   have k1:a6.tmps[7]?.getD undef=.agg #[.int .i64 x.regs,.slice fp.pP x.params.length fp.cP,.slice fp.pR x.results.length fp.cR,.slice fp.pB x.blocks.length fp.cB]:=h6.sl2 7 _ rfl
   have k2:a6.tmps[8]?.getD undef=.int .i64 (fi:Int):=h6.sl2 8 _ rfl
   go_simp
   exact hK
  clear h6;intro a7 hF7
  refine St.go hF7 ?_;clear hF7 a7
  refine sc_1 cf56 hW3 (cFuncFault_any (m:=m) (p:=p) (c:=c) (x:=x) (fp:=fp) (fi:=fi) (hx.out.below hW3.bel) hs.out hm hfi) trivial rfl rfl ?_
  clear hW3;intro w8 hW8
  refine sT 0 hW8 rfl rfl infFault rfl rfl rfl ?_
  clear hW8;intro w9 hW9
  refine St.nil fun a10 h10=>?_
  refine hK5 _ _ ?_
  refine wp_ret ?_;with_reducible repeat first | refine of_then_ret ?_ | refine of_block_ret ?_
  exact ret_box 0 h10 hW9 rfl rfl rfl Tryz.underlying27 rfl infFault ⟨rfl,hW9.bel⟩
theorem cCheck_any {n : Nat} {m : List (MFunc n)} {p : Option Addr} {c : Nat} {w : World} (hm0 : (modL n).In w All m [.slice p m.length c]) (hs0 : msmall m) :
    Rd Tryz.prog 24 #[.agg #[.slice p m.length c]] w (faultV (modFault m)):=by
  have hmm:Hid _:=hm0
  have hms:Hid _:=hs0
  clear hm0 hs0
  refine fr_enter (n:=18) Tryz.func24 rfl rfl rfl ?_
  intro a hF
  have hW:=Wd.start w
  replace hF:Fr 18 a [(0,.agg #[.slice p m.length c])]:=hF
  refine wp_seq_k fun K1 hK1=>?_
  refine rg hF fun ops=>?_;clear hF a
  refine sB hW trivial rfl rfl ?_
  clear hW;intro w2 B2 hW2 hN;clear hN
  refine sAFault hW2 trivial rfl ?_
  clear hW2;intro w3 B3 hW3 hN;clear hN
  refine St.nil fun a4 h4=>?_
  refine hK1 _ _ ?_
  refine wp_seq_k fun K5 hK5=>?_
  refine wp_seq_k fun K6 hK6=>?_
  refine fr_region ?_
  intro ops hops
  have hg4:(ops[4]?).bind (fun o:Oper=>o.dst)=some 7:=hops 4
  clear hops
  refine St.go h4 ?_;clear h4 a4
  refine sfModule0 trivial rfl rfl ?_
  refine sbFuncs 1 hW3 trivial rfl rfl rfl rfl ?_
  refine slFuncs trivial rfl rfl ?_
  refine slt trivial rfl rfl rfl ?_
  refine sm trivial rfl rfl ?_
  intro a7 h7
  rcases Bool.eq_false_or_eq_true (decide ((m.length:Int)<1)) with hb | hb
  ·rw [hb] at h7
   have hc8:m.length<1:=by have:=of_decide_eq_true hb;omega
   clear hb
   refine St.go h7 ?_;clear h7 a7
   refine so hg4 rfl rfl rfl rfl ?_
   refine so hg4 rfl rfl rfl rfl ?_
   refine so hg4 rfl rfl rfl rfl ?_
   refine so hg4 rfl rfl rfl rfl ?_
   refine sp trivial rfl rfl rfl ?_
   refine St.nil fun a9 h9=>?_
   refine hK6 _ _ ?_
   refine fr_true (t:=12) h9 rfl ?_
   refine wp_seq_k fun K10 hK10=>?_
   refine rg h9 fun ops=>?_;clear h9 a9
   intro a11 h11
   refine fr_pure (t:=13) (v:=.agg #[.int .i64 2,.int .i64 (-1)]) (w':=w3) h11 rfl rfl rfl (fun K hK=>?_) ?_
   ·go_simp
    exact hK
   clear h11;intro a12 hF12
   refine St.go hF12 ?_;clear hF12 a12
   refine sT 0 hW3 rfl rfl infFault rfl rfl rfl ?_
   clear hW3;intro w13 hW13
   refine St.nil fun a14 h14=>?_
   refine hK10 _ _ ?_
   refine wp_ret ?_;with_reducible repeat first | refine of_then_ret ?_ | refine of_block_ret ?_
   have R:modFault m=(2,-1):=if_pos (by omega)
   exact ret_box 0 h14 hW13 rfl rfl rfl Tryz.underlying27 rfl infFault ⟨by show Ending.returned (.agg #[.int .i64 2,.int .i64 (-1)])=_;rw [R],hW13.bel⟩
  rw [hb] at h7
  have hc15:¬ (m.length<1):=by have:=of_decide_eq_false hb;omega
  clear hb
  refine St.go h7 ?_;clear h7 a7
  refine sfModule0 ⟨_,hg4,rfl,rfl⟩ rfl rfl ?_
  refine sbFuncs 1 hW3 ⟨_,hg4,rfl,rfl⟩ rfl rfl rfl rfl ?_
  refine slFuncs ⟨_,hg4,rfl,rfl⟩ rfl rfl ?_
  refine sgt ⟨_,hg4,rfl,rfl⟩ rfl rfl rfl ?_
  refine spf trivial rfl rfl rfl ?_
  refine St.nil fun a16 h16=>?_
  refine hK6 _ _ ?_
  refine fr_cond (t:=12) h16 rfl (fun hb=>?_) (fun hb=>?_)
  ·have hc17:8<m.length:=by have:=of_decide_eq_true hb;omega
   clear hb
   refine wp_seq_k fun K18 hK18=>?_
   refine rg h16 fun ops=>?_;clear h16 a16
   intro a19 h19
   refine fr_pure (t:=13) (v:=.agg #[.int .i64 2,.int .i64 (-1)]) (w':=w3) h19 rfl rfl rfl (fun K hK=>?_) ?_
   ·go_simp
    exact hK
   clear h19;intro a20 hF20
   refine St.go hF20 ?_;clear hF20 a20
   refine sT 0 hW3 rfl rfl infFault rfl rfl rfl ?_
   clear hW3;intro w21 hW21
   refine St.nil fun a22 h22=>?_
   refine hK18 _ _ ?_
   refine wp_ret ?_;with_reducible repeat first | refine of_then_ret ?_ | refine of_block_ret ?_
   have R:modFault m=(2,-1):=if_pos (by omega)
   exact ret_box 0 h22 hW21 rfl rfl rfl Tryz.underlying27 rfl infFault ⟨by show Ending.returned (.agg #[.int .i64 2,.int .i64 (-1)])=_;rw [R],hW21.bel⟩
  have hc23:¬ (8<m.length):=by have:=of_decide_eq_false hb;omega
  clear hb
  refine wp_skip ?_
  refine hK5 _ _ ?_
  refine wp_seq_k fun K24 hK24=>?_
  refine rg h16 fun ops=>?_;clear h16 a16
  refine sfModule0 trivial rfl rfl ?_
  refine sbFuncs 1 hW3 trivial rfl rfl rfl rfl ?_
  intro a25 h25
  refine fr_pure (t:=16) (v:=.func (.func 55) #[] #[.pointer (some ⟨B2,0,none⟩)]) (w':=w3) h25 rfl rfl rfl (fun K hK=>?_) ?_
  ·have k0:a25.tmps.getD 1 undef=.pointer (some ⟨B2,0,none⟩):=h25.sl 1 _ rfl
   go_simp
   exact hK
  clear h25;intro a26 hF26
  refine St.go hF26 ?_;clear hF26 a26
  refine sc_2 cf54 hW3 (ffFunc_any (Bc:=B2) (fun f x=>MFunc.fault m.length f x) (Lay.below hmm.out hW3.bel) (by have:=hms.out.1;omega) (fun f x xi wx hz hi hb=>clo46_any hi (hms.out.2 _ (List.mem_of_getElem? hz)) (by have:=hms.out.1;omega) (by have h9:=(List.getElem?_eq_some_iff.1 hz).1;have:=hms.out.1;omega) ((hW3.get 1 rfl).below hb))) trivial rfl rfl rfl ?_
  clear hW3;intro w27 hW27
  refine sT 0 hW27 rfl rfl infFault rfl rfl rfl ?_
  clear hW27;intro w28 hW28
  refine St.nil fun a29 h29=>?_
  refine hK24 _ _ ?_
  refine wp_ret ?_;with_reducible repeat first | refine of_then_ret ?_ | refine of_block_ret ?_
  have R:modFault m=firstF (fun f x=>MFunc.fault m.length f x) 0 m:=if_neg (by omega)
  exact ret_box 0 h29 hW28 rfl rfl rfl Tryz.underlying27 rfl infFault ⟨by show Ending.returned (.agg #[.int .i64 ((firstF (fun f x=>MFunc.fault m.length f x) 0 m).1),.int .i64 ((firstF (fun f x=>MFunc.fault m.length f x) 0 m).2)])=_;rw [R],hW28.bel⟩
end Go.Proofs.YtalfbnllodhkiacGreatDoor
namespace Go.Proofs.YtalfbnllodhkiacGreatDoor
open Go.ChangeShapes Go.WideShapes Go.ChangeAt Go.RowKit Go.Shelf
set_option linter.unusedSimpArgs false
set_option linter.unusedVariables false
theorem isS_new {w : World} {B : Nat} (hB : B ≤ w.heap.size) : IsS B w.heap.size [] (w.alloc (.cells #[.pointer none, .slice none 0 0] 90)) :=
  Or.inl ⟨hB,.slice none 0 0,blockNew w _ _,⟨rfl,Or.inl ⟨rfl,rfl⟩⟩,by simp [Value.ownBlock]⟩
def PrintV (x : List UInt8 × Int × Int) : Value := .tuple #[.string (str x.1), .agg #[.int .i64 x.2.1, .int .i64 x.2.2]]
def Prints (w : World) (x : List UInt8 × Int × Int) (e : Ending) (w' : World) : Prop := e = .returned (PrintV x) ∧ Below w.heap.size w w'
theorem blk_facts {w : World} {g : Nat} {x y : Value} {t : TypeId} (h : Blk w g #[x, y] t) : w.cell? ⟨g, 0, none⟩ = some x ∧ w.cell? ⟨g, 1, none⟩ = some y ∧ w.frozen? ⟨g, 0, none⟩ = false ∧ w.frozen? ⟨g, 1, none⟩ = false ∧ g < w.heap.size :=
  ⟨cellOf h 0 _ rfl,cellOf h 1 _ rfl,Lib.frozen_of_heap h 0,Lib.frozen_of_heap h 1,lt_of_block h⟩
theorem stored {w : World} {g : Nat} {x y : Value} {t : TypeId} (x' y' : Value) (h : Blk w g #[x, y] t) : Blk ((w.setCell ⟨g, 0, none⟩ x').setCell ⟨g, 1, none⟩ y') g #[x', y'] t := by
  have:=blockSet (blockSet h 0 x') 1 y'
  simpa using this
theorem storedB {w w0 : World} {g B : Nat} (x' y' : Value) (hg : B ≤ g) (h : Below B w0 w) : Below B w0 ((w.setCell ⟨g, 0, none⟩ x').setCell ⟨g, 1, none⟩ y') := (h.setCell (p := ⟨g, 0, none⟩) hg x').setCell (p := ⟨g, 1, none⟩) hg y'
theorem print_walk {ml : Nat} {p : Option Addr} {c : Nat} {w : World} {fc fa : Int} {nm : Bool} {t : List UInt8} {res : List UInt8 × Int × Int}
    (CC:Hid (∀ wx,Below w.heap.size w wx→Calls Tryz.prog 24 #[.agg #[.slice p ml c]] wx fun e w'=>e=.returned (.agg #[.int .i64 fc,.int .i64 fa])∧Below wx.heap.size wx w'))
    (CM:Hid (∀ wx,Below w.heap.size w wx→Calls Tryz.prog 45 #[.agg #[.slice p ml c]] wx fun e w'=>e=.returned (.bool nm)∧Below wx.heap.size wx w'))
    (CT:Hid (fc=0→∀ b wx,Below w.heap.size w wx→IsS w.heap.size b [] wx→Calls Tryz.prog 46 #[.pointer (some ⟨b,0,none⟩),.agg #[.slice p ml c]] wx (Parts w.heap.size b t wx)))
    (ht:Hid (t≠[]∨fc≠0)) (hres:Hid (res=if fc≠0 then ([],fc,fa) else if nm=false then ([],8,-1) else if 40000<t.length then ([],2,-1) else (t,0,0))) :
    Calls Tryz.prog 20 #[.agg #[.slice p ml c]] w (Prints w res):=by
  have b1:Below w.heap.size w ((w.alloc (.cells #[.slice p ml c] 25)).alloc (.cells #[.int .i64 0,.int .i64 0] 27)):=bel2 _ _ _
  have X1:Blk ((w.alloc (.cells #[.slice p ml c] 25)).alloc (.cells #[.int .i64 0,.int .i64 0] 27)) w.heap.size #[.slice p ml c] 25:=Blk.new1 _ _ _ _ _
  have X2:Blk ((w.alloc (.cells #[.slice p ml c] 25)).alloc (.cells #[.int .i64 0,.int .i64 0] 27)) (w.heap.size+1) #[.int .i64 0,.int .i64 0] 27:=Blk.new2 _ _ _ _
  have B1:Hid (Below w.heap.size w ((w.alloc (.cells #[.slice p ml c] 25)).alloc (.cells #[.int .i64 0,.int .i64 0] 27))):=b1
  clear b1
  go_enter Tryz.func20,Tryz.ntmps20
  go_wp2_with fail
  generalize ((w.alloc (.cells #[.slice p ml c] 25)).alloc (.cells #[.int .i64 0,.int .i64 0] 27))=w1 at X1 X2 B1 ⊢
  refine (CC.out _ B1.out).mono ?_
  rintro e w2 ⟨rfl,b2⟩
  replace X1:=(b2.block _ (lt_of_block X1)).trans X1
  replace X2:=(b2.block _ (lt_of_block X2)).trans X2
  have B2:Hid (Below w.heap.size w w2):=B1.out.trans (b2.mono B1.out.size)
  clear b2 B1 CC
  have d0:=cellOf X1 0 _ rfl
  have d1:=lt_of_block X1
  obtain ⟨e0,e1,f0,f1,l1⟩:=blk_facts X2
  by_cases hc:fc=0
  · have hc':Hid (fc=0):=hc
    replace CT:=CT.out hc
    have hz:Hid (t≠[]):=ht.out.resolve_right (fun h=>h hc)
    have hr:Hid (res=if nm=false then ([],8,-1) else if 40000<t.length then ([],2,-1) else (t,0,0)):=by show _=_;rw [hres.out,if_neg (by simp [hc])]
    subst hc
    clear hres ht hc'
    have B3:Hid (Below w.heap.size w (w2.alloc (.cells #[.int .i64 0,.int .i64 fa] 27))):=B2.out.trans ((bel1 _ _).mono B2.out.size)
    replace X1:=((bel1 w2 (.cells #[.int .i64 0,.int .i64 fa] 27)).block _ (lt_of_block X1)).trans X1
    replace X2:=((bel1 w2 (.cells #[.int .i64 0,.int .i64 fa] 27)).block _ (lt_of_block X2)).trans X2
    go_wp2_with fail
    clear d0 d1 e0 e1 f0 f1 l1 B2
    generalize w2.alloc (.cells #[.int .i64 0,.int .i64 fa] 27)=w3 at X1 X2 B3 ⊢
    refine (CM.out _ B3.out).mono ?_
    rintro e w4 ⟨rfl,b4⟩
    replace X1:=(b4.block _ (lt_of_block X1)).trans X1
    replace X2:=(b4.block _ (lt_of_block X2)).trans X2
    have B4:Hid (Below w.heap.size w w4):=B3.out.trans (b4.mono B3.out.size)
    clear b4 B3 CM
    have d0:=cellOf X1 0 _ rfl
    have d1:=lt_of_block X1
    obtain ⟨e0,e1,f0,f1,l1⟩:=blk_facts X2
    cases nm with
    | false =>
      have R:Hid (PrintV res=.tuple #[.string ⟨#[]⟩,.agg #[.int .i64 8,.int .i64 (-1)]]):=by show _=_;rw [hr.out,if_pos rfl];rfl
      have X5:=stored (.int .i64 8) (.int .i64 (-1)) X2
      have B5:Hid (Below w.heap.size w ((w4.setCell ⟨w.heap.size+1,0,none⟩ (.int .i64 8)).setCell ⟨w.heap.size+1,1,none⟩ (.int .i64 (-1)))):=storedB _ _ (Nat.le_succ _) B4.out
      clear X1 X2 CT hr hz B4
      go_wp2
      generalize (w4.setCell ⟨w.heap.size+1,0,none⟩ (.int .i64 8)).setCell ⟨w.heap.size+1,1,none⟩ (.int .i64 (-1))=w9 at X5 B5 ⊢
      have y0:=cellOf X5 0 _ rfl
      have y1:=cellOf X5 1 _ rfl
      exact bodyPost_ret (v:=.tuple #[.string ⟨#[]⟩,.agg #[.int .i64 8,.int .i64 (-1)]]) (by simp [results,Tryz.results20,go_sem,y0,y1]) rfl ⟨by rw [R.out],B5.out⟩
    | true =>
      replace hr:Hid (res=if 40000<t.length then ([],2,-1) else (t,0,0)):=by show _=_;rw [hr.out,if_neg (by decide)]
      have b5:Below w4.heap.size w4 (w4.alloc (.cells #[.pointer none,.slice none 0 0] 90)):=bel1 _ _
      have I5:Hid (IsS w.heap.size w4.heap.size [] (w4.alloc (.cells #[.pointer none,.slice none 0 0] 90))):=isS_new B4.out.size
      have B5:Hid (Below w.heap.size w (w4.alloc (.cells #[.pointer none,.slice none 0 0] 90))):=B4.out.trans (b5.mono B4.out.size)
      replace X1:=(b5.block _ (lt_of_block X1)).trans X1
      replace X2:=(b5.block _ (lt_of_block X2)).trans X2
      have nb:w.heap.size+1≠w4.heap.size:=by omega
      have HCT:Hid (∀ b wx,Below w.heap.size w wx→IsS w.heap.size b [] wx→Calls Tryz.prog 46 #[.pointer (some ⟨b,0,none⟩),.agg #[.slice p ml c]] wx (Parts w.heap.size b t wx)):=CT
      clear b5 CT
      go_wp2_with fail
      clear e0 e1 f0 f1 d0 B4
      generalize w4.alloc (.cells #[.pointer none,.slice none 0 0] 90)=w5 at X1 X2 B5 I5 ⊢
      generalize w4.heap.size=b at I5 nb ⊢
      refine (HCT.out b w5 B5.out I5.out).mono ?_
      rintro e w6 (⟨rfl,h6,-⟩ | ⟨rfl,h6,-⟩)
      · have X6:=h6.1.wr.blk X2 nb (by decide)
        have B6:Hid (Below w.heap.size w w6):=B5.out.trans h6.1.wr.below
        have CS:Hid (Calls Tryz.prog 47 #[.pointer (some ⟨b,0,none⟩)] w6 fun e w'=>e=.returned (.string (str t))∧Wr w.heap.size b w6 w'):=sstr_any w.heap.size b t w6 h6.1.is hz.out
        have R:Hid (PrintV res=.tuple #[.string (str t),.agg #[.int .i64 0,.int .i64 0]]):=by show _=_;rw [hr.out,if_neg (by have:=h6.2;omega)];rfl
        clear h6 X1 X2 hr hz I5 B5 HCT
        go_wp2_with fail
        refine CS.out.mono ?_
        rintro e w7 ⟨rfl,b7⟩
        have X7:=b7.blk X6 nb (by decide)
        have B7:Hid (Below w.heap.size w w7):=B6.out.trans b7.below
        obtain ⟨e0,e1,f0,f1,l7⟩:=blk_facts X7
        have X8:=stored (.int .i64 0) (.int .i64 0) X7
        have B8:Hid (Below w.heap.size w ((w7.setCell ⟨w.heap.size+1,0,none⟩ (.int .i64 0)).setCell ⟨w.heap.size+1,1,none⟩ (.int .i64 0))):=storedB _ _ (Nat.le_succ _) B7.out
        clear b7 X6 X7 B6 B7 CS
        go_wp2
        generalize (w7.setCell ⟨w.heap.size+1,0,none⟩ (.int .i64 0)).setCell ⟨w.heap.size+1,1,none⟩ (.int .i64 0)=w9 at X8 B8 ⊢
        have y0:=cellOf X8 0 _ rfl
        have y1:=cellOf X8 1 _ rfl
        exact bodyPost_ret (v:=.tuple #[.string (str t),.agg #[.int .i64 0,.int .i64 0]]) (by simp [results,Tryz.results20,go_sem,y0,y1]) rfl ⟨by rw [R.out],B8.out⟩
      · have X6:=h6.1.blk X2 nb (by decide)
        have B6:Hid (Below w.heap.size w w6):=B5.out.trans h6.1.below
        have R:Hid (PrintV res=.tuple #[.string ⟨#[]⟩,.agg #[.int .i64 2,.int .i64 (-1)]]):=by show _=_;rw [hr.out,if_pos (by have:=h6.2;omega)];rfl
        obtain ⟨e0,e1,f0,f1,l7⟩:=blk_facts X6
        have X8:=stored (.int .i64 2) (.int .i64 (-1)) X6
        have B8:Hid (Below w.heap.size w ((w6.setCell ⟨w.heap.size+1,0,none⟩ (.int .i64 2)).setCell ⟨w.heap.size+1,1,none⟩ (.int .i64 (-1)))):=storedB _ _ (Nat.le_succ _) B6.out
        clear h6 X1 X2 hr hz I5 B5 HCT B6
        go_wp2
        generalize (w6.setCell ⟨w.heap.size+1,0,none⟩ (.int .i64 2)).setCell ⟨w.heap.size+1,1,none⟩ (.int .i64 (-1))=w9 at X8 B8 ⊢
        have y0:=cellOf X8 0 _ rfl
        have y1:=cellOf X8 1 _ rfl
        exact bodyPost_ret (v:=.tuple #[.string ⟨#[]⟩,.agg #[.int .i64 2,.int .i64 (-1)]]) (by simp [results,Tryz.results20,go_sem,y0,y1]) rfl ⟨by rw [R.out],B8.out⟩
  · have R:Hid (PrintV res=.tuple #[.string ⟨#[]⟩,.agg #[.int .i64 fc,.int .i64 fa]]):=by show _=_;rw [hres.out,if_pos hc];rfl
    have B3:Hid (Below w.heap.size w (w2.alloc (.cells #[.int .i64 fc,.int .i64 fa] 27))):=B2.out.trans ((bel1 _ _).mono B2.out.size)
    have X3:=((bel1 w2 (.cells #[.int .i64 fc,.int .i64 fa] 27)).block _ (lt_of_block X2)).trans X2
    have Y3:=Blk.new w2 #[.int .i64 fc,.int .i64 fa] 27
    have hne:(fc==0)=false:=by simpa using hc
    clear CM CT ht hres
    go_wp2_with fail
    clear d0 d1 e0 e1 f0 f1 B2 X1 X2
    generalize w2.alloc (.cells #[.int .i64 fc,.int .i64 fa] 27)=w3 at X3 Y3 B3 ⊢
    generalize w2.heap.size=Y at l1 Y3 ⊢
    obtain ⟨e0,e1,f0,f1,l2⟩:=blk_facts X3
    obtain ⟨g0,g1,-,-,l3⟩:=blk_facts Y3
    have n2:¬ Y=w.heap.size+1:=by omega
    have X8:=stored (.int .i64 fc) (.int .i64 fa) X3
    have B8:Hid (Below w.heap.size w ((w3.setCell ⟨w.heap.size+1,0,none⟩ (.int .i64 fc)).setCell ⟨w.heap.size+1,1,none⟩ (.int .i64 fa)).drew):=(storedB _ _ (Nat.le_succ _) B3.out).drew
    go_region
    clear g0 g1 e0 e1 f0 f1
    replace X8:Blk ((w3.setCell ⟨w.heap.size+1,0,none⟩ (.int .i64 fc)).setCell ⟨w.heap.size+1,1,none⟩ (.int .i64 fa)).drew (w.heap.size+1) #[.int .i64 fc,.int .i64 fa] 27:=X8
    generalize ((w3.setCell ⟨w.heap.size+1,0,none⟩ (.int .i64 fc)).setCell ⟨w.heap.size+1,1,none⟩ (.int .i64 fa)).drew=w9 at X8 B8 ⊢
    have y0:=cellOf X8 0 _ rfl
    have y1:=cellOf X8 1 _ rfl
    go_wp2
    exact bodyPost_ret (v:=.tuple #[.string ⟨#[]⟩,.agg #[.int .i64 fc,.int .i64 fa]]) (by simp [results,Tryz.results20,go_sem,y0,y1]) rfl ⟨by rw [R.out],B8.out⟩
theorem print_any {n : Nat} (m : List (MFunc n)) (p : Option Addr) (c : Nat) (w : World) (h0 : (modL n).In w All m [.slice p m.length c]) (hp : Pows w) (hs : msmall m) (ht : ∀ x ∈ m, x.tiny) :
    Calls Tryz.prog 20 #[.agg #[.slice p m.length c]] w (Prints w (printL m)):=by
  refine print_walk (fc:=(modFault m).1) (fa:=(modFault m).2) (nm:=modNums m) (t:=modTxt m) (fun wx hb=>cCheck_any (Lay.below h0 hb) hs) (fun wx hb=>hasNums_any m p c wx (Lay.below h0 hb) hs) (fun hz b wx hb hI=>?_) ?_ rfl
  · exact module_any m p c hI hb.size (Lay.lt (B:=w.heap.size) (Lay.mono h0 fun k _ hk=>hk) hb) (fun w' hw=>hp.below (hb.trans hw)) hs ht (mod_of hz)
  · by_cases hf:(modFault m).1=0
    · refine .inl fun e=>?_
      unfold modFault at hf
      cases m with
      | nil=>simp at hf
      | cons x l =>
        have:=congrArg List.length e
        simp [modTxt,MFunc.txt] at this
    · exact .inr hf
end Go.Proofs.YtalfbnllodhkiacGreatDoor
namespace Go.Proofs.YtalfbnllodhkiacGreatDoor
open Go.ChangeShapes Go.WideShapes Go.ChangeAt Go.RowKit
set_option linter.unusedSimpArgs false
set_option linter.unusedVariables false
def T00 : MTo := ⟨0, [], []⟩
def E00 : MEnd := ⟨3, 0, T00, T00, []⟩
def L0 : List (MFunc 1) := [⟨0, [], [], [⟨0, [], [], E00⟩]⟩]
theorem L0_fault : modFault L0 = (0, 0) := by decide +kernel
theorem L0_small : msmall L0 := msmall_of (by
  rintro (h | ⟨x,hx,h⟩)
  · exact absurd h (by decide)
  · simp only [L0,List.mem_singleton] at hx
    subst hx
    rcases h with h | h | h | ⟨y,hy,h⟩
    · exact absurd h (by decide)
    · rcases h with h | ⟨t,ht,_⟩
      · exact absurd h (by decide)
      · cases ht
    · rcases h with h | ⟨t,ht,_⟩
      · exact absurd h (by decide)
      · cases ht
    · simp only [List.mem_singleton] at hy
      subst hy
      rcases h with h | h | h | h | h | h | h | ⟨z,hz,h⟩
      · exact absurd h (by decide)
      · rcases h with h | ⟨t,ht,_⟩
        · exact absurd h (by decide)
        · cases ht
      · exact absurd h (by decide)
      · exact absurd h (by decide)
      · exact absurd h (by decide)
      · exact absurd h (by decide)
      · exact absurd h (by decide)
      · cases hz)
theorem one_list {α : Type} {A : Lay α} {w : World} {G : Nat} {c : Array Value} {t : TypeId} {x : α} {cs : List Value} (h : Blk w G c t) (hc : c.toList = cs) (hx : A.In w All x cs) : A.list.In w All [x] [.slice (some ⟨G, 0, none⟩) 1 1] := by
  refine ⟨some ⟨G,0,none⟩,1,rfl,fun i y hy=>?_⟩
  have hi:i=0:=by
    have:=(List.getElem?_eq_some_iff.1 hy).1
    simp at this;exact this
  subst hi
  simp at hy
  subst hy
  refine ⟨G,0,cs,rfl,trivial,h.lt,fun j hj=>?_,hx⟩
  have hl:=A.len hx
  have hj':j<c.size:=by rw [← hc] at hl;simp at hl;omega
  rw [Nat.zero_mul,Nat.zero_add,← hc,Array.getElem?_toList]
  exact (cellOf h j c[j] (Array.getElem?_eq_getElem hj')).trans (Array.getElem?_eq_getElem hj').symm
theorem end_in (w : World) : EIn w All E00 ⟨none, 0, none, 0, none, 0, none, 0, none, 0⟩ :=
  ⟨⟨Lay.list_nil _ _ _ _ _,Lay.list_nil _ _ _ _ _,by decide⟩,⟨Lay.list_nil _ _ _ _ _,Lay.list_nil _ _ _ _ _,by decide⟩,Lay.list_nil _ _ _ _ _,by decide,by decide⟩
theorem least_in {w : World} {G1 G2 : Nat} (h1 : Blk w G1 #[.int .i64 0, .slice none 0 0, .slice none 0 0, .int .i64 3, .int .i64 0, .int .i64 0, .slice none 0 0, .slice none 0 0, .int .i64 0, .slice none 0 0, .slice none 0 0, .slice none 0 0] 52) (h2 : Blk w G2 #[.int .i64 0, .slice none 0 0, .slice none 0 0, .slice (some ⟨G1, 0, none⟩) 1 1] 42) : (modL 1).In w All L0 [.slice (some ⟨G2, 0, none⟩) 1 1] :=
  one_list h2 rfl (func_shut (f:=⟨none,0,none,0,some ⟨G1,0,none⟩,1⟩) ⟨Lay.list_nil _ _ _ _ _,Lay.list_nil _ _ _ _ _,one_list h1 rfl (block_shut (x:=⟨0,[],[],E00⟩) (b:=⟨none,0,none,0,_⟩) ⟨Lay.list_nil _ _ _ _ _,Lay.list_nil _ _ _ _ _,end_in w,by decide⟩),by decide⟩)
def LeastOut (w w' : World) (e : Ending) : Prop := ∃ G1 G2, e = .returned (.agg #[.slice (some ⟨G2, 0, none⟩) 1 1]) ∧ Blk w' G1 #[.int .i64 0, .slice none 0 0, .slice none 0 0, .int .i64 3, .int .i64 0, .int .i64 0, .slice none 0 0, .slice none 0 0, .int .i64 0, .slice none 0 0, .slice none 0 0, .slice none 0 0] 52 ∧ Blk w' G2 #[.int .i64 0, .slice none 0 0, .slice none 0 0, .slice (some ⟨G1, 0, none⟩) 1 1] 42 ∧ w.heap.size ≤ G1 ∧ w.heap.size ≤ G2 ∧ G1 ≠ G2 ∧ Below w.heap.size w w'
theorem least_any (w : World) : Calls Tryz.prog 40 #[] w fun e w' => LeastOut w w' e := by
  refine fr_enter (n:=7) Tryz.func40 rfl rfl rfl ?_
  intro a hF
  have hW:=Wd.start w
  replace hF:Fr 7 a []:=hF
  refine wp_seq_k fun K1 hK1=>?_
  refine rg hF fun ops=>?_;clear hF a
  refine sAModule hW trivial rfl ?_
  clear hW;intro w2 B2 hW2 hN;clear hN
  refine St.nil fun a3 h3=>?_
  refine hK1 _ _ ?_
  refine wp_seq_k fun K4 hK4=>?_
  refine rg h3 fun ops=>?_;clear h3 a3
  intro a5 h5
  refine fr_pure (t:=1) (v:=.agg #[.int .i64 3,.int .i64 0,.int .i64 0,.slice none 0 0,.slice none 0 0,.int .i64 0,.slice none 0 0,.slice none 0 0,.slice none 0 0]) (w':=w2) h5 rfl rfl rfl (fun K hK=>?_) ?_
  ·go_simp
   exact hK
  clear h5;intro a6 hF6
  refine fr_pure (t:=2) (v:=.agg #[.int .i64 0,.slice none 0 0,.slice none 0 0,.int .i64 3,.int .i64 0,.int .i64 0,.slice none 0 0,.slice none 0 0,.int .i64 0,.slice none 0 0,.slice none 0 0,.slice none 0 0]) (w':=w2) hF6 rfl rfl rfl (fun K hK=>?_) ?_
  ·have k0:a6.tmps[1]?.getD undef=.agg #[.int .i64 3,.int .i64 0,.int .i64 0,.slice none 0 0,.slice none 0 0,.int .i64 0,.slice none 0 0,.slice none 0 0,.slice none 0 0]:=hF6.sl2 1 _ rfl
   go_simp
   exact hK
  clear hF6;intro a7 hF7
  refine fr_row (t:=3) #[.int .i64 0,.slice none 0 0,.slice none 0 0,.int .i64 3,.int .i64 0,.int .i64 0,.slice none 0 0,.slice none 0 0,.int .i64 0,.slice none 0 0,.slice none 0 0,.slice none 0 0] 52 1 hF7 hW2 rfl rfl rfl (fun K hK=>?_) ?_
  ·have k0:a7.tmps[2]?.getD undef=.agg #[.int .i64 0,.slice none 0 0,.slice none 0 0,.int .i64 3,.int .i64 0,.int .i64 0,.slice none 0 0,.slice none 0 0,.int .i64 0,.slice none 0 0,.slice none 0 0,.slice none 0 0]:=hF7.sl2 2 _ rfl
   go_simp
   exact hK
  clear hF7 hW2;intro a8 w9 B9 hW9 hN hF8;clear hN
  refine fr_pure (t:=4) (v:=.agg #[.int .i64 0,.slice none 0 0,.slice none 0 0,.slice (some ⟨B9,0,none⟩) 1 1]) (w':=w9) hF8 rfl rfl rfl (fun K hK=>?_) ?_
  ·have k0:a8.tmps[3]?.getD undef=.slice (some ⟨B9,0,none⟩) 1 1:=hF8.sl2 3 _ rfl
   go_simp
   exact hK
  clear hF8;intro a10 hF10
  refine fr_row (t:=5) #[.int .i64 0,.slice none 0 0,.slice none 0 0,.slice (some ⟨B9,0,none⟩) 1 1] 42 1 hF10 hW9 rfl rfl rfl (fun K hK=>?_) ?_
  ·have k0:a10.tmps[4]?.getD undef=.agg #[.int .i64 0,.slice none 0 0,.slice none 0 0,.slice (some ⟨B9,0,none⟩) 1 1]:=hF10.sl2 4 _ rfl
   go_simp
   exact hK
  clear hF10 hW9;intro a11 w12 B12 hW12 hN hF11;clear hN
  refine fr_pure (t:=6) (v:=.agg #[.slice (some ⟨B12,0,none⟩) 1 1]) (w':=w12) hF11 rfl rfl rfl (fun K hK=>?_) ?_
  ·have k0:a11.tmps[5]?.getD undef=.slice (some ⟨B12,0,none⟩) 1 1:=hF11.sl2 5 _ rfl
   go_simp
   exact hK
  clear hF11;intro a13 hF13
  refine St.go hF13 ?_;clear hF13 a13
  refine sT 2 hW12 rfl rfl infModule rfl rfl rfl ?_
  clear hW12;intro w14 hW14
  refine St.nil fun a15 h15=>?_
  refine hK4 _ _ ?_
  refine wp_ret ?_;with_reducible repeat first | refine of_then_ret ?_ | refine of_block_ret ?_
  exact ret_box 2 h15 hW14 rfl rfl rfl Tryz.underlying25 rfl infModule ⟨B9,B12,rfl,hW14.get 1 rfl,hW14.get 0 rfl,hW14.new 1 _ rfl,hW14.new 0 _ rfl,fun e=>absurd (hW14.nd 1 0 _ _ rfl rfl e) (by decide),hW14.bel⟩
end Go.Proofs.YtalfbnllodhkiacGreatDoor
namespace Go.Proofs.YtalfbnllodhkiacGreatDoor
open Go.ChangeShapes Go.WideShapes Go.ChangeAt Go.RowKit
set_option linter.unusedVariables false
theorem size_any : ∀ (n : Nat) (t : TT n) (a : Option Addr) (c : Nat) (w : World) (left : Int), TIn w All t a → 0 ≤ left → left ≤ 2000 →
    Calls Tryz.prog 116 #[Tv t a c,.int .i64 left] w fun e w'=>e=.returned (.int .i64 (max (-1) (left - t.count)))∧Below w.heap.size w w':=by
  intro n
  induction n with
  | zero=>intro t;exact Empty.elim t
  | succ n ih =>
    intro t a c w left ht h0 h1
    have IH:Hid (∀ (t:TT n) (a:Option Addr) (c:Nat) (w:World) (left:Int),TIn w All t a→0≤left→left≤2000 →
      Calls Tryz.prog 116 #[Tv t a c,.int .i64 left] w fun e w'=>e=.returned (.int .i64 (max (-1) (left - t.count)))∧Below w.heap.size w w'):=ih
    clear ih
    have hT:Hid (LIn w All t.2.2 a):=ht.list
    have hc:t.count=1+(t.2.2.map TT.count).sum:=rfl
    rw [hc]
    clear hc
    simp only [Tv,TT.len_eq]
    generalize t.2.2=l at hT ⊢
    generalize t.kind=k
    generalize t.r=r
    clear ht t
    go_enter Tryz.func116,Tryz.ntmps116
    go_wp2_with fail
    have X0:Hid (Bx w (w.alloc (.cells #[.int .i64 k,.int .i64 r,.slice a l.length c] 78)) k r a l.length c):=Bx.start w k r a l.length c
    generalize w.alloc (.cells #[.int .i64 k,.int .i64 r,.slice a l.length c] 78)=w1 at X0 ⊢
    go_loopw [1,5] (fun lf i wr=>∃ q:Nat,q≤l.length∧i=.int .i64 q∧lf=.int .i64 (max (-1) (left - 1 - (((l.map TT.count).take q).sum:Nat)))∧Bx w wr k r a l.length c) (fun _ i _=>l.length - (intOf i).toNat)
    case atStart=>exact ⟨0,Nat.zero_le _,rfl,by simp;omega,X0.out⟩
    case round =>
      clear X0
      obtain ⟨q,hq,rfl,rfl,hX⟩:=hrel
      generalize hs:(((l.map TT.count).take q).sum:Nat)=s
      have e2:wr.cell? ⟨w.heap.size,2,none⟩=some (.slice a l.length c):=cellOf hX.box 2 _ rfl
      have X1:Hid (Bx w wr k r a l.length c):=hX
      by_cases hlt:q<l.length
      · by_cases hge:0≤max (-1) (left - 1 - (s:Int))
        · have hx:l[q]?=some l[q]:=List.getElem?_eq_getElem hlt
          generalize l[q]=x at hx
          obtain ⟨g,o,a',c',rfl,_,d0,d1,d2,hk⟩:=LIn.at (hT.out.below hX.bel) hx
          have H:Hid (TIn wr All x a'):=hk
          have hS:=sum_take_succ TT.count l q x hx
          rw [hs] at hS
          have HS:Hid (((l.map TT.count).take (q+1)).sum=s+x.count):=hS
          have S:Hid (max (-1) (left - 1 - (s:Int))≤2000):=by show _≤_;omega
          clear hX hk hx hS
          generalize hm:max (-1) (left - 1 - (s:Int))=m at hge S
          have M:Hid (max (-1) (left - 1 - (s:Int))=m):=hm
          clear hm
          have hk0:(0:Int)≤q:=by omega
          have hk1:(q:Int)<l.length:=by omega
          have hk2:(q:Int)<2000:=by
            have h3:=length_le_sum ((l.map TT.count).take q) (fun y hy=>by obtain ⟨z,_,rfl⟩:=List.mem_map.1 (List.mem_of_mem_take hy);exact z.count_pos)
            have h4:=M.out
            rw [List.length_take,List.length_map] at h3
            omega
          clear hs
          go_wp2_with fail
          refine (IH.out x a' c' _ m H.out hge S.out).mono ?_
          rintro e w2 ⟨rfl,b2⟩
          have X2:Hid (Bx w w2 k r (some ⟨g,o,none⟩) l.length c):=X1.out.below b2
          clear X1
          go_wp2
          go_roundw
          case rel=>exact ⟨q+1,by omega,by go_num,by rw [HS.out];have:=M.out;have:=x.count_pos;congr 1;omega,X2.out⟩
          case measure=>simp [intOf];omega
        · have F:Hid (max (-1) (left - 1 - (s:Int))=max (-1) (left - ((1+(l.map TT.count).sum:Nat):Int))):=by
            have:=sum_take_le (l.map TT.count) q
            show _=_
            omega
          have hge':max (-1) (left - 1 - (s:Int))<0:=by omega
          generalize max (-1) (left - 1 - (s:Int))=m at F hge' ⊢
          clear hge hs
          have hk1:(q:Int)<l.length:=by omega
          go_wp2
          go_ret
          exact ⟨by show Ending.returned (.int .i64 m)=_;have:=F.out;congr 2,X1.out.bel⟩
      · have F:Hid (max (-1) (left - 1 - (s:Int))=max (-1) (left - ((1+(l.map TT.count).sum:Nat):Int))):=by
          rw [List.take_of_length_le (by simp;omega)] at hs
          show _=_
          omega
        generalize max (-1) (left - 1 - (s:Int))=m at F ⊢
        clear hs
        have hk1:¬ (q:Int)<l.length:=by omega
        go_wp2
        go_ret
        exact ⟨by show Ending.returned (.int .i64 m)=_;have:=F.out;congr 2,X1.out.bel⟩
theorem great_any (n : Nat) (t : TT n) (a : Option Addr) (c : Nat) (w : World) (ht : TIn w All t a) :
    Calls Tryz.prog 78 #[Tv t a c] w fun e w'=>e=.returned (.bool (decide (2000<t.count)))∧Below w.heap.size w w':=by
  have C:Hid (∀ wx,Below w.heap.size w wx→Calls Tryz.prog 116 #[Tv t a c,.int .i64 2000] wx fun e w'=>e=.returned (.int .i64 (max (-1) (2000 - (t.count:Int))))∧Below wx.heap.size wx w') :=
    fun wx hb=>size_any n t a c wx 2000 (ht.below hb) (by omega) (by omega)
  clear ht
  simp only [Tv] at C ⊢
  generalize t.kind=k at C ⊢
  generalize t.r=r at C ⊢
  generalize t.len=len at C ⊢
  generalize t.count=q at C ⊢
  go_enter Tryz.func78,Tryz.ntmps78
  go_wp2_with fail
  refine (C.out _ ((Below.refl _ w).alloc (Nat.le_refl _) _)).mono ?_
  rintro e w2 ⟨rfl,b2⟩
  have B:Hid (Below w.heap.size w w2):=((Below.refl _ w).alloc (Nat.le_refl _) _).trans (b2.mono (by simp))
  have F:Hid (max (-1) (2000 - (q:Int))<0 ↔ 2000<q):=by show _ ↔ _;omega
  generalize max (-1) (2000 - (q:Int))=m at F ⊢
  clear b2 C
  go_wp2
  go_ret
  exact ⟨by show Ending.returned (.bool (decide (m<0)))=_;rw [decide_eq_decide.2 F.out],B.out⟩
end Go.Proofs.YtalfbnllodhkiacGreatDoor
namespace Go.Proofs.YtalfbnllodhkiacGreatDoor
open Go.ChangeShapes Go.WideShapes Go.ChangeAt Go.RowKit
set_option linter.unusedSimpArgs false
set_option linter.unusedVariables false
theorem greatTypes_any (n : Nat) (l : List (TT n)) (p : Option Addr) (c : Nat) (w : World) (hl0 : LIn w All l p) :
    Rd Tryz.prog 41 #[.slice p l.length c] w (.bool (bdec (greatTs l))):=by
  have hl:Hid (LIn w All l p):=hl0
  clear hl0
  refine fr_enter (n:=18) Tryz.func41 rfl rfl rfl ?_
  intro a hF
  have hW:=Wd.start w
  replace hF:Fr 18 a [(0,.slice p l.length c)]:=hF
  refine wp_seq_k fun K1 hK1=>?_
  refine rg hF fun ops=>?_;clear hF a
  refine sa trivial rfl rfl ?_
  refine St.nil fun a2 h2=>?_
  refine hK1 _ _ ?_
  refine wp_seq_k fun K3 hK3=>?_
  refine wp_seq_k fun K4 hK4=>?_
  refine rg h2 fun ops=>?_;clear h2 a2
  refine sm trivial rfl rfl ?_
  refine slTypes trivial rfl rfl ?_
  refine sgt trivial rfl rfl rfl ?_
  refine St.nil fun a5 h5=>?_
  refine hK4 _ _ ?_
  refine fr_cond (t:=6) h5 rfl (fun hb=>?_) (fun hb=>?_)
  ·have hlen:200<l.length:=by have:=of_decide_eq_true hb;omega
   refine wp_seq_k fun K6 hK6=>?_
   refine rg h5 fun ops=>?_;clear h5 a5
   refine sa trivial rfl rfl ?_
   refine St.nil fun a7 h7=>?_
   refine hK6 _ _ ?_
   refine wp_ret ?_;with_reducible repeat first | refine of_then_ret ?_ | refine of_block_ret ?_
   have GR:greatTs l:=by first | exact .inl hlen | exact .inr ⟨x,List.mem_of_getElem? hx.out,hcx⟩
   exact ret_tmp (t:=2) h7 rfl rfl ⟨by rw [bdec_true GR],hW.bel⟩
  have hlen:l.length≤200:=by have:=of_decide_eq_false hb;omega
  refine wp_skip ?_
  refine hK3 _ _ ?_
  refine wp_seq_k fun K8 hK8=>?_
  refine wp_seq_k fun K9 hK9=>?_
  refine rg h5 fun ops=>?_;clear h5 a5
  refine sa trivial rfl rfl ?_
  refine St.nil fun a10 h10=>?_
  refine hK9 _ _ ?_
  refine wp_block ?_
  refine fr_loop (fun r a w'=>∃ q:Nat,q≤l.length∧r=l.length - q∧(∀ (j:Nat) x,j<q→l[j]?=some x→x.count≤2000)∧Fr 18 a [(0,.slice p l.length c),(2,.bool false),(3,.int .i64 (q:Int))]∧Wd w w' []) l.length ⟨0,Nat.zero_le _,rfl,fun j x hj=>by omega,(h10.keep (h10.keep (h10.keep h10.nil (t:=3) rfl) (t:=2) rfl) (t:=0) rfl),hW⟩ ?_
  clear h10 hW
  rintro r a11 w11 ⟨q,hq,hr,hall,hF11,hW11⟩ KL hKL
  refine wp_seq_k fun K12 hK12=>?_
  refine wp_seq_k fun K13 hK13=>?_
  refine rg hF11 fun ops=>?_;clear hF11 a11
  refine sm trivial rfl rfl ?_
  refine sm trivial rfl rfl ?_
  refine slTypes trivial rfl rfl ?_
  refine slt trivial rfl rfl rfl ?_
  refine St.nil fun a14 h14=>?_
  refine hK13 _ _ ?_
  refine fr_cond (t:=10) h14 rfl (fun hb=>?_) (fun hb=>?_)
  ·have hlt:q<l.length:=by have:=of_decide_eq_true hb;omega
   clear hb
   obtain ⟨x,hx⟩:∃ x,l[q]?=some x:=⟨_,List.getElem?_eq_getElem hlt⟩
   obtain ⟨g,o,p',c',hp,E,H⟩:=lin_at hl.out hx
   replace hp:Hid _:=hp
   replace E:Hid _:=E
   replace H:Hid _:=H
   replace hx:Hid _:=hx
   refine wp_skip ?_
   refine hK12 _ _ ?_
   refine wp_seq_k fun K15 hK15=>?_
   refine wp_block ?_
   refine wp_seq_k fun K16 hK16=>?_
   refine rg h14 fun ops=>?_;clear h14 a14
   refine sm trivial rfl rfl ?_
   refine sm trivial rfl rfl ?_
   refine siTypes hp.out hlt trivial rfl rfl rfl ?_
   refine sSE Tryz.underlying78 rfl (rangeAt_bel E.out hW11.bel) infType trivial rfl rfl ?_
   refine sc_1 cf78 hW11 (great_any n x p' c' w11 (H.out.below hW11.bel)) trivial rfl rfl ?_
   clear hW11;intro w17 hW17
   refine St.nil fun a18 h18=>?_
   refine hK16 _ _ ?_
   refine fr_cond (t:=17) h18 rfl (fun hb=>?_) (fun hb=>?_)
   ·have hcx:2000<x.count:=of_decide_eq_true hb
    refine wp_seq_k fun K19 hK19=>?_
    refine rg h18 fun ops=>?_;clear h18 a18
    refine sa trivial rfl rfl ?_
    refine St.nil fun a20 h20=>?_
    refine hK19 _ _ ?_
    refine wp_ret ?_;with_reducible repeat first | refine of_then_ret ?_ | refine of_block_ret ?_
    have GR:greatTs l:=by first | exact .inl hlen | exact .inr ⟨x,List.mem_of_getElem? hx.out,hcx⟩
    exact ret_tmp (t:=2) h20 rfl rfl ⟨by rw [bdec_true GR],hW17.bel⟩
   have hcx:x.count≤2000:=by have:=of_decide_eq_false hb;omega
   refine wp_skip ?_
   refine hK15 _ _ ?_
   refine rg h18 fun ops=>?_;clear h18 a18
   refine sm trivial rfl rfl ?_
   refine sad (by omega) trivial rfl rfl rfl ?_
   refine sa trivial rfl rfl ?_
   refine St.nil fun a21 h21=>?_
   refine hKL _ _ (l.length - (q+1)) (by omega) ⟨q+1,by omega,rfl,fun j y hj hy=>?_,(h21.keep (h21.keep (h21.keep h21.nil (t:=3) rfl) (t:=2) rfl) (t:=0) rfl),hW17⟩
   by_cases e:j=q
   · subst e;rw [hx.out] at hy;cases hy;exact hcx
   · exact hall j y (by omega) hy
  have hge:q=l.length:=by have:=of_decide_eq_false hb;omega
  refine wp_exit ?_
  refine hK8 _ _ ?_
  refine wp_seq_k fun K22 hK22=>?_
  refine rg h14 fun ops=>?_;clear h14 a14
  refine sa trivial rfl rfl ?_
  refine St.nil fun a23 h23=>?_
  refine hK22 _ _ ?_
  refine wp_ret ?_;with_reducible repeat first | refine of_then_ret ?_ | refine of_block_ret ?_
  have GR:¬ greatTs l:=by
    rintro (h | ⟨x,hx,h⟩)
    · omega
    · obtain ⟨i,hi,rfl⟩:=List.mem_iff_getElem.1 hx
      have:=hall i _ (by omega) (List.getElem?_eq_getElem hi)
      omega
  exact ret_tmp (t:=2) h23 rfl rfl ⟨by rw [bdec_false GR],hW11.bel⟩
theorem greatModule_any (n : Nat) (m : List (MFunc n)) (p : Option Addr) (c : Nat) (w : World) (hm0 : (modL n).In w All m [.slice p m.length c]) :
    Rd Tryz.prog 18 #[.agg #[.slice p m.length c]] w (.bool (bdec (greatMod m))):=by
  have hm:Hid ((modL n).In w All m [.slice p m.length c]):=hm0
  clear hm0
  refine fr_enter (n:=123) Tryz.func18 rfl rfl rfl ?_
  intro a hF
  have hW:=Wd.start w
  replace hF:Fr 123 a [(0,.agg #[.slice p m.length c])]:=hF
  refine wp_seq_k fun K1 hK1=>?_
  refine rg hF fun ops=>?_;clear hF a
  refine sB hW trivial rfl rfl ?_
  clear hW;intro w2 B2 hW2 hN;clear hN
  refine sa trivial rfl rfl ?_
  refine St.nil fun a3 h3=>?_
  refine hK1 _ _ ?_
  refine wp_seq_k fun K4 hK4=>?_
  refine wp_seq_k fun K5 hK5=>?_
  refine rg h3 fun ops=>?_;clear h3 a3
  refine sfModule0 trivial rfl rfl ?_
  refine sbFuncs 0 hW2 trivial rfl rfl rfl rfl ?_
  refine slFuncs trivial rfl rfl ?_
  refine sgt trivial rfl rfl rfl ?_
  refine St.nil fun a6 h6=>?_
  refine hK5 _ _ ?_
  refine fr_cond (t:=11) h6 rfl (fun hb=>?_) (fun hb=>?_)
  ·have hc7:20<m.length:=by have:=of_decide_eq_true hb;omega
   clear hb
   refine wp_seq_k fun K8 hK8=>?_
   refine rg h6 fun ops=>?_;clear h6 a6
   refine sa trivial rfl rfl ?_
   refine St.nil fun a9 h9=>?_
   refine hK8 _ _ ?_
   refine wp_ret ?_;with_reducible repeat first | refine of_then_ret ?_ | refine of_block_ret ?_
   have GR:greatMod m:=.inl hc7
   exact ret_tmp (t:=2) h9 rfl rfl ⟨by rw [bdec_true GR],hW2.bel⟩
  have hc10:¬ (20<m.length):=by have:=of_decide_eq_false hb;omega
  clear hb
  refine wp_skip ?_
  refine hK4 _ _ ?_
  refine wp_seq_k fun K11 hK11=>?_
  refine wp_seq_k fun K12 hK12=>?_
  refine rg h6 fun ops=>?_;clear h6 a6
  refine sa trivial rfl rfl ?_
  refine St.nil fun a13 h13=>?_
  refine hK12 _ _ ?_
  refine wp_block ?_
  refine fr_loop (fun r a w'=>∃ q1:Nat,q1≤m.length∧r=m.length - q1∧(∀ (j:Nat) x,j<q1→m[j]?=some x→¬ x.great)∧Fr 123 a [(0,.agg #[.slice p m.length c]),(1,.pointer (some ⟨B2,0,none⟩)),(2,.bool false),(3,.int .i64 (q1:Int))]∧Wd w w' [(B2,#[.slice p m.length c],25)]) (m.length) ⟨0,Nat.zero_le _,rfl,(fun j x hj=>by omega),(h13.keep (h13.keep (h13.keep (h13.keep h13.nil (t:=3) rfl) (t:=2) rfl) (t:=1) rfl) (t:=0) rfl),hW2⟩ ?_
  clear h13 hW2
  rintro r1 a14 w14 ⟨q1,hq1,hr1,hall1,hF14,hW14⟩ KL1 hKL1
  refine wp_seq_k fun K15 hK15=>?_
  refine wp_seq_k fun K16 hK16=>?_
  refine rg hF14 fun ops=>?_;clear hF14 a14
  refine sm trivial rfl rfl ?_
  refine sfModule0 trivial rfl rfl ?_
  refine sbFuncs 0 hW14 trivial rfl rfl rfl rfl ?_
  refine slFuncs trivial rfl rfl ?_
  refine slt trivial rfl rfl rfl ?_
  refine St.nil fun a17 h17=>?_
  refine hK16 _ _ ?_
  refine fr_cond (t:=16) h17 rfl (fun hb=>?_) (fun hb=>?_)
  ·have hlt1:q1<m.length:=by have:=of_decide_eq_true hb;omega
   clear hb
   obtain ⟨x,hx1⟩:∃ v9,(m)[q1]?=some v9:=⟨_,List.getElem?_eq_getElem hlt1⟩
   obtain ⟨g1,o1,f1,hp1,E1,In1⟩:=func_at hm.out hx1
   replace In1:Hid _:=In1
   replace hp1:Hid _:=hp1
   replace hx1:Hid _:=hx1
   replace E1:Hid _:=E1
   refine wp_skip ?_
   refine hK15 _ _ ?_
   refine wp_seq_k fun K18 hK18=>?_
   refine wp_block ?_
   refine wp_seq_k fun K19 hK19=>?_
   refine rg h17 fun ops=>?_;clear h17 a17
   refine sfModule0 trivial rfl rfl ?_
   refine sbFuncs 0 hW14 trivial rfl rfl rfl rfl ?_
   refine sm trivial rfl rfl ?_
   refine siFuncs hp1.out hlt1 trivial rfl rfl rfl ?_
   refine sSE Tryz.underlying42 rfl (rangeAt_bel E1.out hW14.bel) infFunc trivial rfl rfl ?_
   refine sAFunc hW14 trivial rfl ?_
   clear hW14;intro w20 B20 hW20 hN;clear hN
   refine sT 0 hW20 rfl rfl infFunc rfl rfl rfl ?_
   clear hW20;intro w21 hW21
   refine St.nil fun a22 h22=>?_
   refine hK19 _ _ ?_
   refine wp_seq_k fun K23 hK23=>?_
   refine wp_seq_k fun K24 hK24=>?_
   refine fr_region ?_
   intro ops hops
   have hg4:(ops[4]?).bind (fun o:Oper=>o.dst)=some 28:=hops 4
   have hg9:(ops[9]?).bind (fun o:Oper=>o.dst)=some 33:=hops 9
   clear hops
   refine St.go h22 ?_;clear h22 a22
   refine sfFunc3 trivial rfl rfl ?_
   refine sbBlocks 0 hW21 trivial rfl rfl rfl rfl ?_
   refine slBlocks trivial rfl rfl ?_
   refine sgt trivial rfl rfl rfl ?_
   refine sm trivial rfl rfl ?_
   intro a25 h25
   rcases Bool.eq_false_or_eq_true (decide (30<(x.blocks.length:Int))) with hb | hb
   ·rw [hb] at h25
    have hc26:30<x.blocks.length:=by have:=of_decide_eq_true hb;omega
    clear hb
    refine St.go h25 ?_;clear h25 a25
    refine so hg4 rfl rfl rfl rfl ?_
    refine so hg4 rfl rfl rfl rfl ?_
    refine so hg4 rfl rfl rfl rfl ?_
    refine sp trivial rfl rfl rfl ?_
    refine sm trivial rfl rfl ?_
    refine so hg9 rfl rfl rfl rfl ?_
    refine so hg9 rfl rfl rfl rfl ?_
    refine so hg9 rfl rfl rfl rfl ?_
    refine sp trivial rfl rfl rfl ?_
    refine St.nil fun a27 h27=>?_
    refine hK24 _ _ ?_
    refine fr_true (t:=37) h27 rfl ?_
    refine wp_seq_k fun K28 hK28=>?_
    refine rg h27 fun ops=>?_;clear h27 a27
    refine sa trivial rfl rfl ?_
    refine St.nil fun a29 h29=>?_
    refine hK28 _ _ ?_
    refine wp_ret ?_;with_reducible repeat first | refine of_then_ret ?_ | refine of_block_ret ?_
    have GR:greatMod m:=.inr ⟨x,List.mem_of_getElem? hx1.out,.inl hc26⟩
    exact ret_tmp (t:=2) h29 rfl rfl ⟨by rw [bdec_true GR],hW21.bel⟩
   rw [hb] at h25
   have hc30:¬ (30<x.blocks.length):=by have:=of_decide_eq_false hb;omega
   clear hb
   refine St.go h25 ?_;clear h25 a25
   refine sfFunc1 ⟨_,hg4,rfl,rfl⟩ rfl rfl ?_
   refine sbTypes 0 hW21 ⟨_,hg4,rfl,rfl⟩ rfl rfl rfl rfl ?_
   refine sc_1 cf41 hW21 (greatTypes_any n x.params f1.pP f1.cP w21 ((types_lin In1.out.params).1.below hW21.bel)) ⟨_,hg4,rfl,rfl⟩ rfl rfl ?_
   clear hW21;intro w31 hW31
   refine spf trivial rfl rfl rfl ?_
   refine sm trivial rfl rfl ?_
   intro a32 h32
   rcases Bool.eq_false_or_eq_true (bdec (greatTs x.params)) with hb | hb
   ·rw [hb] at h32
    have hc33:(greatTs x.params):=bdec_iff.1 hb
    clear hb
    refine St.go h32 ?_;clear h32 a32
    refine so hg9 rfl rfl rfl rfl ?_
    refine so hg9 rfl rfl rfl rfl ?_
    refine so hg9 rfl rfl rfl rfl ?_
    refine sp trivial rfl rfl rfl ?_
    refine St.nil fun a34 h34=>?_
    refine hK24 _ _ ?_
    refine fr_true (t:=37) h34 rfl ?_
    refine wp_seq_k fun K35 hK35=>?_
    refine rg h34 fun ops=>?_;clear h34 a34
    refine sa trivial rfl rfl ?_
    refine St.nil fun a36 h36=>?_
    refine hK35 _ _ ?_
    refine wp_ret ?_;with_reducible repeat first | refine of_then_ret ?_ | refine of_block_ret ?_
    have GR:greatMod m:=.inr ⟨x,List.mem_of_getElem? hx1.out,.inr (.inl hc33)⟩
    exact ret_tmp (t:=2) h36 rfl rfl ⟨by rw [bdec_true GR],hW31.bel⟩
   rw [hb] at h32
   have hc37:¬ (greatTs x.params):=fun h=>by rw [bdec_true h] at hb;cases hb
   clear hb
   refine St.go h32 ?_;clear h32 a32
   refine sfFunc2 ⟨_,hg9,rfl,rfl⟩ rfl rfl ?_
   refine sbTypes 0 hW31 ⟨_,hg9,rfl,rfl⟩ rfl rfl rfl rfl ?_
   refine sc_1 cf41 hW31 (greatTypes_any n x.results f1.pR f1.cR w31 ((types_lin In1.out.results).1.below hW31.bel)) ⟨_,hg9,rfl,rfl⟩ rfl rfl ?_
   clear hW31;intro w38 hW38
   refine spf trivial rfl rfl rfl ?_
   refine St.nil fun a39 h39=>?_
   refine hK24 _ _ ?_
   refine fr_cond (t:=37) h39 rfl (fun hb=>?_) (fun hb=>?_)
   ·have hc40:(greatTs x.results):=bdec_iff.1 hb
    clear hb
    refine wp_seq_k fun K41 hK41=>?_
    refine rg h39 fun ops=>?_;clear h39 a39
    refine sa trivial rfl rfl ?_
    refine St.nil fun a42 h42=>?_
    refine hK41 _ _ ?_
    refine wp_ret ?_;with_reducible repeat first | refine of_then_ret ?_ | refine of_block_ret ?_
    have GR:greatMod m:=.inr ⟨x,List.mem_of_getElem? hx1.out,.inr (.inr (.inl hc40))⟩
    exact ret_tmp (t:=2) h42 rfl rfl ⟨by rw [bdec_true GR],hW38.bel⟩
   have hc43:¬ (greatTs x.results):=fun h=>by rw [bdec_true h] at hb;cases hb
   clear hb
   refine wp_skip ?_
   refine hK23 _ _ ?_
   refine wp_seq_k fun K44 hK44=>?_
   refine rg h39 fun ops=>?_;clear h39 a39
   refine sa trivial rfl rfl ?_
   refine St.nil fun a45 h45=>?_
   refine hK44 _ _ ?_
   refine wp_block ?_
   refine fr_loop (fun r a w'=>∃ q2:Nat,q2≤x.blocks.length∧r=x.blocks.length - q2∧(∀ (j:Nat) y,j<q2→x.blocks[j]?=some y→¬ y.great)∧Fr 123 a [(0,.agg #[.slice p m.length c]),(1,.pointer (some ⟨B2,0,none⟩)),(2,.bool false),(3,.int .i64 (q1:Int)),(4,.pointer (some ⟨B20,0,none⟩)),(5,.int .i64 (q2:Int))]∧Wd w w' [(B20,#[.int .i64 x.regs,.slice f1.pP x.params.length f1.cP,.slice f1.pR x.results.length f1.cR,.slice f1.pB x.blocks.length f1.cB],42),(B2,#[.slice p m.length c],25)]) (x.blocks.length) ⟨0,Nat.zero_le _,rfl,(fun j x hj=>by omega),(h45.keep (h45.keep (h45.keep (h45.keep (h45.keep (h45.keep h45.nil (t:=5) rfl) (t:=4) rfl) (t:=3) rfl) (t:=2) rfl) (t:=1) rfl) (t:=0) rfl),hW38⟩ ?_
   clear h45 hW38
   rintro r2 a46 w46 ⟨q2,hq2,hr2,hall2,hF46,hW46⟩ KL2 hKL2
   refine wp_seq_k fun K47 hK47=>?_
   refine wp_seq_k fun K48 hK48=>?_
   refine rg hF46 fun ops=>?_;clear hF46 a46
   refine sm trivial rfl rfl ?_
   refine sfFunc3 trivial rfl rfl ?_
   refine sbBlocks 0 hW46 trivial rfl rfl rfl rfl ?_
   refine slBlocks trivial rfl rfl ?_
   refine slt trivial rfl rfl rfl ?_
   refine St.nil fun a49 h49=>?_
   refine hK48 _ _ ?_
   refine fr_cond (t:=42) h49 rfl (fun hb=>?_) (fun hb=>?_)
   ·have hlt2:q2<x.blocks.length:=by have:=of_decide_eq_true hb;omega
    clear hb
    obtain ⟨y,hx2⟩:∃ v9,(x.blocks)[q2]?=some v9:=⟨_,List.getElem?_eq_getElem hlt2⟩
    obtain ⟨g2,o2,b2,hp2,E2,In2⟩:=block_at In1.out.blocks hx2
    replace In2:Hid _:=In2
    replace hp2:Hid _:=hp2
    replace hx2:Hid _:=hx2
    replace E2:Hid _:=E2
    refine wp_skip ?_
    refine hK47 _ _ ?_
    refine wp_seq_k fun K50 hK50=>?_
    refine wp_block ?_
    refine wp_seq_k fun K51 hK51=>?_
    refine rg h49 fun ops=>?_;clear h49 a49
    refine sfFunc3 trivial rfl rfl ?_
    refine sbBlocks 0 hW46 trivial rfl rfl rfl rfl ?_
    refine sm trivial rfl rfl ?_
    refine siBlocks hp2.out hlt2 trivial rfl rfl rfl ?_
    refine sSE Tryz.underlying52 rfl (rangeAt_bel E2.out hW46.bel) infBlock trivial rfl rfl ?_
    refine sABlock hW46 trivial rfl ?_
    clear hW46;intro w52 B52 hW52 hN;clear hN
    refine sT 0 hW52 rfl rfl infBlock rfl rfl rfl ?_
    clear hW52;intro w53 hW53
    refine St.nil fun a54 h54=>?_
    refine hK51 _ _ ?_
    refine wp_seq_k fun K55 hK55=>?_
    refine wp_seq_k fun K56 hK56=>?_
    refine fr_region ?_
    intro ops hops
    have hg4:(ops[4]?).bind (fun o:Oper=>o.dst)=some 54:=hops 4
    have hg9:(ops[9]?).bind (fun o:Oper=>o.dst)=some 59:=hops 9
    have hg16:(ops[16]?).bind (fun o:Oper=>o.dst)=some 66:=hops 16
    have hg24:(ops[24]?).bind (fun o:Oper=>o.dst)=some 74:=hops 24
    have hg32:(ops[32]?).bind (fun o:Oper=>o.dst)=some 82:=hops 32
    have hg40:(ops[40]?).bind (fun o:Oper=>o.dst)=some 90:=hops 40
    clear hops
    refine St.go h54 ?_;clear h54 a54
    refine sfBlock2 trivial rfl rfl ?_
    refine sbInss 0 hW53 trivial rfl rfl rfl rfl ?_
    refine slInss trivial rfl rfl ?_
    refine sgt trivial rfl rfl rfl ?_
    refine sm trivial rfl rfl ?_
    intro a57 h57
    rcases Bool.eq_false_or_eq_true (decide (200<(y.code.length:Int))) with hb | hb
    ·rw [hb] at h57
     have hc58:200<y.code.length:=by have:=of_decide_eq_true hb;omega
     clear hb
     refine St.go h57 ?_;clear h57 a57
     refine so hg4 rfl rfl rfl rfl ?_
     refine so hg4 rfl rfl rfl rfl ?_
     refine so hg4 rfl rfl rfl rfl ?_
     refine sp trivial rfl rfl rfl ?_
     refine sm trivial rfl rfl ?_
     refine so hg9 rfl rfl rfl rfl ?_
     refine so hg9 rfl rfl rfl rfl ?_
     refine so hg9 rfl rfl rfl rfl ?_
     refine so hg9 rfl rfl rfl rfl ?_
     refine so hg9 rfl rfl rfl rfl ?_
     refine sp trivial rfl rfl rfl ?_
     refine sm trivial rfl rfl ?_
     refine so hg16 rfl rfl rfl rfl ?_
     refine so hg16 rfl rfl rfl rfl ?_
     refine so hg16 rfl rfl rfl rfl ?_
     refine so hg16 rfl rfl rfl rfl ?_
     refine so hg16 rfl rfl rfl rfl ?_
     refine so hg16 rfl rfl rfl rfl ?_
     refine sp trivial rfl rfl rfl ?_
     refine sm trivial rfl rfl ?_
     refine so hg24 rfl rfl rfl rfl ?_
     refine so hg24 rfl rfl rfl rfl ?_
     refine so hg24 rfl rfl rfl rfl ?_
     refine so hg24 rfl rfl rfl rfl ?_
     refine so hg24 rfl rfl rfl rfl ?_
     refine so hg24 rfl rfl rfl rfl ?_
     refine sp trivial rfl rfl rfl ?_
     refine sm trivial rfl rfl ?_
     refine so hg32 rfl rfl rfl rfl ?_
     refine so hg32 rfl rfl rfl rfl ?_
     refine so hg32 rfl rfl rfl rfl ?_
     refine so hg32 rfl rfl rfl rfl ?_
     refine so hg32 rfl rfl rfl rfl ?_
     refine so hg32 rfl rfl rfl rfl ?_
     refine sp trivial rfl rfl rfl ?_
     refine sm trivial rfl rfl ?_
     refine so hg40 rfl rfl rfl rfl ?_
     refine so hg40 rfl rfl rfl rfl ?_
     refine so hg40 rfl rfl rfl rfl ?_
     refine so hg40 rfl rfl rfl rfl ?_
     refine so hg40 rfl rfl rfl rfl ?_
     refine so hg40 rfl rfl rfl rfl ?_
     refine sp trivial rfl rfl rfl ?_
     refine St.nil fun a59 h59=>?_
     refine hK56 _ _ ?_
     refine fr_true (t:=97) h59 rfl ?_
     refine wp_seq_k fun K60 hK60=>?_
     refine rg h59 fun ops=>?_;clear h59 a59
     refine sa trivial rfl rfl ?_
     refine St.nil fun a61 h61=>?_
     refine hK60 _ _ ?_
     refine wp_ret ?_;with_reducible repeat first | refine of_then_ret ?_ | refine of_block_ret ?_
     have GR:greatMod m:=.inr ⟨x,List.mem_of_getElem? hx1.out,.inr (.inr (.inr ⟨y,List.mem_of_getElem? hx2.out,.inl hc58⟩))⟩
     exact ret_tmp (t:=2) h61 rfl rfl ⟨by rw [bdec_true GR],hW53.bel⟩
    rw [hb] at h57
    have hc62:¬ (200<y.code.length):=by have:=of_decide_eq_false hb;omega
    clear hb
    refine St.go h57 ?_;clear h57 a57
    refine sfBlock1 ⟨_,hg4,rfl,rfl⟩ rfl rfl ?_
    refine sbTypes 0 hW53 ⟨_,hg4,rfl,rfl⟩ rfl rfl rfl rfl ?_
    refine sc_1 cf41 hW53 (greatTypes_any n y.params b2.pP b2.cP w53 ((types_lin In2.out.params).1.below hW53.bel)) ⟨_,hg4,rfl,rfl⟩ rfl rfl ?_
    clear hW53;intro w63 hW63
    refine spf trivial rfl rfl rfl ?_
    refine sm trivial rfl rfl ?_
    intro a64 h64
    rcases Bool.eq_false_or_eq_true (bdec (greatTs y.params)) with hb | hb
    ·rw [hb] at h64
     have hc65:(greatTs y.params):=bdec_iff.1 hb
     clear hb
     refine St.go h64 ?_;clear h64 a64
     refine so hg9 rfl rfl rfl rfl ?_
     refine so hg9 rfl rfl rfl rfl ?_
     refine so hg9 rfl rfl rfl rfl ?_
     refine so hg9 rfl rfl rfl rfl ?_
     refine so hg9 rfl rfl rfl rfl ?_
     refine sp trivial rfl rfl rfl ?_
     refine sm trivial rfl rfl ?_
     refine so hg16 rfl rfl rfl rfl ?_
     refine so hg16 rfl rfl rfl rfl ?_
     refine so hg16 rfl rfl rfl rfl ?_
     refine so hg16 rfl rfl rfl rfl ?_
     refine so hg16 rfl rfl rfl rfl ?_
     refine so hg16 rfl rfl rfl rfl ?_
     refine sp trivial rfl rfl rfl ?_
     refine sm trivial rfl rfl ?_
     refine so hg24 rfl rfl rfl rfl ?_
     refine so hg24 rfl rfl rfl rfl ?_
     refine so hg24 rfl rfl rfl rfl ?_
     refine so hg24 rfl rfl rfl rfl ?_
     refine so hg24 rfl rfl rfl rfl ?_
     refine so hg24 rfl rfl rfl rfl ?_
     refine sp trivial rfl rfl rfl ?_
     refine sm trivial rfl rfl ?_
     refine so hg32 rfl rfl rfl rfl ?_
     refine so hg32 rfl rfl rfl rfl ?_
     refine so hg32 rfl rfl rfl rfl ?_
     refine so hg32 rfl rfl rfl rfl ?_
     refine so hg32 rfl rfl rfl rfl ?_
     refine so hg32 rfl rfl rfl rfl ?_
     refine sp trivial rfl rfl rfl ?_
     refine sm trivial rfl rfl ?_
     refine so hg40 rfl rfl rfl rfl ?_
     refine so hg40 rfl rfl rfl rfl ?_
     refine so hg40 rfl rfl rfl rfl ?_
     refine so hg40 rfl rfl rfl rfl ?_
     refine so hg40 rfl rfl rfl rfl ?_
     refine so hg40 rfl rfl rfl rfl ?_
     refine sp trivial rfl rfl rfl ?_
     refine St.nil fun a66 h66=>?_
     refine hK56 _ _ ?_
     refine fr_true (t:=97) h66 rfl ?_
     refine wp_seq_k fun K67 hK67=>?_
     refine rg h66 fun ops=>?_;clear h66 a66
     refine sa trivial rfl rfl ?_
     refine St.nil fun a68 h68=>?_
     refine hK67 _ _ ?_
     refine wp_ret ?_;with_reducible repeat first | refine of_then_ret ?_ | refine of_block_ret ?_
     have GR:greatMod m:=.inr ⟨x,List.mem_of_getElem? hx1.out,.inr (.inr (.inr ⟨y,List.mem_of_getElem? hx2.out,.inr (.inl hc65)⟩))⟩
     exact ret_tmp (t:=2) h68 rfl rfl ⟨by rw [bdec_true GR],hW63.bel⟩
    rw [hb] at h64
    have hc69:¬ (greatTs y.params):=fun h=>by rw [bdec_true h] at hb;cases hb
    clear hb
    refine St.go h64 ?_;clear h64 a64
    refine sfBlock3 ⟨_,hg9,rfl,rfl⟩ rfl rfl ?_
    refine sfEnd4 ⟨_,hg9,rfl,rfl⟩ rfl rfl ?_
    refine sbInts 0 hW63 ⟨_,hg9,rfl,rfl⟩ rfl rfl rfl rfl ?_
    refine slInts ⟨_,hg9,rfl,rfl⟩ rfl rfl ?_
    refine sgt ⟨_,hg9,rfl,rfl⟩ rfl rfl rfl ?_
    refine spf trivial rfl rfl rfl ?_
    refine sm trivial rfl rfl ?_
    intro a70 h70
    rcases Bool.eq_false_or_eq_true (decide (300<(y.fin.args.length:Int))) with hb | hb
    ·rw [hb] at h70
     have hc71:300<y.fin.args.length:=by have:=of_decide_eq_true hb;omega
     clear hb
     refine St.go h70 ?_;clear h70 a70
     refine so hg16 rfl rfl rfl rfl ?_
     refine so hg16 rfl rfl rfl rfl ?_
     refine so hg16 rfl rfl rfl rfl ?_
     refine so hg16 rfl rfl rfl rfl ?_
     refine so hg16 rfl rfl rfl rfl ?_
     refine so hg16 rfl rfl rfl rfl ?_
     refine sp trivial rfl rfl rfl ?_
     refine sm trivial rfl rfl ?_
     refine so hg24 rfl rfl rfl rfl ?_
     refine so hg24 rfl rfl rfl rfl ?_
     refine so hg24 rfl rfl rfl rfl ?_
     refine so hg24 rfl rfl rfl rfl ?_
     refine so hg24 rfl rfl rfl rfl ?_
     refine so hg24 rfl rfl rfl rfl ?_
     refine sp trivial rfl rfl rfl ?_
     refine sm trivial rfl rfl ?_
     refine so hg32 rfl rfl rfl rfl ?_
     refine so hg32 rfl rfl rfl rfl ?_
     refine so hg32 rfl rfl rfl rfl ?_
     refine so hg32 rfl rfl rfl rfl ?_
     refine so hg32 rfl rfl rfl rfl ?_
     refine so hg32 rfl rfl rfl rfl ?_
     refine sp trivial rfl rfl rfl ?_
     refine sm trivial rfl rfl ?_
     refine so hg40 rfl rfl rfl rfl ?_
     refine so hg40 rfl rfl rfl rfl ?_
     refine so hg40 rfl rfl rfl rfl ?_
     refine so hg40 rfl rfl rfl rfl ?_
     refine so hg40 rfl rfl rfl rfl ?_
     refine so hg40 rfl rfl rfl rfl ?_
     refine sp trivial rfl rfl rfl ?_
     refine St.nil fun a72 h72=>?_
     refine hK56 _ _ ?_
     refine fr_true (t:=97) h72 rfl ?_
     refine wp_seq_k fun K73 hK73=>?_
     refine rg h72 fun ops=>?_;clear h72 a72
     refine sa trivial rfl rfl ?_
     refine St.nil fun a74 h74=>?_
     refine hK73 _ _ ?_
     refine wp_ret ?_;with_reducible repeat first | refine of_then_ret ?_ | refine of_block_ret ?_
     have GR:greatMod m:=.inr ⟨x,List.mem_of_getElem? hx1.out,.inr (.inr (.inr ⟨y,List.mem_of_getElem? hx2.out,.inr (.inr (.inl hc71))⟩))⟩
     exact ret_tmp (t:=2) h74 rfl rfl ⟨by rw [bdec_true GR],hW63.bel⟩
    rw [hb] at h70
    have hc75:¬ (300<y.fin.args.length):=by have:=of_decide_eq_false hb;omega
    clear hb
    refine St.go h70 ?_;clear h70 a70
    refine sfBlock3 ⟨_,hg16,rfl,rfl⟩ rfl rfl ?_
    refine sfEnd2 ⟨_,hg16,rfl,rfl⟩ rfl rfl ?_
    refine sfTo1 ⟨_,hg16,rfl,rfl⟩ rfl rfl ?_
    refine sbInts 0 hW63 ⟨_,hg16,rfl,rfl⟩ rfl rfl rfl rfl ?_
    refine slInts ⟨_,hg16,rfl,rfl⟩ rfl rfl ?_
    refine sgt ⟨_,hg16,rfl,rfl⟩ rfl rfl rfl ?_
    refine spf trivial rfl rfl rfl ?_
    refine sm trivial rfl rfl ?_
    intro a76 h76
    rcases Bool.eq_false_or_eq_true (decide (300<(y.fin.yes.regs.length:Int))) with hb | hb
    ·rw [hb] at h76
     have hc77:300<y.fin.yes.regs.length:=by have:=of_decide_eq_true hb;omega
     clear hb
     refine St.go h76 ?_;clear h76 a76
     refine so hg24 rfl rfl rfl rfl ?_
     refine so hg24 rfl rfl rfl rfl ?_
     refine so hg24 rfl rfl rfl rfl ?_
     refine so hg24 rfl rfl rfl rfl ?_
     refine so hg24 rfl rfl rfl rfl ?_
     refine so hg24 rfl rfl rfl rfl ?_
     refine sp trivial rfl rfl rfl ?_
     refine sm trivial rfl rfl ?_
     refine so hg32 rfl rfl rfl rfl ?_
     refine so hg32 rfl rfl rfl rfl ?_
     refine so hg32 rfl rfl rfl rfl ?_
     refine so hg32 rfl rfl rfl rfl ?_
     refine so hg32 rfl rfl rfl rfl ?_
     refine so hg32 rfl rfl rfl rfl ?_
     refine sp trivial rfl rfl rfl ?_
     refine sm trivial rfl rfl ?_
     refine so hg40 rfl rfl rfl rfl ?_
     refine so hg40 rfl rfl rfl rfl ?_
     refine so hg40 rfl rfl rfl rfl ?_
     refine so hg40 rfl rfl rfl rfl ?_
     refine so hg40 rfl rfl rfl rfl ?_
     refine so hg40 rfl rfl rfl rfl ?_
     refine sp trivial rfl rfl rfl ?_
     refine St.nil fun a78 h78=>?_
     refine hK56 _ _ ?_
     refine fr_true (t:=97) h78 rfl ?_
     refine wp_seq_k fun K79 hK79=>?_
     refine rg h78 fun ops=>?_;clear h78 a78
     refine sa trivial rfl rfl ?_
     refine St.nil fun a80 h80=>?_
     refine hK79 _ _ ?_
     refine wp_ret ?_;with_reducible repeat first | refine of_then_ret ?_ | refine of_block_ret ?_
     have GR:greatMod m:=.inr ⟨x,List.mem_of_getElem? hx1.out,.inr (.inr (.inr ⟨y,List.mem_of_getElem? hx2.out,.inr (.inr (.inr (.inl hc77)))⟩))⟩
     exact ret_tmp (t:=2) h80 rfl rfl ⟨by rw [bdec_true GR],hW63.bel⟩
    rw [hb] at h76
    have hc81:¬ (300<y.fin.yes.regs.length):=by have:=of_decide_eq_false hb;omega
    clear hb
    refine St.go h76 ?_;clear h76 a76
    refine sfBlock3 ⟨_,hg24,rfl,rfl⟩ rfl rfl ?_
    refine sfEnd2 ⟨_,hg24,rfl,rfl⟩ rfl rfl ?_
    refine sfTo2 ⟨_,hg24,rfl,rfl⟩ rfl rfl ?_
    refine sbInts 0 hW63 ⟨_,hg24,rfl,rfl⟩ rfl rfl rfl rfl ?_
    refine slInts ⟨_,hg24,rfl,rfl⟩ rfl rfl ?_
    refine sgt ⟨_,hg24,rfl,rfl⟩ rfl rfl rfl ?_
    refine spf trivial rfl rfl rfl ?_
    refine sm trivial rfl rfl ?_
    intro a82 h82
    rcases Bool.eq_false_or_eq_true (decide (300<(y.fin.yes.args.length:Int))) with hb | hb
    ·rw [hb] at h82
     have hc83:300<y.fin.yes.args.length:=by have:=of_decide_eq_true hb;omega
     clear hb
     refine St.go h82 ?_;clear h82 a82
     refine so hg32 rfl rfl rfl rfl ?_
     refine so hg32 rfl rfl rfl rfl ?_
     refine so hg32 rfl rfl rfl rfl ?_
     refine so hg32 rfl rfl rfl rfl ?_
     refine so hg32 rfl rfl rfl rfl ?_
     refine so hg32 rfl rfl rfl rfl ?_
     refine sp trivial rfl rfl rfl ?_
     refine sm trivial rfl rfl ?_
     refine so hg40 rfl rfl rfl rfl ?_
     refine so hg40 rfl rfl rfl rfl ?_
     refine so hg40 rfl rfl rfl rfl ?_
     refine so hg40 rfl rfl rfl rfl ?_
     refine so hg40 rfl rfl rfl rfl ?_
     refine so hg40 rfl rfl rfl rfl ?_
     refine sp trivial rfl rfl rfl ?_
     refine St.nil fun a84 h84=>?_
     refine hK56 _ _ ?_
     refine fr_true (t:=97) h84 rfl ?_
     refine wp_seq_k fun K85 hK85=>?_
     refine rg h84 fun ops=>?_;clear h84 a84
     refine sa trivial rfl rfl ?_
     refine St.nil fun a86 h86=>?_
     refine hK85 _ _ ?_
     refine wp_ret ?_;with_reducible repeat first | refine of_then_ret ?_ | refine of_block_ret ?_
     have GR:greatMod m:=.inr ⟨x,List.mem_of_getElem? hx1.out,.inr (.inr (.inr ⟨y,List.mem_of_getElem? hx2.out,.inr (.inr (.inr (.inr (.inl hc83))))⟩))⟩
     exact ret_tmp (t:=2) h86 rfl rfl ⟨by rw [bdec_true GR],hW63.bel⟩
    rw [hb] at h82
    have hc87:¬ (300<y.fin.yes.args.length):=by have:=of_decide_eq_false hb;omega
    clear hb
    refine St.go h82 ?_;clear h82 a82
    refine sfBlock3 ⟨_,hg32,rfl,rfl⟩ rfl rfl ?_
    refine sfEnd3 ⟨_,hg32,rfl,rfl⟩ rfl rfl ?_
    refine sfTo1 ⟨_,hg32,rfl,rfl⟩ rfl rfl ?_
    refine sbInts 0 hW63 ⟨_,hg32,rfl,rfl⟩ rfl rfl rfl rfl ?_
    refine slInts ⟨_,hg32,rfl,rfl⟩ rfl rfl ?_
    refine sgt ⟨_,hg32,rfl,rfl⟩ rfl rfl rfl ?_
    refine spf trivial rfl rfl rfl ?_
    refine sm trivial rfl rfl ?_
    intro a88 h88
    rcases Bool.eq_false_or_eq_true (decide (300<(y.fin.no.regs.length:Int))) with hb | hb
    ·rw [hb] at h88
     have hc89:300<y.fin.no.regs.length:=by have:=of_decide_eq_true hb;omega
     clear hb
     refine St.go h88 ?_;clear h88 a88
     refine so hg40 rfl rfl rfl rfl ?_
     refine so hg40 rfl rfl rfl rfl ?_
     refine so hg40 rfl rfl rfl rfl ?_
     refine so hg40 rfl rfl rfl rfl ?_
     refine so hg40 rfl rfl rfl rfl ?_
     refine so hg40 rfl rfl rfl rfl ?_
     refine sp trivial rfl rfl rfl ?_
     refine St.nil fun a90 h90=>?_
     refine hK56 _ _ ?_
     refine fr_true (t:=97) h90 rfl ?_
     refine wp_seq_k fun K91 hK91=>?_
     refine rg h90 fun ops=>?_;clear h90 a90
     refine sa trivial rfl rfl ?_
     refine St.nil fun a92 h92=>?_
     refine hK91 _ _ ?_
     refine wp_ret ?_;with_reducible repeat first | refine of_then_ret ?_ | refine of_block_ret ?_
     have GR:greatMod m:=.inr ⟨x,List.mem_of_getElem? hx1.out,.inr (.inr (.inr ⟨y,List.mem_of_getElem? hx2.out,.inr (.inr (.inr (.inr (.inr (.inl hc89)))))⟩))⟩
     exact ret_tmp (t:=2) h92 rfl rfl ⟨by rw [bdec_true GR],hW63.bel⟩
    rw [hb] at h88
    have hc93:¬ (300<y.fin.no.regs.length):=by have:=of_decide_eq_false hb;omega
    clear hb
    refine St.go h88 ?_;clear h88 a88
    refine sfBlock3 ⟨_,hg40,rfl,rfl⟩ rfl rfl ?_
    refine sfEnd3 ⟨_,hg40,rfl,rfl⟩ rfl rfl ?_
    refine sfTo2 ⟨_,hg40,rfl,rfl⟩ rfl rfl ?_
    refine sbInts 0 hW63 ⟨_,hg40,rfl,rfl⟩ rfl rfl rfl rfl ?_
    refine slInts ⟨_,hg40,rfl,rfl⟩ rfl rfl ?_
    refine sgt ⟨_,hg40,rfl,rfl⟩ rfl rfl rfl ?_
    refine spf trivial rfl rfl rfl ?_
    refine St.nil fun a94 h94=>?_
    refine hK56 _ _ ?_
    refine fr_cond (t:=97) h94 rfl (fun hb=>?_) (fun hb=>?_)
    ·have hc95:300<y.fin.no.args.length:=by have:=of_decide_eq_true hb;omega
     clear hb
     refine wp_seq_k fun K96 hK96=>?_
     refine rg h94 fun ops=>?_;clear h94 a94
     refine sa trivial rfl rfl ?_
     refine St.nil fun a97 h97=>?_
     refine hK96 _ _ ?_
     refine wp_ret ?_;with_reducible repeat first | refine of_then_ret ?_ | refine of_block_ret ?_
     have GR:greatMod m:=.inr ⟨x,List.mem_of_getElem? hx1.out,.inr (.inr (.inr ⟨y,List.mem_of_getElem? hx2.out,.inr (.inr (.inr (.inr (.inr (.inr (.inl hc95))))))⟩))⟩
     exact ret_tmp (t:=2) h97 rfl rfl ⟨by rw [bdec_true GR],hW63.bel⟩
    have hc98:¬ (300<y.fin.no.args.length):=by have:=of_decide_eq_false hb;omega
    clear hb
    refine wp_skip ?_
    refine hK55 _ _ ?_
    refine wp_seq_k fun K99 hK99=>?_
    refine rg h94 fun ops=>?_;clear h94 a94
    refine sa trivial rfl rfl ?_
    refine St.nil fun a100 h100=>?_
    refine hK99 _ _ ?_
    refine wp_block ?_
    refine fr_loop (fun r a w'=>∃ q3:Nat,q3≤y.code.length∧r=y.code.length - q3∧(∀ (j:Nat) z,j<q3→y.code[j]?=some z→¬ (300<z.regs.length)∧¬ (300<z.args.length))∧Fr 123 a [(0,.agg #[.slice p m.length c]),(1,.pointer (some ⟨B2,0,none⟩)),(2,.bool false),(3,.int .i64 (q1:Int)),(4,.pointer (some ⟨B20,0,none⟩)),(5,.int .i64 (q2:Int)),(6,.pointer (some ⟨B52,0,none⟩)),(7,.int .i64 (q3:Int))]∧Wd w w' [(B52,#[.int .i64 y.regs,.slice b2.pP y.params.length b2.cP,.slice b2.pC y.code.length b2.cC,.int .i64 y.fin.op,.int .i64 y.fin.a,.int .i64 y.fin.yes.block,.slice b2.e.pYR y.fin.yes.regs.length b2.e.cYR,.slice b2.e.pYA y.fin.yes.args.length b2.e.cYA,.int .i64 y.fin.no.block,.slice b2.e.pNR y.fin.no.regs.length b2.e.cNR,.slice b2.e.pNA y.fin.no.args.length b2.e.cNA,.slice b2.e.pA y.fin.args.length b2.e.cA],52),(B20,#[.int .i64 x.regs,.slice f1.pP x.params.length f1.cP,.slice f1.pR x.results.length f1.cR,.slice f1.pB x.blocks.length f1.cB],42),(B2,#[.slice p m.length c],25)]) (y.code.length) ⟨0,Nat.zero_le _,rfl,(fun j x hj=>by omega),(h100.keep (h100.keep (h100.keep (h100.keep (h100.keep (h100.keep (h100.keep (h100.keep h100.nil (t:=7) rfl) (t:=6) rfl) (t:=5) rfl) (t:=4) rfl) (t:=3) rfl) (t:=2) rfl) (t:=1) rfl) (t:=0) rfl),hW63⟩ ?_
    clear h100 hW63
    rintro r3 a101 w101 ⟨q3,hq3,hr3,hall3,hF101,hW101⟩ KL3 hKL3
    refine wp_seq_k fun K102 hK102=>?_
    refine wp_seq_k fun K103 hK103=>?_
    refine rg hF101 fun ops=>?_;clear hF101 a101
    refine sm trivial rfl rfl ?_
    refine sfBlock2 trivial rfl rfl ?_
    refine sbInss 0 hW101 trivial rfl rfl rfl rfl ?_
    refine slInss trivial rfl rfl ?_
    refine slt trivial rfl rfl rfl ?_
    refine St.nil fun a104 h104=>?_
    refine hK103 _ _ ?_
    refine fr_cond (t:=102) h104 rfl (fun hb=>?_) (fun hb=>?_)
    ·have hlt3:q3<y.code.length:=by have:=of_decide_eq_true hb;omega
     clear hb
     obtain ⟨z,hx3⟩:∃ v9,(y.code)[q3]?=some v9:=⟨_,List.getElem?_eq_getElem hlt3⟩
     obtain ⟨g3,o3,i3,hp3,E3,In3⟩:=ins_at In2.out.code hx3
     replace In3:Hid _:=In3
     replace hp3:Hid _:=hp3
     replace hx3:Hid _:=hx3
     replace E3:Hid _:=E3
     refine wp_skip ?_
     refine hK102 _ _ ?_
     refine wp_seq_k fun K105 hK105=>?_
     refine wp_block ?_
     refine wp_seq_k fun K106 hK106=>?_
     refine fr_region ?_
     intro ops hops
     have hg8:(ops[8]?).bind (fun o:Oper=>o.dst)=some 113:=hops 8
     clear hops
     refine St.go h104 ?_;clear h104 a104
     refine sfBlock2 trivial rfl rfl ?_
     refine sbInss 0 hW101 trivial rfl rfl rfl rfl ?_
     refine sm trivial rfl rfl ?_
     refine siInss hp3.out hlt3 trivial rfl rfl rfl ?_
     refine sfIns6 trivial rfl rfl ?_
     refine scInts (bel_cell hW101.bel (E3.out 6 _ rfl)) trivial rfl rfl ?_
     refine slInts trivial rfl rfl ?_
     refine sgt trivial rfl rfl rfl ?_
     refine sm trivial rfl rfl ?_
     intro a107 h107
     rcases Bool.eq_false_or_eq_true (decide (300<(z.regs.length:Int))) with hb | hb
     ·rw [hb] at h107
      have hc108:300<z.regs.length:=by have:=of_decide_eq_true hb;omega
      clear hb
      refine St.go h107 ?_;clear h107 a107
      refine so hg8 rfl rfl rfl rfl ?_
      refine so hg8 rfl rfl rfl rfl ?_
      refine so hg8 rfl rfl rfl rfl ?_
      refine so hg8 rfl rfl rfl rfl ?_
      refine so hg8 rfl rfl rfl rfl ?_
      refine so hg8 rfl rfl rfl rfl ?_
      refine so hg8 rfl rfl rfl rfl ?_
      refine so hg8 rfl rfl rfl rfl ?_
      refine sp trivial rfl rfl rfl ?_
      refine St.nil fun a109 h109=>?_
      refine hK106 _ _ ?_
      refine fr_true (t:=122) h109 rfl ?_
      refine wp_seq_k fun K110 hK110=>?_
      refine rg h109 fun ops=>?_;clear h109 a109
      refine sa trivial rfl rfl ?_
      refine St.nil fun a111 h111=>?_
      refine hK110 _ _ ?_
      refine wp_ret ?_;with_reducible repeat first | refine of_then_ret ?_ | refine of_block_ret ?_
      have GR:greatMod m:=.inr ⟨x,List.mem_of_getElem? hx1.out,.inr (.inr (.inr ⟨y,List.mem_of_getElem? hx2.out,.inr (.inr (.inr (.inr (.inr (.inr (.inr ⟨z,List.mem_of_getElem? hx3.out,.inl hc108⟩))))))⟩))⟩
      exact ret_tmp (t:=2) h111 rfl rfl ⟨by rw [bdec_true GR],hW101.bel⟩
     rw [hb] at h107
     have hc112:¬ (300<z.regs.length):=by have:=of_decide_eq_false hb;omega
     clear hb
     refine St.go h107 ?_;clear h107 a107
     refine sfBlock2 ⟨_,hg8,rfl,rfl⟩ rfl rfl ?_
     refine sbInss 0 hW101 ⟨_,hg8,rfl,rfl⟩ rfl rfl rfl rfl ?_
     refine sm ⟨_,hg8,rfl,rfl⟩ rfl rfl ?_
     refine siInss hp3.out hlt3 ⟨_,hg8,rfl,rfl⟩ rfl rfl rfl ?_
     refine sfIns7 ⟨_,hg8,rfl,rfl⟩ rfl rfl ?_
     refine scInts (bel_cell hW101.bel (E3.out 7 _ rfl)) ⟨_,hg8,rfl,rfl⟩ rfl rfl ?_
     refine slInts ⟨_,hg8,rfl,rfl⟩ rfl rfl ?_
     refine sgt ⟨_,hg8,rfl,rfl⟩ rfl rfl rfl ?_
     refine spf trivial rfl rfl rfl ?_
     refine St.nil fun a113 h113=>?_
     refine hK106 _ _ ?_
     refine fr_cond (t:=122) h113 rfl (fun hb=>?_) (fun hb=>?_)
     ·have hc114:300<z.args.length:=by have:=of_decide_eq_true hb;omega
      clear hb
      refine wp_seq_k fun K115 hK115=>?_
      refine rg h113 fun ops=>?_;clear h113 a113
      refine sa trivial rfl rfl ?_
      refine St.nil fun a116 h116=>?_
      refine hK115 _ _ ?_
      refine wp_ret ?_;with_reducible repeat first | refine of_then_ret ?_ | refine of_block_ret ?_
      have GR:greatMod m:=.inr ⟨x,List.mem_of_getElem? hx1.out,.inr (.inr (.inr ⟨y,List.mem_of_getElem? hx2.out,.inr (.inr (.inr (.inr (.inr (.inr (.inr ⟨z,List.mem_of_getElem? hx3.out,.inr hc114⟩))))))⟩))⟩
      exact ret_tmp (t:=2) h116 rfl rfl ⟨by rw [bdec_true GR],hW101.bel⟩
     have hc117:¬ (300<z.args.length):=by have:=of_decide_eq_false hb;omega
     clear hb
     refine wp_skip ?_
     refine hK105 _ _ ?_
     refine rg h113 fun ops=>?_;clear h113 a113
     refine sm trivial rfl rfl ?_
     refine sad (by omega) trivial rfl rfl rfl ?_
     refine sa trivial rfl rfl ?_
     refine St.nil fun a118 h118=>?_
     refine hKL3 _ _ (y.code.length - (q3+1)) (by omega) ⟨q3+1,by omega,rfl,?_,(h118.keep (h118.keep (h118.keep (h118.keep (h118.keep (h118.keep (h118.keep (h118.keep h118.nil (t:=7) rfl) (t:=6) rfl) (t:=5) rfl) (t:=4) rfl) (t:=3) rfl) (t:=2) rfl) (t:=1) rfl) (t:=0) rfl),hW101⟩
     ·intro j y hj hy
      by_cases e:j=q3
      · subst e;rw [hx3.out] at hy;cases hy;exact ⟨hc112,hc117⟩
      · exact hall3 j y (by omega) hy
    have hge3:q3=y.code.length:=by have:=of_decide_eq_false hb;omega
    clear hb
    have NG2:¬ y.great:=by
      rintro (h | h | h | h | h | h | h | ⟨z,hz,h⟩)
      · exact absurd h hc62
      · exact absurd h hc69
      · exact absurd h hc75
      · exact absurd h hc81
      · exact absurd h hc87
      · exact absurd h hc93
      · exact absurd h hc98
      · obtain ⟨i,hi,rfl⟩:=List.mem_iff_getElem.1 hz
        have:=hall3 i _ (by omega) (List.getElem?_eq_getElem hi)
        omega
    refine wp_exit ?_
    refine hK50 _ _ ?_
    refine rg h104 fun ops=>?_;clear h104 a104
    refine sm trivial rfl rfl ?_
    refine sad (by omega) trivial rfl rfl rfl ?_
    refine sa trivial rfl rfl ?_
    refine St.nil fun a119 h119=>?_
    refine hKL2 _ _ (x.blocks.length - (q2+1)) (by omega) ⟨q2+1,by omega,rfl,?_,(h119.keep (h119.keep (h119.keep (h119.keep (h119.keep (h119.keep h119.nil (t:=5) rfl) (t:=4) rfl) (t:=3) rfl) (t:=2) rfl) (t:=1) rfl) (t:=0) rfl),hW101.tail⟩
    ·intro j y hj hy
     by_cases e:j=q2
     · subst e;rw [hx2.out] at hy;cases hy;exact NG2
     · exact hall2 j y (by omega) hy
   have hge2:q2=x.blocks.length:=by have:=of_decide_eq_false hb;omega
   clear hb
   have NG1:¬ x.great:=by
     rintro (h | h | h | ⟨y,hy,h⟩)
     · exact absurd h hc30
     · exact absurd h hc37
     · exact absurd h hc43
     · obtain ⟨i,hi,rfl⟩:=List.mem_iff_getElem.1 hy
       exact hall2 i _ (by omega) (List.getElem?_eq_getElem hi) h
   refine wp_exit ?_
   refine hK18 _ _ ?_
   refine rg h49 fun ops=>?_;clear h49 a49
   refine sm trivial rfl rfl ?_
   refine sad (by omega) trivial rfl rfl rfl ?_
   refine sa trivial rfl rfl ?_
   refine St.nil fun a120 h120=>?_
   refine hKL1 _ _ (m.length - (q1+1)) (by omega) ⟨q1+1,by omega,rfl,?_,(h120.keep (h120.keep (h120.keep (h120.keep h120.nil (t:=3) rfl) (t:=2) rfl) (t:=1) rfl) (t:=0) rfl),hW46.tail⟩
   ·intro j y hj hy
    by_cases e:j=q1
    · subst e;rw [hx1.out] at hy;cases hy;exact NG1
    · exact hall1 j y (by omega) hy
  have hge1:q1=m.length:=by have:=of_decide_eq_false hb;omega
  clear hb
  refine wp_exit ?_
  refine hK11 _ _ ?_
  refine wp_seq_k fun K121 hK121=>?_
  refine rg h17 fun ops=>?_;clear h17 a17
  refine sa trivial rfl rfl ?_
  refine St.nil fun a122 h122=>?_
  refine hK121 _ _ ?_
  refine wp_ret ?_;with_reducible repeat first | refine of_then_ret ?_ | refine of_block_ret ?_
  have GR:¬ greatMod m:=by
    rintro (h | ⟨x,hx,h⟩)
    · omega
    · obtain ⟨i,hi,rfl⟩:=List.mem_iff_getElem.1 hx
      exact hall1 i _ (by omega) (List.getElem?_eq_getElem hi) h
  exact ret_tmp (t:=2) h122 rfl rfl ⟨by rw [bdec_false GR],hW14.bel⟩
end Go.Proofs.YtalfbnllodhkiacGreatDoor
namespace Go.Proofs.YtalfbnllodhkiacGreatDoor
open Go.ChangeShapes Go.WideShapes Go.ChangeAt Go.RowKit Go.Shelf
set_option linter.unusedSimpArgs false
set_option linter.unusedVariables false
def T0txt : List UInt8 := [102, 117, 110, 99, 32, 48, 32, 40, 41, 32, 45, 62, 32, 40, 41, 32, 123, 10, 98, 108, 111, 99, 107, 32, 48, 32, 40, 41, 32, 123, 10, 9, 114, 101, 116, 32, 40, 41, 59, 10, 125, 10, 125, 10]
theorem itoa0 : Lib.itoa 0 = [48] := by
  unfold Lib.itoa
  rw [if_neg (by decide),Lib.decDigits,dif_pos (by decide)]
  rfl
theorem L0_txt : modTxt L0 = T0txt := by
  simp only [modTxt,L0,List.flatMap_cons,List.flatMap_nil,List.append_nil,MFunc.txt,MFunc.head,blocksT,MBlock.txt,MBlock.head,nT,itoa0,MEnd.txt,E00]
  rfl
theorem L0_print : printL L0 = (T0txt, 0, 0) := by
  unfold printL
  rw [if_neg (by rw [L0_fault];decide),L0_txt]
  rfl
theorem L0_tiny : ∀ x ∈ L0, x.tiny := by
  intro x hx
  simp only [L0,List.mem_singleton] at hx
  subst hx
  refine ⟨(fun t ht=>by cases ht),(fun t ht=>by cases ht),fun y hy=>?_⟩
  simp only [List.mem_singleton] at hy
  subst hy
  exact fun t ht=>by cases ht
theorem rBegun_any (w : World) (hp : Pows w) : Calls Tryz.prog 17 #[] w fun e w' => e = .returned (.bool true) ∧ Below w.heap.size w w' := by
  have HP:Hid (Pows w):=hp
  clear hp
  go_enter Tryz.func17,Tryz.ntmps17
  go_wp2_with fail
  refine (least_any w).mono ?_
  rintro e w1 ⟨G1,G2,rfl,h1,h2,-,-,-,b1⟩
  have C:Hid (Calls Tryz.prog 20 #[.agg #[.slice (some ⟨G2,0,none⟩) 1 1]] w1 (Prints w1 (T0txt,0,0))):=by
    have:=print_any L0 _ 1 w1 (least_in h1 h2) (HP.out.below b1) L0_small L0_tiny
    rw [L0_print] at this
    exact this
  have B1:Hid (Below w.heap.size w w1):=b1
  clear h1 h2 b1
  go_wp2_with fail
  refine C.out.mono ?_
  rintro e w2 ⟨rfl,b2⟩
  have B2:Hid (Below w.heap.size w (w2.alloc (.cells #[.int .i64 0,.int .i64 0] 27))):=(B1.out.trans (b2.mono B1.out.size)).alloc (Nat.le_trans B1.out.size b2.size) _
  clear b2 C B1
  unfold PrintV T0txt
  simp only [str]
  go_wp2
  go_ret
  exact ⟨rfl,B2.out⟩
end Go.Proofs.YtalfbnllodhkiacGreatDoor
namespace Go.Proofs.YtalfbnllodhkiacGreatDoor
open Go.ChangeShapes Go.WideShapes Go.ChangeAt Go.RowKit
set_option linter.unusedSimpArgs false
set_option linter.unusedVariables false
theorem sameBlock_any {n : Nat} {x y : MBlock n} {b d : BP} {w : World} (hx0 : BIn w All x b) (hy0 : BIn w All y d) (hs0 : x.small) :
    Rd Tryz.prog 34 #[.agg #[.int .i64 x.regs,.slice b.pP x.params.length b.cP,.slice b.pC x.code.length b.cC,.int .i64 x.fin.op,.int .i64 x.fin.a,.int .i64 x.fin.yes.block,.slice b.e.pYR x.fin.yes.regs.length b.e.cYR,.slice b.e.pYA x.fin.yes.args.length b.e.cYA,.int .i64 x.fin.no.block,.slice b.e.pNR x.fin.no.regs.length b.e.cNR,.slice b.e.pNA x.fin.no.args.length b.e.cNA,.slice b.e.pA x.fin.args.length b.e.cA],.agg #[.int .i64 y.regs,.slice d.pP y.params.length d.cP,.slice d.pC y.code.length d.cC,.int .i64 y.fin.op,.int .i64 y.fin.a,.int .i64 y.fin.yes.block,.slice d.e.pYR y.fin.yes.regs.length d.e.cYR,.slice d.e.pYA y.fin.yes.args.length d.e.cYA,.int .i64 y.fin.no.block,.slice d.e.pNR y.fin.no.regs.length d.e.cNR,.slice d.e.pNA y.fin.no.args.length d.e.cNA,.slice d.e.pA y.fin.args.length d.e.cA]] w (.bool (bdec (x=y))):=by
  have hcl:=hs0.1
  have hx:Hid _:=hx0
  have hy:Hid _:=hy0
  have hs:Hid _:=hs0
  clear hx0 hy0 hs0
  refine fr_enter (n:=90) Tryz.func34 rfl rfl rfl ?_
  intro a hF
  have hW:=Wd.start w
  replace hF:Fr 90 a [(0,.agg #[.int .i64 x.regs,.slice b.pP x.params.length b.cP,.slice b.pC x.code.length b.cC,.int .i64 x.fin.op,.int .i64 x.fin.a,.int .i64 x.fin.yes.block,.slice b.e.pYR x.fin.yes.regs.length b.e.cYR,.slice b.e.pYA x.fin.yes.args.length b.e.cYA,.int .i64 x.fin.no.block,.slice b.e.pNR x.fin.no.regs.length b.e.cNR,.slice b.e.pNA x.fin.no.args.length b.e.cNA,.slice b.e.pA x.fin.args.length b.e.cA]),(1,.agg #[.int .i64 y.regs,.slice d.pP y.params.length d.cP,.slice d.pC y.code.length d.cC,.int .i64 y.fin.op,.int .i64 y.fin.a,.int .i64 y.fin.yes.block,.slice d.e.pYR y.fin.yes.regs.length d.e.cYR,.slice d.e.pYA y.fin.yes.args.length d.e.cYA,.int .i64 y.fin.no.block,.slice d.e.pNR y.fin.no.regs.length d.e.cNR,.slice d.e.pNA y.fin.no.args.length d.e.cNA,.slice d.e.pA y.fin.args.length d.e.cA])]:=hF
  refine wp_seq_k fun K1 hK1=>?_
  refine rg hF fun ops=>?_;clear hF a
  refine sB hW trivial rfl rfl ?_
  clear hW;intro w2 B2 hW2 hN;clear hN
  refine sB hW2 trivial rfl rfl ?_
  clear hW2;intro w3 B3 hW3 hN;clear hN
  refine sa trivial rfl rfl ?_
  refine St.nil fun a4 h4=>?_
  refine hK1 _ _ ?_
  refine wp_seq_k fun K5 hK5=>?_
  refine wp_seq_k fun K6 hK6=>?_
  refine fr_region ?_
  intro ops hops
  have hg5:(ops[5]?).bind (fun o:Oper=>o.dst)=some 11:=hops 5
  have hg13:(ops[13]?).bind (fun o:Oper=>o.dst)=some 19:=hops 13
  clear hops
  refine St.go h4 ?_;clear h4 a4
  refine sfBlock0 trivial rfl rfl ?_
  refine sbInt 1 hW3 trivial rfl rfl rfl rfl ?_
  refine sfBlock0 trivial rfl rfl ?_
  refine sbInt 0 hW3 trivial rfl rfl rfl rfl ?_
  refine sne trivial rfl rfl rfl ?_
  refine sm trivial rfl rfl ?_
  intro a7 h7
  rcases Bool.eq_false_or_eq_true (x.regs != y.regs) with hb | hb
  ·rw [hb] at h7
   have h9:¬ x.regs=y.regs:=bne_iff_ne.1 hb
   have hc8:¬ x.regs=y.regs:=h9
   clear h9
   clear hb
   refine St.go h7 ?_;clear h7 a7
   refine so hg5 rfl rfl rfl rfl ?_
   refine so hg5 rfl rfl rfl rfl ?_
   refine so hg5 rfl rfl rfl rfl ?_
   refine so hg5 rfl rfl rfl rfl ?_
   refine so hg5 rfl rfl rfl rfl ?_
   refine so hg5 rfl rfl rfl rfl ?_
   refine sp trivial rfl rfl rfl ?_
   refine sm trivial rfl rfl ?_
   refine so hg13 rfl rfl rfl rfl ?_
   refine so hg13 rfl rfl rfl rfl ?_
   refine so hg13 rfl rfl rfl rfl ?_
   refine so hg13 rfl rfl rfl rfl ?_
   refine so hg13 rfl rfl rfl rfl ?_
   refine so hg13 rfl rfl rfl rfl ?_
   refine so hg13 rfl rfl rfl rfl ?_
   refine sp trivial rfl rfl rfl ?_
   refine St.nil fun a9 h9=>?_
   refine hK6 _ _ ?_
   refine fr_true (t:=27) h9 rfl ?_
   refine wp_seq_k fun K10 hK10=>?_
   refine rg h9 fun ops=>?_;clear h9 a9
   refine sa trivial rfl rfl ?_
   refine St.nil fun a11 h11=>?_
   refine hK10 _ _ ?_
   refine wp_ret ?_;with_reducible repeat first | refine of_then_ret ?_ | refine of_block_ret ?_
   have R:¬ x=y:=fun e=>hc8 (by rw [e])
   exact ret_tmp (t:=4) h11 rfl rfl ⟨by rw [bdec_false R],hW3.bel⟩
  rw [hb] at h7
  have h9:x.regs=y.regs:=bne_eq_false_iff_eq.1 hb
  have hc12:Hid (x.regs=y.regs):=h9
  clear h9
  clear hb
  refine St.go h7 ?_;clear h7 a7
  refine sfBlock1 ⟨_,hg5,rfl,rfl⟩ rfl rfl ?_
  refine sbTypes 1 hW3 ⟨_,hg5,rfl,rfl⟩ rfl rfl rfl rfl ?_
  refine sfBlock1 ⟨_,hg5,rfl,rfl⟩ rfl rfl ?_
  refine sbTypes 0 hW3 ⟨_,hg5,rfl,rfl⟩ rfl rfl rfl rfl ?_
  refine sc_2 cf33 hW3 (sameTypes_any (Lay.below hx.out.params hW3.bel) (Lay.below hy.out.params hW3.bel) hs.out.2.1) ⟨_,hg5,rfl,rfl⟩ rfl rfl rfl ?_
  clear hW3;intro w13 hW13
  refine sn ⟨_,hg5,rfl,rfl⟩ rfl rfl ?_
  refine spf trivial rfl rfl rfl ?_
  refine sm trivial rfl rfl ?_
  intro a14 h14
  rcases Bool.eq_false_or_eq_true (!(bdec (x.params=y.params))) with hb | hb
  ·rw [hb] at h14
   have hb:(bdec (x.params=y.params))=false:=by simpa using hb
   have hc15:¬ (x.params=y.params):=fun h=>by rw [bdec_true h] at hb;cases hb
   clear hb
   refine St.go h14 ?_;clear h14 a14
   refine so hg13 rfl rfl rfl rfl ?_
   refine so hg13 rfl rfl rfl rfl ?_
   refine so hg13 rfl rfl rfl rfl ?_
   refine so hg13 rfl rfl rfl rfl ?_
   refine so hg13 rfl rfl rfl rfl ?_
   refine so hg13 rfl rfl rfl rfl ?_
   refine so hg13 rfl rfl rfl rfl ?_
   refine sp trivial rfl rfl rfl ?_
   refine St.nil fun a16 h16=>?_
   refine hK6 _ _ ?_
   refine fr_true (t:=27) h16 rfl ?_
   refine wp_seq_k fun K17 hK17=>?_
   refine rg h16 fun ops=>?_;clear h16 a16
   refine sa trivial rfl rfl ?_
   refine St.nil fun a18 h18=>?_
   refine hK17 _ _ ?_
   refine wp_ret ?_;with_reducible repeat first | refine of_then_ret ?_ | refine of_block_ret ?_
   have R:¬ x=y:=fun e=>hc15 (by rw [e])
   exact ret_tmp (t:=4) h18 rfl rfl ⟨by rw [bdec_false R],hW13.bel⟩
  rw [hb] at h14
  have hb:(bdec (x.params=y.params))=true:=by simpa using hb
  have hc19:(x.params=y.params):=bdec_iff.1 hb
  clear hb
  refine St.go h14 ?_;clear h14 a14
  refine sfBlock2 ⟨_,hg13,rfl,rfl⟩ rfl rfl ?_
  refine sbInss 1 hW13 ⟨_,hg13,rfl,rfl⟩ rfl rfl rfl rfl ?_
  refine slInss ⟨_,hg13,rfl,rfl⟩ rfl rfl ?_
  refine sfBlock2 ⟨_,hg13,rfl,rfl⟩ rfl rfl ?_
  refine sbInss 0 hW13 ⟨_,hg13,rfl,rfl⟩ rfl rfl rfl rfl ?_
  refine slInss ⟨_,hg13,rfl,rfl⟩ rfl rfl ?_
  refine sne ⟨_,hg13,rfl,rfl⟩ rfl rfl rfl ?_
  refine spf trivial rfl rfl rfl ?_
  refine St.nil fun a20 h20=>?_
  refine hK6 _ _ ?_
  refine fr_cond (t:=27) h20 rfl (fun hb=>?_) (fun hb=>?_)
  ·have h9:¬ x.code.length=y.code.length:=by have h8:=bne_iff_ne.1 hb;omega
   have hlen:¬ x.code.length=y.code.length:=h9
   clear h9
   clear hb
   refine wp_seq_k fun K21 hK21=>?_
   refine rg h20 fun ops=>?_;clear h20 a20
   refine sa trivial rfl rfl ?_
   refine St.nil fun a22 h22=>?_
   refine hK21 _ _ ?_
   refine wp_ret ?_;with_reducible repeat first | refine of_then_ret ?_ | refine of_block_ret ?_
   have R:¬ x=y:=fun e=>hlen (by rw [e])
   exact ret_tmp (t:=4) h22 rfl rfl ⟨by rw [bdec_false R],hW13.bel⟩
  have h9:x.code.length=y.code.length:=by have h8:=bne_eq_false_iff_eq.1 hb;omega
  have hlen:Hid (x.code.length=y.code.length):=h9
  clear h9
  clear hb
  refine wp_skip ?_
  refine hK5 _ _ ?_
  refine wp_seq_k fun K23 hK23=>?_
  refine wp_seq_k fun K24 hK24=>?_
  refine rg h20 fun ops=>?_;clear h20 a20
  refine sa trivial rfl rfl ?_
  refine St.nil fun a25 h25=>?_
  refine hK24 _ _ ?_
  refine wp_block ?_
  refine fr_loop (fun r a w'=>∃ q:Nat,q≤x.code.length∧r=x.code.length - q∧(∀ j,j<q→x.code[j]?=y.code[j]?)∧Fr 90 a [(1,.agg #[.int .i64 y.regs,.slice d.pP y.params.length d.cP,.slice d.pC y.code.length d.cC,.int .i64 y.fin.op,.int .i64 y.fin.a,.int .i64 y.fin.yes.block,.slice d.e.pYR y.fin.yes.regs.length d.e.cYR,.slice d.e.pYA y.fin.yes.args.length d.e.cYA,.int .i64 y.fin.no.block,.slice d.e.pNR y.fin.no.regs.length d.e.cNR,.slice d.e.pNA y.fin.no.args.length d.e.cNA,.slice d.e.pA y.fin.args.length d.e.cA]),(0,.agg #[.int .i64 x.regs,.slice b.pP x.params.length b.cP,.slice b.pC x.code.length b.cC,.int .i64 x.fin.op,.int .i64 x.fin.a,.int .i64 x.fin.yes.block,.slice b.e.pYR x.fin.yes.regs.length b.e.cYR,.slice b.e.pYA x.fin.yes.args.length b.e.cYA,.int .i64 x.fin.no.block,.slice b.e.pNR x.fin.no.regs.length b.e.cNR,.slice b.e.pNA x.fin.no.args.length b.e.cNA,.slice b.e.pA x.fin.args.length b.e.cA]),(2,.pointer (some ⟨B2,0,none⟩)),(3,.pointer (some ⟨B3,0,none⟩)),(4,.bool false),(5,.int .i64 (q:Int))]∧Wd w w' [(B3,#[.int .i64 y.regs,.slice d.pP y.params.length d.cP,.slice d.pC y.code.length d.cC,.int .i64 y.fin.op,.int .i64 y.fin.a,.int .i64 y.fin.yes.block,.slice d.e.pYR y.fin.yes.regs.length d.e.cYR,.slice d.e.pYA y.fin.yes.args.length d.e.cYA,.int .i64 y.fin.no.block,.slice d.e.pNR y.fin.no.regs.length d.e.cNR,.slice d.e.pNA y.fin.no.args.length d.e.cNA,.slice d.e.pA y.fin.args.length d.e.cA],52),(B2,#[.int .i64 x.regs,.slice b.pP x.params.length b.cP,.slice b.pC x.code.length b.cC,.int .i64 x.fin.op,.int .i64 x.fin.a,.int .i64 x.fin.yes.block,.slice b.e.pYR x.fin.yes.regs.length b.e.cYR,.slice b.e.pYA x.fin.yes.args.length b.e.cYA,.int .i64 x.fin.no.block,.slice b.e.pNR x.fin.no.regs.length b.e.cNR,.slice b.e.pNA x.fin.no.args.length b.e.cNA,.slice b.e.pA x.fin.args.length b.e.cA],52)]) (x.code.length) ⟨0,Nat.zero_le _,rfl,(fun j hj=>by omega),(h25.keep (h25.keep (h25.keep (h25.keep (h25.keep (h25.keep h25.nil (t:=5) rfl) (t:=4) rfl) (t:=3) rfl) (t:=2) rfl) (t:=0) rfl) (t:=1) rfl),hW13⟩ ?_
  clear h25 hW13
  rintro r a26 w26 ⟨q,hq,hr,hall,hF26,hW26⟩ KL hKL
  refine wp_seq_k fun K27 hK27=>?_
  refine wp_seq_k fun K28 hK28=>?_
  refine rg hF26 fun ops=>?_;clear hF26 a26
  refine sm trivial rfl rfl ?_
  refine sfBlock2 trivial rfl rfl ?_
  refine sbInss 1 hW26 trivial rfl rfl rfl rfl ?_
  refine slInss trivial rfl rfl ?_
  refine slt trivial rfl rfl rfl ?_
  refine St.nil fun a29 h29=>?_
  refine hK28 _ _ ?_
  refine fr_cond (t:=32) h29 rfl (fun hb=>?_) (fun hb=>?_)
  ·have hlt1:q<x.code.length:=by have:=of_decide_eq_true hb;omega
   have hlt2:q<y.code.length:=by have:=hlen.out;omega
   clear hb
   obtain ⟨z,hx1⟩:∃ v9,(x.code)[q]?=some v9:=⟨_,List.getElem?_eq_getElem hlt1⟩
   obtain ⟨g1,o1,i1,hp1,E1,In1⟩:=ins_at hx.out.code hx1
   replace In1:Hid _:=In1
   replace hp1:Hid _:=hp1
   replace hx1:Hid _:=hx1
   replace E1:Hid _:=E1
   obtain ⟨u,hx2⟩:∃ v9,(y.code)[q]?=some v9:=⟨_,List.getElem?_eq_getElem hlt2⟩
   obtain ⟨g2,o2,i2,hp2,E2,In2⟩:=ins_at hy.out.code hx2
   replace In2:Hid _:=In2
   replace hp2:Hid _:=hp2
   replace hx2:Hid _:=hx2
   replace E2:Hid _:=E2
   refine wp_skip ?_
   refine hK27 _ _ ?_
   refine wp_seq_k fun K30 hK30=>?_
   refine wp_block ?_
   refine wp_seq_k fun K31 hK31=>?_
   have hF32:Fr 90 a29 [(1,.agg #[.int .i64 y.regs,.slice d.pP y.params.length d.cP,.slice d.pC y.code.length d.cC,.int .i64 y.fin.op,.int .i64 y.fin.a,.int .i64 y.fin.yes.block,.slice d.e.pYR y.fin.yes.regs.length d.e.cYR,.slice d.e.pYA y.fin.yes.args.length d.e.cYA,.int .i64 y.fin.no.block,.slice d.e.pNR y.fin.no.regs.length d.e.cNR,.slice d.e.pNA y.fin.no.args.length d.e.cNA,.slice d.e.pA y.fin.args.length d.e.cA]),(0,.agg #[.int .i64 x.regs,.slice b.pP x.params.length b.cP,.slice b.pC x.code.length b.cC,.int .i64 x.fin.op,.int .i64 x.fin.a,.int .i64 x.fin.yes.block,.slice b.e.pYR x.fin.yes.regs.length b.e.cYR,.slice b.e.pYA x.fin.yes.args.length b.e.cYA,.int .i64 x.fin.no.block,.slice b.e.pNR x.fin.no.regs.length b.e.cNR,.slice b.e.pNA x.fin.no.args.length b.e.cNA,.slice b.e.pA x.fin.args.length b.e.cA]),(2,.pointer (some ⟨B2,0,none⟩)),(3,.pointer (some ⟨B3,0,none⟩)),(4,.bool false),(5,.int .i64 (q:Int))]:=(h29.keep (h29.keep (h29.keep (h29.keep (h29.keep (h29.keep h29.nil (t:=5) rfl) (t:=4) rfl) (t:=3) rfl) (t:=2) rfl) (t:=0) rfl) (t:=1) rfl)
   have ho2:a29.tmps.getD 2 undef=.pointer (some ⟨B2,0,none⟩):=h29.sl 2 _ rfl
   have ho5:a29.tmps.getD 5 undef=.int .i64 (q:Int):=h29.sl 5 _ rfl
   have ho3:a29.tmps.getD 3 undef=.pointer (some ⟨B3,0,none⟩):=h29.sl 3 _ rfl
   refine fr_draw_k 12 ([(2,fun v _=>v=.pointer (some ⟨B2,0,none⟩)),(5,fun v _=>v=.int .i64 (q:Int)),(3,fun v _=>v=.pointer (some ⟨B3,0,none⟩)),(35,fun v _=>v=.pointer (some ⟨B2,2,none⟩)),(36,fun v _=>v=.slice b.pC x.code.length b.cC),(37,fun v _=>v=.int .i64 (q:Int)),(38,fun v _=>v=.pointer (some ⟨g1,o1+q*8,none⟩)),(39,fun v _=>v=.agg #[.int .i64 z.op,.int .i64 z.a,.int .i64 z.b,.int .i64 z.c,.int .i64 z.k,.int .i64 z.n,.slice i1.pR z.regs.length i1.cR,.slice i1.pA z.args.length i1.cA]),(40,fun v _=>v=.pointer (some ⟨B3,2,none⟩)),(41,fun v _=>v=.slice d.pC y.code.length d.cC),(42,fun v _=>v=.int .i64 (q:Int)),(43,fun v _=>v=.pointer (some ⟨g2,o2+q*8,none⟩)),(44,fun v _=>v=.agg #[.int .i64 u.op,.int .i64 u.a,.int .i64 u.b,.int .i64 u.c,.int .i64 u.k,.int .i64 u.n,.slice i2.pR u.regs.length i2.cR,.slice i2.pA u.args.length i2.cA]),(45,fun v _=>v=.bool (bdec (z=u))),(46,fun v _=>v=.bool (!(bdec (z=u))))]:PTab) (fun w'=>Wd w w' [(B3,#[.int .i64 y.regs,.slice d.pP y.params.length d.cP,.slice d.pC y.code.length d.cC,.int .i64 y.fin.op,.int .i64 y.fin.a,.int .i64 y.fin.yes.block,.slice d.e.pYR y.fin.yes.regs.length d.e.cYR,.slice d.e.pYA y.fin.yes.args.length d.e.cYA,.int .i64 y.fin.no.block,.slice d.e.pNR y.fin.no.regs.length d.e.cNR,.slice d.e.pNA y.fin.no.args.length d.e.cNA,.slice d.e.pA y.fin.args.length d.e.cA],52),(B2,#[.int .i64 x.regs,.slice b.pP x.params.length b.cP,.slice b.pC x.code.length b.cC,.int .i64 x.fin.op,.int .i64 x.fin.a,.int .i64 x.fin.yes.block,.slice b.e.pYR x.fin.yes.regs.length b.e.cYR,.slice b.e.pYA x.fin.yes.args.length b.e.cYA,.int .i64 x.fin.no.block,.slice b.e.pNR x.fin.no.regs.length b.e.cNR,.slice b.e.pNA x.fin.no.args.length b.e.cNA,.slice b.e.pA x.fin.args.length b.e.cA],52)]∧Below w26.heap.size w26 w') (fun w w'=>Below w.heap.size w w') (outs:=[2,5,3]) (gs:=[]) (bs:=[true,true,true,true,true,true,true,true,true,true,true,true]) (by kernel_rfl) hF32 rfl (by kernel_rfl) (by kernel_rfl) ?hR ?hG ⟨hW26.drewN 1,drewN_below (m:=1) (Below.refl _ _)⟩ ⟨ho2,ho5,ho3,trivial⟩ ?hA ?hend
   case hR=>exact ⟨fun _ _ _ _ h=>h,fun _ _ _ _ h=>h,fun _ _ _ _ h=>h,fun _ _ _ _ h=>h,fun _ _ _ _ h=>h,fun _ _ _ _ h=>h,fun _ _ _ _ h=>h,fun _ _ _ _ h=>h,fun _ _ _ _ h=>h,fun _ _ _ _ h=>h,fun _ _ _ _ h=>h,fun _ _ _ _ h=>h,fun _ _ _ _ h=>h,fun _ _ _ _ h=>h,fun _ _ _ _ h=>h,trivial⟩
   case hG=>exact trivial
   case hA =>
    refine ⟨fun a w hW hk K hK=>?_,?_⟩
    · obtain ⟨k0,-⟩:=hk
      have k0:a.tmps.getD 2 undef=.pointer (some ⟨B2,0,none⟩):=k0
      go_simp
      exact hK _ _ (Below.refl _ _) hW rfl
    refine ⟨fun a w hW hk K hK=>?_,?_⟩
    · obtain ⟨k0,-⟩:=hk
      have k0:a.tmps.getD 35 undef=.pointer (some ⟨B2,2,none⟩):=k0
      have c2:w.cell? ⟨B2,2,none⟩=some (.slice b.pC x.code.length b.cC):=cellOf (hW.1.get 1 rfl) 2 _ rfl
      go_simp
      exact hK _ _ (Below.refl _ _) hW rfl
    refine ⟨fun a w hW hk K hK=>?_,?_⟩
    · obtain ⟨k0,-⟩:=hk
      have k0:a.tmps.getD 5 undef=.int .i64 (q:Int):=k0
      go_simp
      exact hK _ _ (Below.refl _ _) hW rfl
    refine ⟨fun a w hW hk K hK=>?_,?_⟩
    · obtain ⟨k0,k1,-⟩:=hk
      have k0:a.tmps.getD 36 undef=.slice b.pC x.code.length b.cC:=k0
      have k1:a.tmps.getD 37 undef=.int .i64 (q:Int):=k1
      have hpq:=hp1.out
      have hk0:(0:Int)≤q:=by omega
      have hk1:(q:Int)<(x.code.length:Int):=by omega
      go_simp
      exact hK _ _ (Below.refl _ _) hW rfl
    refine ⟨fun a w hW hk K hK=>?_,?_⟩
    · obtain ⟨k0,-⟩:=hk
      have k0:a.tmps.getD 38 undef=.pointer (some ⟨g1,o1+q*8,none⟩):=k0
      have d0:w.cell? ⟨g1,o1+q*8,none⟩=some (.int .i64 z.op):=bel_cell hW.1.bel (E1.out 0 _ rfl)
      have d1:w.cell? ⟨g1,o1+q*8+1,none⟩=some (.int .i64 z.a):=bel_cell hW.1.bel (E1.out 1 _ rfl)
      have d2:w.cell? ⟨g1,o1+q*8+2,none⟩=some (.int .i64 z.b):=bel_cell hW.1.bel (E1.out 2 _ rfl)
      have d3:w.cell? ⟨g1,o1+q*8+3,none⟩=some (.int .i64 z.c):=bel_cell hW.1.bel (E1.out 3 _ rfl)
      have d4:w.cell? ⟨g1,o1+q*8+4,none⟩=some (.int .i64 z.k):=bel_cell hW.1.bel (E1.out 4 _ rfl)
      have d5:w.cell? ⟨g1,o1+q*8+5,none⟩=some (.int .i64 z.n):=bel_cell hW.1.bel (E1.out 5 _ rfl)
      have d6:w.cell? ⟨g1,o1+q*8+6,none⟩=some (.slice i1.pR z.regs.length i1.cR):=bel_cell hW.1.bel (E1.out 6 _ rfl)
      have d7:w.cell? ⟨g1,o1+q*8+7,none⟩=some (.slice i1.pA z.args.length i1.cA):=bel_cell hW.1.bel (E1.out 7 _ rfl)
      go_simp
      exact hK _ _ (Below.refl _ _) hW rfl
    refine ⟨fun a w hW hk K hK=>?_,?_⟩
    · obtain ⟨k0,-⟩:=hk
      have k0:a.tmps.getD 3 undef=.pointer (some ⟨B3,0,none⟩):=k0
      go_simp
      exact hK _ _ (Below.refl _ _) hW rfl
    refine ⟨fun a w hW hk K hK=>?_,?_⟩
    · obtain ⟨k0,-⟩:=hk
      have k0:a.tmps.getD 40 undef=.pointer (some ⟨B3,2,none⟩):=k0
      have c2:w.cell? ⟨B3,2,none⟩=some (.slice d.pC y.code.length d.cC):=cellOf (hW.1.get 0 rfl) 2 _ rfl
      go_simp
      exact hK _ _ (Below.refl _ _) hW rfl
    refine ⟨fun a w hW hk K hK=>?_,?_⟩
    · obtain ⟨k0,-⟩:=hk
      have k0:a.tmps.getD 5 undef=.int .i64 (q:Int):=k0
      go_simp
      exact hK _ _ (Below.refl _ _) hW rfl
    refine ⟨fun a w hW hk K hK=>?_,?_⟩
    · obtain ⟨k0,k1,-⟩:=hk
      have k0:a.tmps.getD 41 undef=.slice d.pC y.code.length d.cC:=k0
      have k1:a.tmps.getD 42 undef=.int .i64 (q:Int):=k1
      have hpq:=hp2.out
      have hk0:(0:Int)≤q:=by omega
      have hk1:(q:Int)<(y.code.length:Int):=by omega
      go_simp
      exact hK _ _ (Below.refl _ _) hW rfl
    refine ⟨fun a w hW hk K hK=>?_,?_⟩
    · obtain ⟨k0,-⟩:=hk
      have k0:a.tmps.getD 43 undef=.pointer (some ⟨g2,o2+q*8,none⟩):=k0
      have d0:w.cell? ⟨g2,o2+q*8,none⟩=some (.int .i64 u.op):=bel_cell hW.1.bel (E2.out 0 _ rfl)
      have d1:w.cell? ⟨g2,o2+q*8+1,none⟩=some (.int .i64 u.a):=bel_cell hW.1.bel (E2.out 1 _ rfl)
      have d2:w.cell? ⟨g2,o2+q*8+2,none⟩=some (.int .i64 u.b):=bel_cell hW.1.bel (E2.out 2 _ rfl)
      have d3:w.cell? ⟨g2,o2+q*8+3,none⟩=some (.int .i64 u.c):=bel_cell hW.1.bel (E2.out 3 _ rfl)
      have d4:w.cell? ⟨g2,o2+q*8+4,none⟩=some (.int .i64 u.k):=bel_cell hW.1.bel (E2.out 4 _ rfl)
      have d5:w.cell? ⟨g2,o2+q*8+5,none⟩=some (.int .i64 u.n):=bel_cell hW.1.bel (E2.out 5 _ rfl)
      have d6:w.cell? ⟨g2,o2+q*8+6,none⟩=some (.slice i2.pR u.regs.length i2.cR):=bel_cell hW.1.bel (E2.out 6 _ rfl)
      have d7:w.cell? ⟨g2,o2+q*8+7,none⟩=some (.slice i2.pA u.args.length i2.cA):=bel_cell hW.1.bel (E2.out 7 _ rfl)
      go_simp
      exact hK _ _ (Below.refl _ _) hW rfl
    refine ⟨fun a w hW hk K hK=>?_,?_⟩
    · obtain ⟨k0,k1,-⟩:=hk
      have k0:a.tmps.getD 39 undef=.agg #[.int .i64 z.op,.int .i64 z.a,.int .i64 z.b,.int .i64 z.c,.int .i64 z.k,.int .i64 z.n,.slice i1.pR z.regs.length i1.cR,.slice i1.pA z.args.length i1.cA]:=k0
      have k1:a.tmps.getD 44 undef=.agg #[.int .i64 u.op,.int .i64 u.a,.int .i64 u.b,.int .i64 u.c,.int .i64 u.k,.int .i64 u.n,.slice i2.pR u.regs.length i2.cR,.slice i2.pA u.args.length i2.cA]:=k1
      have hC:Rd Tryz.prog 69 #[.agg #[.int .i64 z.op,.int .i64 z.a,.int .i64 z.b,.int .i64 z.c,.int .i64 z.k,.int .i64 z.n,.slice i1.pR z.regs.length i1.cR,.slice i1.pA z.args.length i1.cA],.agg #[.int .i64 u.op,.int .i64 u.a,.int .i64 u.b,.int .i64 u.c,.int .i64 u.k,.int .i64 u.n,.slice i2.pR u.regs.length i2.cR,.slice i2.pA u.args.length i2.cA]] w (.bool (bdec (z=u))):=sameIns_any (In1.out.below hW.1.bel) (In2.out.below hW.1.bel) (hs.out.2.2.2 _ (List.mem_of_getElem? hx1.out))
      go_simp
      refine hC.mono ?_
      rintro e w9 ⟨rfl,hb⟩
      exact hK _ _ hb ⟨hW.1.below hb,Below.andThen hW.2 hb⟩ rfl
    refine ⟨fun a w hW hk K hK=>?_,?_⟩
    · obtain ⟨k0,-⟩:=hk
      have k0:a.tmps.getD 45 undef=.bool (bdec (z=u)):=k0
      go_simp
      exact hK _ _ (Below.refl _ _) hW rfl
    trivial
   case hend =>
    intro ops a33 w33 hWD hE hFD
    have hd46:a33.tmps.getD 46 undef=.bool (!(bdec (z=u))):=hE 46 rfl
    have hF33:Fr 90 a33 [(46,.bool (!(bdec (z=u)))),(1,.agg #[.int .i64 y.regs,.slice d.pP y.params.length d.cP,.slice d.pC y.code.length d.cC,.int .i64 y.fin.op,.int .i64 y.fin.a,.int .i64 y.fin.yes.block,.slice d.e.pYR y.fin.yes.regs.length d.e.cYR,.slice d.e.pYA y.fin.yes.args.length d.e.cYA,.int .i64 y.fin.no.block,.slice d.e.pNR y.fin.no.regs.length d.e.cNR,.slice d.e.pNA y.fin.no.args.length d.e.cNA,.slice d.e.pA y.fin.args.length d.e.cA]),(0,.agg #[.int .i64 x.regs,.slice b.pP x.params.length b.cP,.slice b.pC x.code.length b.cC,.int .i64 x.fin.op,.int .i64 x.fin.a,.int .i64 x.fin.yes.block,.slice b.e.pYR x.fin.yes.regs.length b.e.cYR,.slice b.e.pYA x.fin.yes.args.length b.e.cYA,.int .i64 x.fin.no.block,.slice b.e.pNR x.fin.no.regs.length b.e.cNR,.slice b.e.pNA x.fin.no.args.length b.e.cNA,.slice b.e.pA x.fin.args.length b.e.cA]),(2,.pointer (some ⟨B2,0,none⟩)),(3,.pointer (some ⟨B3,0,none⟩)),(4,.bool false),(5,.int .i64 (q:Int))]:=(hFD.cons hd46)
    clear hd46
    have hW33:Wd w w33 [(B3,#[.int .i64 y.regs,.slice d.pP y.params.length d.cP,.slice d.pC y.code.length d.cC,.int .i64 y.fin.op,.int .i64 y.fin.a,.int .i64 y.fin.yes.block,.slice d.e.pYR y.fin.yes.regs.length d.e.cYR,.slice d.e.pYA y.fin.yes.args.length d.e.cYA,.int .i64 y.fin.no.block,.slice d.e.pNR y.fin.no.regs.length d.e.cNR,.slice d.e.pNA y.fin.no.args.length d.e.cNA,.slice d.e.pA y.fin.args.length d.e.cA],52),(B2,#[.int .i64 x.regs,.slice b.pP x.params.length b.cP,.slice b.pC x.code.length b.cC,.int .i64 x.fin.op,.int .i64 x.fin.a,.int .i64 x.fin.yes.block,.slice b.e.pYR x.fin.yes.regs.length b.e.cYR,.slice b.e.pYA x.fin.yes.args.length b.e.cYA,.int .i64 x.fin.no.block,.slice b.e.pNR x.fin.no.regs.length b.e.cNR,.slice b.e.pNA x.fin.no.args.length b.e.cNA,.slice b.e.pA x.fin.args.length b.e.cA],52)]:=hWD.1
    clear hFD hWD hE hF32 h29
    clear hW26
    refine wpList_nil ?_
    refine hK31 _ _ ?_
    refine fr_cond (t:=46) hF33 rfl (fun hb=>?_) (fun hb=>?_)
    ·have hb:(bdec (z=u))=false:=by simpa using hb
     have hel:¬ (z=u):=fun h=>by rw [bdec_true h] at hb;cases hb
     clear hb
     refine wp_seq_k fun K34 hK34=>?_
     refine rg hF33 fun ops=>?_;clear hF33 a33
     refine sa trivial rfl rfl ?_
     refine St.nil fun a35 h35=>?_
     refine hK34 _ _ ?_
     refine wp_ret ?_;with_reducible repeat first | refine of_then_ret ?_ | refine of_block_ret ?_
     have R:¬ x=y:=by
       intro e
       have h1:=hx1.out
       rw [e,hx2.out] at h1
       exact hel (Option.some.inj h1).symm
     exact ret_tmp (t:=4) h35 rfl rfl ⟨by rw [bdec_false R],hW33.bel⟩
    have hb:(bdec (z=u))=true:=by simpa using hb
    have hel:(z=u):=bdec_iff.1 hb
    clear hb
    refine wp_skip ?_
    refine hK30 _ _ ?_
    refine rg hF33 fun ops=>?_;clear hF33 a33
    refine sm trivial rfl rfl ?_
    refine sad (by omega) trivial rfl rfl rfl ?_
    refine sa trivial rfl rfl ?_
    refine St.nil fun a36 h36=>?_
    refine hKL _ _ (x.code.length - (q+1)) (by omega) ⟨q+1,by omega,rfl,?_,(h36.keep (h36.keep (h36.keep (h36.keep (h36.keep (h36.keep h36.nil (t:=5) rfl) (t:=4) rfl) (t:=3) rfl) (t:=2) rfl) (t:=0) rfl) (t:=1) rfl),hW33⟩
    ·intro j hj
     by_cases e:j=q
     · subst e;rw [hx1.out,hx2.out,hel]
     · exact hall j (by omega)
  have hge:q=x.code.length:=by have:=of_decide_eq_false hb;omega
  clear hb
  refine wp_exit ?_
  refine hK23 _ _ ?_
  refine wp_seq_k fun K37 hK37=>?_
  refine fr_region ?_
  intro ops hops
  have hg7:(ops[7]?).bind (fun o:Oper=>o.dst)=some 54:=hops 7
  have hg16:(ops[16]?).bind (fun o:Oper=>o.dst)=some 63:=hops 16
  have hg25:(ops[25]?).bind (fun o:Oper=>o.dst)=some 72:=hops 25
  have hg34:(ops[34]?).bind (fun o:Oper=>o.dst)=some 81:=hops 34
  clear hops
  refine St.go h29 ?_;clear h29 a29
  refine sfBlock3 trivial rfl rfl ?_
  refine sfEnd0 trivial rfl rfl ?_
  refine sbInt 1 hW26 trivial rfl rfl rfl rfl ?_
  refine sfBlock3 trivial rfl rfl ?_
  refine sfEnd0 trivial rfl rfl ?_
  refine sbInt 0 hW26 trivial rfl rfl rfl rfl ?_
  refine seq trivial rfl rfl rfl ?_
  refine sm trivial rfl rfl ?_
  intro a38 h38
  rcases Bool.eq_false_or_eq_true (x.fin.op==y.fin.op) with hb | hb
  ·rw [hb] at h38
   have h9:x.fin.op=y.fin.op:=eq_of_beq hb
   have hc39:Hid (x.fin.op=y.fin.op):=h9
   clear h9
   clear hb
   refine St.go h38 ?_;clear h38 a38
   refine sfBlock3 ⟨_,hg7,rfl,rfl⟩ rfl rfl ?_
   refine sfEnd1 ⟨_,hg7,rfl,rfl⟩ rfl rfl ?_
   refine sbInt 1 hW26 ⟨_,hg7,rfl,rfl⟩ rfl rfl rfl rfl ?_
   refine sfBlock3 ⟨_,hg7,rfl,rfl⟩ rfl rfl ?_
   refine sfEnd1 ⟨_,hg7,rfl,rfl⟩ rfl rfl ?_
   refine sbInt 0 hW26 ⟨_,hg7,rfl,rfl⟩ rfl rfl rfl rfl ?_
   refine seq ⟨_,hg7,rfl,rfl⟩ rfl rfl rfl ?_
   refine sp trivial rfl rfl rfl ?_
   refine sm trivial rfl rfl ?_
   intro a40 h40
   rcases Bool.eq_false_or_eq_true (x.fin.a==y.fin.a) with hb | hb
   ·rw [hb] at h40
    have h9:x.fin.a=y.fin.a:=eq_of_beq hb
    have hc41:Hid (x.fin.a=y.fin.a):=h9
    clear h9
    clear hb
    refine St.go h40 ?_;clear h40 a40
    refine sfBlock3 ⟨_,hg16,rfl,rfl⟩ rfl rfl ?_
    refine sfEnd2 ⟨_,hg16,rfl,rfl⟩ rfl rfl ?_
    refine sS 1 3 Tryz.underlying48 rfl infTo hW26 ⟨_,hg16,rfl,rfl⟩ rfl rfl rfl rfl ?_
    refine sfBlock3 ⟨_,hg16,rfl,rfl⟩ rfl rfl ?_
    refine sfEnd2 ⟨_,hg16,rfl,rfl⟩ rfl rfl ?_
    refine sS 0 3 Tryz.underlying48 rfl infTo hW26 ⟨_,hg16,rfl,rfl⟩ rfl rfl rfl rfl ?_
    refine sc_2 cf70 hW26 (sameTo_any (hx.out.fin.yes.below hW26.bel) (hy.out.fin.yes.below hW26.bel) hs.out.2.2.1.1) ⟨_,hg16,rfl,rfl⟩ rfl rfl rfl ?_
    clear hW26;intro w42 hW42
    refine sp trivial rfl rfl rfl ?_
    refine sm trivial rfl rfl ?_
    intro a43 h43
    rcases Bool.eq_false_or_eq_true (bdec (x.fin.yes=y.fin.yes)) with hb | hb
    ·rw [hb] at h43
     have hc44:(x.fin.yes=y.fin.yes):=bdec_iff.1 hb
     clear hb
     refine St.go h43 ?_;clear h43 a43
     refine sfBlock3 ⟨_,hg25,rfl,rfl⟩ rfl rfl ?_
     refine sfEnd3 ⟨_,hg25,rfl,rfl⟩ rfl rfl ?_
     refine sS 1 3 Tryz.underlying48 rfl infTo hW42 ⟨_,hg25,rfl,rfl⟩ rfl rfl rfl rfl ?_
     refine sfBlock3 ⟨_,hg25,rfl,rfl⟩ rfl rfl ?_
     refine sfEnd3 ⟨_,hg25,rfl,rfl⟩ rfl rfl ?_
     refine sS 0 3 Tryz.underlying48 rfl infTo hW42 ⟨_,hg25,rfl,rfl⟩ rfl rfl rfl rfl ?_
     refine sc_2 cf70 hW42 (sameTo_any (hx.out.fin.no.below hW42.bel) (hy.out.fin.no.below hW42.bel) hs.out.2.2.1.2.1) ⟨_,hg25,rfl,rfl⟩ rfl rfl rfl ?_
     clear hW42;intro w45 hW45
     refine sp trivial rfl rfl rfl ?_
     refine sm trivial rfl rfl ?_
     intro a46 h46
     rcases Bool.eq_false_or_eq_true (bdec (x.fin.no=y.fin.no)) with hb | hb
     ·rw [hb] at h46
      have hc47:(x.fin.no=y.fin.no):=bdec_iff.1 hb
      clear hb
      refine St.go h46 ?_;clear h46 a46
      refine sfBlock3 ⟨_,hg34,rfl,rfl⟩ rfl rfl ?_
      refine sfEnd4 ⟨_,hg34,rfl,rfl⟩ rfl rfl ?_
      refine sbInts 1 hW45 ⟨_,hg34,rfl,rfl⟩ rfl rfl rfl rfl ?_
      refine sfBlock3 ⟨_,hg34,rfl,rfl⟩ rfl rfl ?_
      refine sfEnd4 ⟨_,hg34,rfl,rfl⟩ rfl rfl ?_
      refine sbInts 0 hW45 ⟨_,hg34,rfl,rfl⟩ rfl rfl rfl rfl ?_
      refine sc_2 cf71 hW45 (sameInts_any x.fin.args y.fin.args b.e.pA d.e.pA b.e.cA d.e.cA w45 (Lay.below hx.out.fin.args hW45.bel) (Lay.below hy.out.fin.args hW45.bel) (by have:=hs.out.2.2.1.2.2;omega)) ⟨_,hg34,rfl,rfl⟩ rfl rfl rfl ?_
      clear hW45;intro w48 hW48
      refine sp trivial rfl rfl rfl ?_
      refine sa trivial rfl rfl ?_
      refine St.nil fun a49 h49=>?_
      refine hK37 _ _ ?_
      refine wp_ret ?_;with_reducible repeat first | refine of_then_ret ?_ | refine of_block_ret ?_
      have RC:x.code=y.code:=by
        have:=hlen.out
        refine List.ext_getElem? fun i=>?_
        by_cases hi:i<q
        · exact hall i hi
        · rw [List.getElem?_eq_none (by omega),List.getElem?_eq_none (by omega)]
      have R:x.fin.args=y.fin.args ↔ x=y:=⟨fun h=>MBlock.eq_of hc12.out hc19 RC (MEnd.eq_of hc39.out hc41.out hc44 hc47 h),fun e=>by rw [e]⟩
      exact ret_tmp (t:=4) h49 rfl rfl ⟨by rw [bdec_congr R],hW48.bel⟩
     rw [hb] at h46
     have hc50:¬ (x.fin.no=y.fin.no):=fun h=>by rw [bdec_true h] at hb;cases hb
     clear hb
     refine St.go h46 ?_;clear h46 a46
     refine so hg34 rfl rfl rfl rfl ?_
     refine so hg34 rfl rfl rfl rfl ?_
     refine so hg34 rfl rfl rfl rfl ?_
     refine so hg34 rfl rfl rfl rfl ?_
     refine so hg34 rfl rfl rfl rfl ?_
     refine so hg34 rfl rfl rfl rfl ?_
     refine so hg34 rfl rfl rfl rfl ?_
     refine spf trivial rfl rfl rfl ?_
     refine sa trivial rfl rfl ?_
     refine St.nil fun a51 h51=>?_
     refine hK37 _ _ ?_
     refine wp_ret ?_;with_reducible repeat first | refine of_then_ret ?_ | refine of_block_ret ?_
     have R:¬ x=y:=fun e=>hc50 (by rw [e])
     exact ret_tmp (t:=4) h51 rfl rfl ⟨by rw [bdec_false R],hW45.bel⟩
    rw [hb] at h43
    have hc52:¬ (x.fin.yes=y.fin.yes):=fun h=>by rw [bdec_true h] at hb;cases hb
    clear hb
    refine St.go h43 ?_;clear h43 a43
    refine so hg25 rfl rfl rfl rfl ?_
    refine so hg25 rfl rfl rfl rfl ?_
    refine so hg25 rfl rfl rfl rfl ?_
    refine so hg25 rfl rfl rfl rfl ?_
    refine so hg25 rfl rfl rfl rfl ?_
    refine so hg25 rfl rfl rfl rfl ?_
    refine so hg25 rfl rfl rfl rfl ?_
    refine spf trivial rfl rfl rfl ?_
    refine sm trivial rfl rfl ?_
    refine so hg34 rfl rfl rfl rfl ?_
    refine so hg34 rfl rfl rfl rfl ?_
    refine so hg34 rfl rfl rfl rfl ?_
    refine so hg34 rfl rfl rfl rfl ?_
    refine so hg34 rfl rfl rfl rfl ?_
    refine so hg34 rfl rfl rfl rfl ?_
    refine so hg34 rfl rfl rfl rfl ?_
    refine spf trivial rfl rfl rfl ?_
    refine sa trivial rfl rfl ?_
    refine St.nil fun a53 h53=>?_
    refine hK37 _ _ ?_
    refine wp_ret ?_;with_reducible repeat first | refine of_then_ret ?_ | refine of_block_ret ?_
    have R:¬ x=y:=fun e=>hc52 (by rw [e])
    exact ret_tmp (t:=4) h53 rfl rfl ⟨by rw [bdec_false R],hW42.bel⟩
   rw [hb] at h40
   have h9:¬ x.fin.a=y.fin.a:=ne_of_beq_false hb
   have hc54:¬ x.fin.a=y.fin.a:=h9
   clear h9
   clear hb
   refine St.go h40 ?_;clear h40 a40
   refine so hg16 rfl rfl rfl rfl ?_
   refine so hg16 rfl rfl rfl rfl ?_
   refine so hg16 rfl rfl rfl rfl ?_
   refine so hg16 rfl rfl rfl rfl ?_
   refine so hg16 rfl rfl rfl rfl ?_
   refine so hg16 rfl rfl rfl rfl ?_
   refine so hg16 rfl rfl rfl rfl ?_
   refine spf trivial rfl rfl rfl ?_
   refine sm trivial rfl rfl ?_
   refine so hg25 rfl rfl rfl rfl ?_
   refine so hg25 rfl rfl rfl rfl ?_
   refine so hg25 rfl rfl rfl rfl ?_
   refine so hg25 rfl rfl rfl rfl ?_
   refine so hg25 rfl rfl rfl rfl ?_
   refine so hg25 rfl rfl rfl rfl ?_
   refine so hg25 rfl rfl rfl rfl ?_
   refine spf trivial rfl rfl rfl ?_
   refine sm trivial rfl rfl ?_
   refine so hg34 rfl rfl rfl rfl ?_
   refine so hg34 rfl rfl rfl rfl ?_
   refine so hg34 rfl rfl rfl rfl ?_
   refine so hg34 rfl rfl rfl rfl ?_
   refine so hg34 rfl rfl rfl rfl ?_
   refine so hg34 rfl rfl rfl rfl ?_
   refine so hg34 rfl rfl rfl rfl ?_
   refine spf trivial rfl rfl rfl ?_
   refine sa trivial rfl rfl ?_
   refine St.nil fun a55 h55=>?_
   refine hK37 _ _ ?_
   refine wp_ret ?_;with_reducible repeat first | refine of_then_ret ?_ | refine of_block_ret ?_
   have R:¬ x=y:=fun e=>hc54 (by rw [e])
   exact ret_tmp (t:=4) h55 rfl rfl ⟨by rw [bdec_false R],hW26.bel⟩
  rw [hb] at h38
  have h9:¬ x.fin.op=y.fin.op:=ne_of_beq_false hb
  have hc56:¬ x.fin.op=y.fin.op:=h9
  clear h9
  clear hb
  refine St.go h38 ?_;clear h38 a38
  refine so hg7 rfl rfl rfl rfl ?_
  refine so hg7 rfl rfl rfl rfl ?_
  refine so hg7 rfl rfl rfl rfl ?_
  refine so hg7 rfl rfl rfl rfl ?_
  refine so hg7 rfl rfl rfl rfl ?_
  refine so hg7 rfl rfl rfl rfl ?_
  refine so hg7 rfl rfl rfl rfl ?_
  refine spf trivial rfl rfl rfl ?_
  refine sm trivial rfl rfl ?_
  refine so hg16 rfl rfl rfl rfl ?_
  refine so hg16 rfl rfl rfl rfl ?_
  refine so hg16 rfl rfl rfl rfl ?_
  refine so hg16 rfl rfl rfl rfl ?_
  refine so hg16 rfl rfl rfl rfl ?_
  refine so hg16 rfl rfl rfl rfl ?_
  refine so hg16 rfl rfl rfl rfl ?_
  refine spf trivial rfl rfl rfl ?_
  refine sm trivial rfl rfl ?_
  refine so hg25 rfl rfl rfl rfl ?_
  refine so hg25 rfl rfl rfl rfl ?_
  refine so hg25 rfl rfl rfl rfl ?_
  refine so hg25 rfl rfl rfl rfl ?_
  refine so hg25 rfl rfl rfl rfl ?_
  refine so hg25 rfl rfl rfl rfl ?_
  refine so hg25 rfl rfl rfl rfl ?_
  refine spf trivial rfl rfl rfl ?_
  refine sm trivial rfl rfl ?_
  refine so hg34 rfl rfl rfl rfl ?_
  refine so hg34 rfl rfl rfl rfl ?_
  refine so hg34 rfl rfl rfl rfl ?_
  refine so hg34 rfl rfl rfl rfl ?_
  refine so hg34 rfl rfl rfl rfl ?_
  refine so hg34 rfl rfl rfl rfl ?_
  refine so hg34 rfl rfl rfl rfl ?_
  refine spf trivial rfl rfl rfl ?_
  refine sa trivial rfl rfl ?_
  refine St.nil fun a57 h57=>?_
  refine hK37 _ _ ?_
  refine wp_ret ?_;with_reducible repeat first | refine of_then_ret ?_ | refine of_block_ret ?_
  have R:¬ x=y:=fun e=>hc56 (by rw [e])
  exact ret_tmp (t:=4) h57 rfl rfl ⟨by rw [bdec_false R],hW26.bel⟩
end Go.Proofs.YtalfbnllodhkiacGreatDoor
