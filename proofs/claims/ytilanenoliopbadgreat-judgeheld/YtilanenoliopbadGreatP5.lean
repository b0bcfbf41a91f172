import Derived.Test.YtilanenoliopbadGreatP4
set_option maxHeartbeats 16000000
set_option maxRecDepth 100000
namespace Go.Proofs.YtilanenoliopbadGreat
open Go.ChangeShapes Go.WideShapes Go.ChangeAt Go.RowKit
set_option linter.unusedSimpArgs false
set_option linter.unusedVariables false
theorem greatTypes_any (n : Nat) (l : List (TT n)) (p : Option Addr) (c : Nat) (w : World) (hl0 : LIn w All l p) :
    Rd Tryz.prog 36 #[.slice p l.length c] w (.bool (bdec (greatTs l))):=by
  have hl:Hid (LIn w All l p):=hl0;clear hl0;refine fr_enter (n:=18) Tryz.func36 rfl rfl rfl ?_;intro a hF;have hW:=Wd.start w;replace hF:Fr 18 a [(0,.slice p l.length c)]:=hF;refine wp_seq_k fun K1 hK1=>?_;refine rg hF fun ops=>?_;clear hF a;refine sa trivial rfl rfl ?_;refine St.nil fun a2 h2=>?_;refine hK1 _ _ ?_;refine wp_seq_k fun K3 hK3=>?_;refine wp_seq_k fun K4 hK4=>?_;refine rg h2 fun ops=>?_;clear h2 a2;refine sm trivial rfl rfl ?_;refine slTypes trivial rfl rfl ?_;refine sgt trivial rfl rfl rfl ?_;refine St.nil fun a5 h5=>?_;refine hK4 _ _ ?_;refine fr_cond (t:=6) h5 rfl (fun hb=>?_) (fun hb=>?_)
  ·have hlen:200<l.length:=by have:=of_decide_eq_true hb;omega
   refine wp_seq_k fun K6 hK6=>?_;refine rg h5 fun ops=>?_;clear h5 a5;refine sa trivial rfl rfl ?_;refine St.nil fun a7 h7=>?_;refine hK6 _ _ ?_;refine wp_ret ?_;with_reducible repeat first | refine of_then_ret ?_ | refine of_block_ret ?_
   have GR:greatTs l:=by first | exact .inl hlen | exact .inr ⟨x,List.mem_of_getElem? hx.out,hcx⟩
   exact ret_tmp (t:=2) h7 rfl rfl ⟨by rw [bdec_true GR],hW.bel⟩
  have hlen:l.length≤200:=by have:=of_decide_eq_false hb;omega
  refine wp_skip ?_;refine hK3 _ _ ?_;refine wp_seq_k fun K8 hK8=>?_;refine wp_seq_k fun K9 hK9=>?_;refine rg h5 fun ops=>?_;clear h5 a5;refine sa trivial rfl rfl ?_;refine St.nil fun a10 h10=>?_;refine hK9 _ _ ?_;refine wp_block ?_;refine fr_loop (fun r a w'=>∃ q:Nat,q≤l.length∧r=l.length - q∧(∀ (j:Nat) x,j<q→l[j]?=some x→x.count≤2000)∧Fr 18 a [(0,.slice p l.length c),(2,.bool false),(3,.int .i64 (q:Int))]∧Wd w w' []) l.length ⟨0,Nat.zero_le _,rfl,fun j x hj=>by omega,(h10.keep (h10.keep (h10.keep h10.nil (t:=3) rfl) (t:=2) rfl) (t:=0) rfl),hW⟩ ?_;clear h10 hW;rintro r a11 w11 ⟨q,hq,hr,hall,hF11,hW11⟩ KL hKL;refine wp_seq_k fun K12 hK12=>?_;refine wp_seq_k fun K13 hK13=>?_;refine rg hF11 fun ops=>?_;clear hF11 a11;refine sm trivial rfl rfl ?_;refine sm trivial rfl rfl ?_;refine slTypes trivial rfl rfl ?_;refine slt trivial rfl rfl rfl ?_;refine St.nil fun a14 h14=>?_;refine hK13 _ _ ?_;refine fr_cond (t:=10) h14 rfl (fun hb=>?_) (fun hb=>?_)
  ·have hlt:q<l.length:=by have:=of_decide_eq_true hb;omega
   clear hb;obtain ⟨x,hx⟩:∃ x,l[q]?=some x:=⟨_,List.getElem?_eq_getElem hlt⟩;obtain ⟨g,o,p',c',hp,E,H⟩:=lin_at hl.out hx;replace hp:Hid _:=hp;replace E:Hid _:=E;replace H:Hid _:=H;replace hx:Hid _:=hx;refine wp_skip ?_;refine hK12 _ _ ?_;refine wp_seq_k fun K15 hK15=>?_;refine wp_block ?_;refine wp_seq_k fun K16 hK16=>?_;refine rg h14 fun ops=>?_;clear h14 a14;refine sm trivial rfl rfl ?_;refine sm trivial rfl rfl ?_;refine siTypes hp.out hlt trivial rfl rfl rfl ?_;refine sSE Tryz.underlying79 rfl (rangeAt_bel E.out hW11.bel) infType trivial rfl rfl ?_;refine sc_1 cf83 hW11 (great_any n x p' c' w11 (H.out.below hW11.bel)) trivial rfl rfl ?_;clear hW11;intro w17 hW17;refine St.nil fun a18 h18=>?_;refine hK16 _ _ ?_;refine fr_cond (t:=17) h18 rfl (fun hb=>?_) (fun hb=>?_)
   ·have hcx:2000<x.count:=of_decide_eq_true hb
    refine wp_seq_k fun K19 hK19=>?_;refine rg h18 fun ops=>?_;clear h18 a18;refine sa trivial rfl rfl ?_;refine St.nil fun a20 h20=>?_;refine hK19 _ _ ?_;refine wp_ret ?_;with_reducible repeat first | refine of_then_ret ?_ | refine of_block_ret ?_
    have GR:greatTs l:=by first | exact .inl hlen | exact .inr ⟨x,List.mem_of_getElem? hx.out,hcx⟩
    exact ret_tmp (t:=2) h20 rfl rfl ⟨by rw [bdec_true GR],hW17.bel⟩
   have hcx:x.count≤2000:=by have:=of_decide_eq_false hb;omega
   refine wp_skip ?_;refine hK15 _ _ ?_;refine rg h18 fun ops=>?_;clear h18 a18;refine sm trivial rfl rfl ?_;refine sad (by omega) trivial rfl rfl rfl ?_;refine sa trivial rfl rfl ?_;refine St.nil fun a21 h21=>?_;refine hKL _ _ (l.length - (q+1)) (by omega) ⟨q+1,by omega,rfl,fun j y hj hy=>?_,(h21.keep (h21.keep (h21.keep h21.nil (t:=3) rfl) (t:=2) rfl) (t:=0) rfl),hW17⟩;by_cases e:j=q
   · subst e;rw [hx.out] at hy;cases hy;exact hcx
   · exact hall j y (by omega) hy
  have hge:q=l.length:=by have:=of_decide_eq_false hb;omega
  refine wp_exit ?_;refine hK8 _ _ ?_;refine wp_seq_k fun K22 hK22=>?_;refine rg h14 fun ops=>?_;clear h14 a14;refine sa trivial rfl rfl ?_;refine St.nil fun a23 h23=>?_;refine hK22 _ _ ?_;refine wp_ret ?_;with_reducible repeat first | refine of_then_ret ?_ | refine of_block_ret ?_
  have GR:¬ greatTs l:=by
    rintro (h | ⟨x,hx,h⟩)
    · omega
    · obtain ⟨i,hi,rfl⟩:=List.mem_iff_getElem.1 hx
      have:=hall i _ (by omega) (List.getElem?_eq_getElem hi)
      omega
  exact ret_tmp (t:=2) h23 rfl rfl ⟨by rw [bdec_false GR],hW11.bel⟩
theorem greatModule_any (n : Nat) (m : List (MFunc n)) (p : Option Addr) (c : Nat) (w : World) (hm0 : (modL n).In w All m [.slice p m.length c]) :
    Rd Tryz.prog 9 #[.agg #[.slice p m.length c]] w (.bool (bdec (greatMod m))):=by
  have hm:Hid ((modL n).In w All m [.slice p m.length c]):=hm0;clear hm0;refine fr_enter (n:=123) Tryz.func9 rfl rfl rfl ?_;intro a hF;have hW:=Wd.start w;replace hF:Fr 123 a [(0,.agg #[.slice p m.length c])]:=hF;refine wp_seq_k fun K1 hK1=>?_;refine rg hF fun ops=>?_;clear hF a;refine sB hW trivial rfl rfl ?_;clear hW;intro w2 B2 hW2 hN;clear hN;refine sa trivial rfl rfl ?_;refine St.nil fun a3 h3=>?_;refine hK1 _ _ ?_;refine wp_seq_k fun K4 hK4=>?_;refine wp_seq_k fun K5 hK5=>?_;refine rg h3 fun ops=>?_;clear h3 a3;refine sfModule0 trivial rfl rfl ?_;refine sbFuncs 0 hW2 trivial rfl rfl rfl rfl ?_;refine slFuncs trivial rfl rfl ?_;refine sgt trivial rfl rfl rfl ?_;refine St.nil fun a6 h6=>?_;refine hK5 _ _ ?_;refine fr_cond (t:=11) h6 rfl (fun hb=>?_) (fun hb=>?_)
  ·have hc7:20<m.length:=by have:=of_decide_eq_true hb;omega
   clear hb;refine wp_seq_k fun K8 hK8=>?_;refine rg h6 fun ops=>?_;clear h6 a6;refine sa trivial rfl rfl ?_;refine St.nil fun a9 h9=>?_;refine hK8 _ _ ?_;refine wp_ret ?_;with_reducible repeat first | refine of_then_ret ?_ | refine of_block_ret ?_
   have GR:greatMod m:=.inl hc7;exact ret_tmp (t:=2) h9 rfl rfl ⟨by rw [bdec_true GR],hW2.bel⟩
  have hc10:¬ (20<m.length):=by have:=of_decide_eq_false hb;omega
  clear hb;refine wp_skip ?_;refine hK4 _ _ ?_;refine wp_seq_k fun K11 hK11=>?_;refine wp_seq_k fun K12 hK12=>?_;refine rg h6 fun ops=>?_;clear h6 a6;refine sa trivial rfl rfl ?_;refine St.nil fun a13 h13=>?_;refine hK12 _ _ ?_;refine wp_block ?_;refine fr_loop (fun r a w'=>∃ q1:Nat,q1≤m.length∧r=m.length - q1∧(∀ (j:Nat) x,j<q1→m[j]?=some x→¬ x.great)∧Fr 123 a [(0,.agg #[.slice p m.length c]),(1,.pointer (some ⟨B2,0,none⟩)),(2,.bool false),(3,.int .i64 (q1:Int))]∧Wd w w' [(B2,#[.slice p m.length c],24)]) (m.length) ⟨0,Nat.zero_le _,rfl,(fun j x hj=>by omega),(h13.keep (h13.keep (h13.keep (h13.keep h13.nil (t:=3) rfl) (t:=2) rfl) (t:=1) rfl) (t:=0) rfl),hW2⟩ ?_;clear h13 hW2;rintro r1 a14 w14 ⟨q1,hq1,hr1,hall1,hF14,hW14⟩ KL1 hKL1;refine wp_seq_k fun K15 hK15=>?_;refine wp_seq_k fun K16 hK16=>?_;refine rg hF14 fun ops=>?_;clear hF14 a14;refine sm trivial rfl rfl ?_;refine sfModule0 trivial rfl rfl ?_;refine sbFuncs 0 hW14 trivial rfl rfl rfl rfl ?_;refine slFuncs trivial rfl rfl ?_;refine slt trivial rfl rfl rfl ?_;refine St.nil fun a17 h17=>?_;refine hK16 _ _ ?_;refine fr_cond (t:=16) h17 rfl (fun hb=>?_) (fun hb=>?_)
  ·have hlt1:q1<m.length:=by have:=of_decide_eq_true hb;omega
   clear hb;obtain ⟨x,hx1⟩:∃ v9,(m)[q1]?=some v9:=⟨_,List.getElem?_eq_getElem hlt1⟩;obtain ⟨g1,o1,f1,hp1,E1,In1⟩:=func_at hm.out hx1;replace In1:Hid _:=In1;replace hp1:Hid _:=hp1;replace hx1:Hid _:=hx1;replace E1:Hid _:=E1;refine wp_skip ?_;refine hK15 _ _ ?_;refine wp_seq_k fun K18 hK18=>?_;refine wp_block ?_;refine wp_seq_k fun K19 hK19=>?_;refine rg h17 fun ops=>?_;clear h17 a17;refine sfModule0 trivial rfl rfl ?_;refine sbFuncs 0 hW14 trivial rfl rfl rfl rfl ?_;refine sm trivial rfl rfl ?_;refine siFuncs hp1.out hlt1 trivial rfl rfl rfl ?_;refine sSE Tryz.underlying55 rfl (rangeAt_bel E1.out hW14.bel) infFunc trivial rfl rfl ?_;refine sAFunc hW14 trivial rfl ?_;clear hW14;intro w20 B20 hW20 hN;clear hN;refine sT 0 hW20 rfl rfl infFunc rfl rfl rfl ?_;clear hW20;intro w21 hW21;refine St.nil fun a22 h22=>?_;refine hK19 _ _ ?_;refine wp_seq_k fun K23 hK23=>?_;refine wp_seq_k fun K24 hK24=>?_;refine fr_region ?_;intro ops hops;have hg4:(ops[4]?).bind (fun o:Oper=>o.dst)=some 28:=hops 4;have hg9:(ops[9]?).bind (fun o:Oper=>o.dst)=some 33:=hops 9;clear hops;refine St.go h22 ?_;clear h22 a22;refine sfFunc3 trivial rfl rfl ?_;refine sbBlocks 0 hW21 trivial rfl rfl rfl rfl ?_;refine slBlocks trivial rfl rfl ?_;refine sgt trivial rfl rfl rfl ?_;refine sm trivial rfl rfl ?_;intro a25 h25;rcases Bool.eq_false_or_eq_true (decide (30<(x.blocks.length:Int))) with hb | hb
   ·rw [hb] at h25
    have hc26:30<x.blocks.length:=by have:=of_decide_eq_true hb;omega
    clear hb;refine St.go h25 ?_;clear h25 a25;refine so hg4 rfl rfl rfl rfl ?_;refine so hg4 rfl rfl rfl rfl ?_;refine so hg4 rfl rfl rfl rfl ?_;refine sp trivial rfl rfl rfl ?_;refine sm trivial rfl rfl ?_;refine so hg9 rfl rfl rfl rfl ?_;refine so hg9 rfl rfl rfl rfl ?_;refine so hg9 rfl rfl rfl rfl ?_;refine sp trivial rfl rfl rfl ?_;refine St.nil fun a27 h27=>?_;refine hK24 _ _ ?_;refine fr_true (t:=37) h27 rfl ?_;refine wp_seq_k fun K28 hK28=>?_;refine rg h27 fun ops=>?_;clear h27 a27;refine sa trivial rfl rfl ?_;refine St.nil fun a29 h29=>?_;refine hK28 _ _ ?_;refine wp_ret ?_;with_reducible repeat first | refine of_then_ret ?_ | refine of_block_ret ?_
    have GR:greatMod m:=.inr ⟨x,List.mem_of_getElem? hx1.out,.inl hc26⟩;exact ret_tmp (t:=2) h29 rfl rfl ⟨by rw [bdec_true GR],hW21.bel⟩
   rw [hb] at h25;have hc30:¬ (30<x.blocks.length):=by have:=of_decide_eq_false hb;omega
   clear hb;refine St.go h25 ?_;clear h25 a25;refine sfFunc1 ⟨_,hg4,rfl,rfl⟩ rfl rfl ?_;refine sbTypes 0 hW21 ⟨_,hg4,rfl,rfl⟩ rfl rfl rfl rfl ?_;refine sc_1 cf36 hW21 (greatTypes_any n x.params f1.pP f1.cP w21 ((types_lin In1.out.params).1.below hW21.bel)) ⟨_,hg4,rfl,rfl⟩ rfl rfl ?_;clear hW21;intro w31 hW31;refine spf trivial rfl rfl rfl ?_;refine sm trivial rfl rfl ?_;intro a32 h32;rcases Bool.eq_false_or_eq_true (bdec (greatTs x.params)) with hb | hb
   ·rw [hb] at h32
    have hc33:(greatTs x.params):=bdec_iff.1 hb;clear hb;refine St.go h32 ?_;clear h32 a32;refine so hg9 rfl rfl rfl rfl ?_;refine so hg9 rfl rfl rfl rfl ?_;refine so hg9 rfl rfl rfl rfl ?_;refine sp trivial rfl rfl rfl ?_;refine St.nil fun a34 h34=>?_;refine hK24 _ _ ?_;refine fr_true (t:=37) h34 rfl ?_;refine wp_seq_k fun K35 hK35=>?_;refine rg h34 fun ops=>?_;clear h34 a34;refine sa trivial rfl rfl ?_;refine St.nil fun a36 h36=>?_;refine hK35 _ _ ?_;refine wp_ret ?_;with_reducible repeat first | refine of_then_ret ?_ | refine of_block_ret ?_
    have GR:greatMod m:=.inr ⟨x,List.mem_of_getElem? hx1.out,.inr (.inl hc33)⟩;exact ret_tmp (t:=2) h36 rfl rfl ⟨by rw [bdec_true GR],hW31.bel⟩
   rw [hb] at h32;have hc37:¬ (greatTs x.params):=fun h=>by rw [bdec_true h] at hb;cases hb
   clear hb;refine St.go h32 ?_;clear h32 a32;refine sfFunc2 ⟨_,hg9,rfl,rfl⟩ rfl rfl ?_;refine sbTypes 0 hW31 ⟨_,hg9,rfl,rfl⟩ rfl rfl rfl rfl ?_;refine sc_1 cf36 hW31 (greatTypes_any n x.results f1.pR f1.cR w31 ((types_lin In1.out.results).1.below hW31.bel)) ⟨_,hg9,rfl,rfl⟩ rfl rfl ?_;clear hW31;intro w38 hW38;refine spf trivial rfl rfl rfl ?_;refine St.nil fun a39 h39=>?_;refine hK24 _ _ ?_;refine fr_cond (t:=37) h39 rfl (fun hb=>?_) (fun hb=>?_)
   ·have hc40:(greatTs x.results):=bdec_iff.1 hb
    clear hb;refine wp_seq_k fun K41 hK41=>?_;refine rg h39 fun ops=>?_;clear h39 a39;refine sa trivial rfl rfl ?_;refine St.nil fun a42 h42=>?_;refine hK41 _ _ ?_;refine wp_ret ?_;with_reducible repeat first | refine of_then_ret ?_ | refine of_block_ret ?_
    have GR:greatMod m:=.inr ⟨x,List.mem_of_getElem? hx1.out,.inr (.inr (.inl hc40))⟩;exact ret_tmp (t:=2) h42 rfl rfl ⟨by rw [bdec_true GR],hW38.bel⟩
   have hc43:¬ (greatTs x.results):=fun h=>by rw [bdec_true h] at hb;cases hb
   clear hb;refine wp_skip ?_;refine hK23 _ _ ?_;refine wp_seq_k fun K44 hK44=>?_;refine rg h39 fun ops=>?_;clear h39 a39;refine sa trivial rfl rfl ?_;refine St.nil fun a45 h45=>?_;refine hK44 _ _ ?_;refine wp_block ?_;refine fr_loop (fun r a w'=>∃ q2:Nat,q2≤x.blocks.length∧r=x.blocks.length - q2∧(∀ (j:Nat) y,j<q2→x.blocks[j]?=some y→¬ y.great)∧Fr 123 a [(0,.agg #[.slice p m.length c]),(1,.pointer (some ⟨B2,0,none⟩)),(2,.bool false),(3,.int .i64 (q1:Int)),(4,.pointer (some ⟨B20,0,none⟩)),(5,.int .i64 (q2:Int))]∧Wd w w' [(B20,#[.int .i64 x.regs,.slice f1.pP x.params.length f1.cP,.slice f1.pR x.results.length f1.cR,.slice f1.pB x.blocks.length f1.cB],55),(B2,#[.slice p m.length c],24)]) (x.blocks.length) ⟨0,Nat.zero_le _,rfl,(fun j x hj=>by omega),(h45.keep (h45.keep (h45.keep (h45.keep (h45.keep (h45.keep h45.nil (t:=5) rfl) (t:=4) rfl) (t:=3) rfl) (t:=2) rfl) (t:=1) rfl) (t:=0) rfl),hW38⟩ ?_;clear h45 hW38;rintro r2 a46 w46 ⟨q2,hq2,hr2,hall2,hF46,hW46⟩ KL2 hKL2;refine wp_seq_k fun K47 hK47=>?_;refine wp_seq_k fun K48 hK48=>?_;refine rg hF46 fun ops=>?_;clear hF46 a46;refine sm trivial rfl rfl ?_;refine sfFunc3 trivial rfl rfl ?_;refine sbBlocks 0 hW46 trivial rfl rfl rfl rfl ?_;refine slBlocks trivial rfl rfl ?_;refine slt trivial rfl rfl rfl ?_;refine St.nil fun a49 h49=>?_;refine hK48 _ _ ?_;refine fr_cond (t:=42) h49 rfl (fun hb=>?_) (fun hb=>?_)
   ·have hlt2:q2<x.blocks.length:=by have:=of_decide_eq_true hb;omega
    clear hb;obtain ⟨y,hx2⟩:∃ v9,(x.blocks)[q2]?=some v9:=⟨_,List.getElem?_eq_getElem hlt2⟩;obtain ⟨g2,o2,b2,hp2,E2,In2⟩:=block_at In1.out.blocks hx2;replace In2:Hid _:=In2;replace hp2:Hid _:=hp2;replace hx2:Hid _:=hx2;replace E2:Hid _:=E2;refine wp_skip ?_;refine hK47 _ _ ?_;refine wp_seq_k fun K50 hK50=>?_;refine wp_block ?_;refine wp_seq_k fun K51 hK51=>?_;refine rg h49 fun ops=>?_;clear h49 a49;refine sfFunc3 trivial rfl rfl ?_;refine sbBlocks 0 hW46 trivial rfl rfl rfl rfl ?_;refine sm trivial rfl rfl ?_;refine siBlocks hp2.out hlt2 trivial rfl rfl rfl ?_;refine sSE Tryz.underlying84 rfl (rangeAt_bel E2.out hW46.bel) infBlock trivial rfl rfl ?_;refine sABlock hW46 trivial rfl ?_;clear hW46;intro w52 B52 hW52 hN;clear hN;refine sT 0 hW52 rfl rfl infBlock rfl rfl rfl ?_;clear hW52;intro w53 hW53;refine St.nil fun a54 h54=>?_;refine hK51 _ _ ?_;refine wp_seq_k fun K55 hK55=>?_;refine wp_seq_k fun K56 hK56=>?_;refine fr_region ?_;intro ops hops;have hg4:(ops[4]?).bind (fun o:Oper=>o.dst)=some 54:=hops 4;have hg9:(ops[9]?).bind (fun o:Oper=>o.dst)=some 59:=hops 9;have hg16:(ops[16]?).bind (fun o:Oper=>o.dst)=some 66:=hops 16;have hg24:(ops[24]?).bind (fun o:Oper=>o.dst)=some 74:=hops 24;have hg32:(ops[32]?).bind (fun o:Oper=>o.dst)=some 82:=hops 32;have hg40:(ops[40]?).bind (fun o:Oper=>o.dst)=some 90:=hops 40;clear hops;refine St.go h54 ?_;clear h54 a54;refine sfBlock2 trivial rfl rfl ?_;refine sbInss 0 hW53 trivial rfl rfl rfl rfl ?_;refine slInss trivial rfl rfl ?_;refine sgt trivial rfl rfl rfl ?_;refine sm trivial rfl rfl ?_;intro a57 h57;rcases Bool.eq_false_or_eq_true (decide (200<(y.code.length:Int))) with hb | hb
    ·rw [hb] at h57
     have hc58:200<y.code.length:=by have:=of_decide_eq_true hb;omega
     clear hb;refine St.go h57 ?_;clear h57 a57;refine so hg4 rfl rfl rfl rfl ?_;refine so hg4 rfl rfl rfl rfl ?_;refine so hg4 rfl rfl rfl rfl ?_;refine sp trivial rfl rfl rfl ?_;refine sm trivial rfl rfl ?_;refine so hg9 rfl rfl rfl rfl ?_;refine so hg9 rfl rfl rfl rfl ?_;refine so hg9 rfl rfl rfl rfl ?_;refine so hg9 rfl rfl rfl rfl ?_;refine so hg9 rfl rfl rfl rfl ?_;refine sp trivial rfl rfl rfl ?_;refine sm trivial rfl rfl ?_;refine so hg16 rfl rfl rfl rfl ?_;refine so hg16 rfl rfl rfl rfl ?_;refine so hg16 rfl rfl rfl rfl ?_;refine so hg16 rfl rfl rfl rfl ?_;refine so hg16 rfl rfl rfl rfl ?_;refine so hg16 rfl rfl rfl rfl ?_;refine sp trivial rfl rfl rfl ?_;refine sm trivial rfl rfl ?_;refine so hg24 rfl rfl rfl rfl ?_;refine so hg24 rfl rfl rfl rfl ?_;refine so hg24 rfl rfl rfl rfl ?_;refine so hg24 rfl rfl rfl rfl ?_;refine so hg24 rfl rfl rfl rfl ?_;refine so hg24 rfl rfl rfl rfl ?_;refine sp trivial rfl rfl rfl ?_;refine sm trivial rfl rfl ?_;refine so hg32 rfl rfl rfl rfl ?_;refine so hg32 rfl rfl rfl rfl ?_;refine so hg32 rfl rfl rfl rfl ?_;refine so hg32 rfl rfl rfl rfl ?_;refine so hg32 rfl rfl rfl rfl ?_;refine so hg32 rfl rfl rfl rfl ?_;refine sp trivial rfl rfl rfl ?_;refine sm trivial rfl rfl ?_;refine so hg40 rfl rfl rfl rfl ?_;refine so hg40 rfl rfl rfl rfl ?_;refine so hg40 rfl rfl rfl rfl ?_;refine so hg40 rfl rfl rfl rfl ?_;refine so hg40 rfl rfl rfl rfl ?_;refine so hg40 rfl rfl rfl rfl ?_;refine sp trivial rfl rfl rfl ?_;refine St.nil fun a59 h59=>?_;refine hK56 _ _ ?_;refine fr_true (t:=97) h59 rfl ?_;refine wp_seq_k fun K60 hK60=>?_;refine rg h59 fun ops=>?_;clear h59 a59;refine sa trivial rfl rfl ?_;refine St.nil fun a61 h61=>?_;refine hK60 _ _ ?_;refine wp_ret ?_;with_reducible repeat first | refine of_then_ret ?_ | refine of_block_ret ?_
     have GR:greatMod m:=.inr ⟨x,List.mem_of_getElem? hx1.out,.inr (.inr (.inr ⟨y,List.mem_of_getElem? hx2.out,.inl hc58⟩))⟩;exact ret_tmp (t:=2) h61 rfl rfl ⟨by rw [bdec_true GR],hW53.bel⟩
    rw [hb] at h57;have hc62:¬ (200<y.code.length):=by have:=of_decide_eq_false hb;omega
    clear hb;refine St.go h57 ?_;clear h57 a57;refine sfBlock1 ⟨_,hg4,rfl,rfl⟩ rfl rfl ?_;refine sbTypes 0 hW53 ⟨_,hg4,rfl,rfl⟩ rfl rfl rfl rfl ?_;refine sc_1 cf36 hW53 (greatTypes_any n y.params b2.pP b2.cP w53 ((types_lin In2.out.params).1.below hW53.bel)) ⟨_,hg4,rfl,rfl⟩ rfl rfl ?_;clear hW53;intro w63 hW63;refine spf trivial rfl rfl rfl ?_;refine sm trivial rfl rfl ?_;intro a64 h64;rcases Bool.eq_false_or_eq_true (bdec (greatTs y.params)) with hb | hb
    ·rw [hb] at h64
     have hc65:(greatTs y.params):=bdec_iff.1 hb;clear hb;refine St.go h64 ?_;clear h64 a64;refine so hg9 rfl rfl rfl rfl ?_;refine so hg9 rfl rfl rfl rfl ?_;refine so hg9 rfl rfl rfl rfl ?_;refine so hg9 rfl rfl rfl rfl ?_;refine so hg9 rfl rfl rfl rfl ?_;refine sp trivial rfl rfl rfl ?_;refine sm trivial rfl rfl ?_;refine so hg16 rfl rfl rfl rfl ?_;refine so hg16 rfl rfl rfl rfl ?_;refine so hg16 rfl rfl rfl rfl ?_;refine so hg16 rfl rfl rfl rfl ?_;refine so hg16 rfl rfl rfl rfl ?_;refine so hg16 rfl rfl rfl rfl ?_;refine sp trivial rfl rfl rfl ?_;refine sm trivial rfl rfl ?_;refine so hg24 rfl rfl rfl rfl ?_;refine so hg24 rfl rfl rfl rfl ?_;refine so hg24 rfl rfl rfl rfl ?_;refine so hg24 rfl rfl rfl rfl ?_;refine so hg24 rfl rfl rfl rfl ?_;refine so hg24 rfl rfl rfl rfl ?_;refine sp trivial rfl rfl rfl ?_;refine sm trivial rfl rfl ?_;refine so hg32 rfl rfl rfl rfl ?_;refine so hg32 rfl rfl rfl rfl ?_;refine so hg32 rfl rfl rfl rfl ?_;refine so hg32 rfl rfl rfl rfl ?_;refine so hg32 rfl rfl rfl rfl ?_;refine so hg32 rfl rfl rfl rfl ?_;refine sp trivial rfl rfl rfl ?_;refine sm trivial rfl rfl ?_;refine so hg40 rfl rfl rfl rfl ?_;refine so hg40 rfl rfl rfl rfl ?_;refine so hg40 rfl rfl rfl rfl ?_;refine so hg40 rfl rfl rfl rfl ?_;refine so hg40 rfl rfl rfl rfl ?_;refine so hg40 rfl rfl rfl rfl ?_;refine sp trivial rfl rfl rfl ?_;refine St.nil fun a66 h66=>?_;refine hK56 _ _ ?_;refine fr_true (t:=97) h66 rfl ?_;refine wp_seq_k fun K67 hK67=>?_;refine rg h66 fun ops=>?_;clear h66 a66;refine sa trivial rfl rfl ?_;refine St.nil fun a68 h68=>?_;refine hK67 _ _ ?_;refine wp_ret ?_;with_reducible repeat first | refine of_then_ret ?_ | refine of_block_ret ?_
     have GR:greatMod m:=.inr ⟨x,List.mem_of_getElem? hx1.out,.inr (.inr (.inr ⟨y,List.mem_of_getElem? hx2.out,.inr (.inl hc65)⟩))⟩;exact ret_tmp (t:=2) h68 rfl rfl ⟨by rw [bdec_true GR],hW63.bel⟩
    rw [hb] at h64;have hc69:¬ (greatTs y.params):=fun h=>by rw [bdec_true h] at hb;cases hb
    clear hb;refine St.go h64 ?_;clear h64 a64;refine sfBlock3 ⟨_,hg9,rfl,rfl⟩ rfl rfl ?_;refine sfEnd4 ⟨_,hg9,rfl,rfl⟩ rfl rfl ?_;refine sbInts 0 hW63 ⟨_,hg9,rfl,rfl⟩ rfl rfl rfl rfl ?_;refine slInts ⟨_,hg9,rfl,rfl⟩ rfl rfl ?_;refine sgt ⟨_,hg9,rfl,rfl⟩ rfl rfl rfl ?_;refine spf trivial rfl rfl rfl ?_;refine sm trivial rfl rfl ?_;intro a70 h70;rcases Bool.eq_false_or_eq_true (decide (300<(y.fin.args.length:Int))) with hb | hb
    ·rw [hb] at h70
     have hc71:300<y.fin.args.length:=by have:=of_decide_eq_true hb;omega
     clear hb;refine St.go h70 ?_;clear h70 a70;refine so hg16 rfl rfl rfl rfl ?_;refine so hg16 rfl rfl rfl rfl ?_;refine so hg16 rfl rfl rfl rfl ?_;refine so hg16 rfl rfl rfl rfl ?_;refine so hg16 rfl rfl rfl rfl ?_;refine so hg16 rfl rfl rfl rfl ?_;refine sp trivial rfl rfl rfl ?_;refine sm trivial rfl rfl ?_;refine so hg24 rfl rfl rfl rfl ?_;refine so hg24 rfl rfl rfl rfl ?_;refine so hg24 rfl rfl rfl rfl ?_;refine so hg24 rfl rfl rfl rfl ?_;refine so hg24 rfl rfl rfl rfl ?_;refine so hg24 rfl rfl rfl rfl ?_;refine sp trivial rfl rfl rfl ?_;refine sm trivial rfl rfl ?_;refine so hg32 rfl rfl rfl rfl ?_;refine so hg32 rfl rfl rfl rfl ?_;refine so hg32 rfl rfl rfl rfl ?_;refine so hg32 rfl rfl rfl rfl ?_;refine so hg32 rfl rfl rfl rfl ?_;refine so hg32 rfl rfl rfl rfl ?_;refine sp trivial rfl rfl rfl ?_;refine sm trivial rfl rfl ?_;refine so hg40 rfl rfl rfl rfl ?_;refine so hg40 rfl rfl rfl rfl ?_;refine so hg40 rfl rfl rfl rfl ?_;refine so hg40 rfl rfl rfl rfl ?_;refine so hg40 rfl rfl rfl rfl ?_;refine so hg40 rfl rfl rfl rfl ?_;refine sp trivial rfl rfl rfl ?_;refine St.nil fun a72 h72=>?_;refine hK56 _ _ ?_;refine fr_true (t:=97) h72 rfl ?_;refine wp_seq_k fun K73 hK73=>?_;refine rg h72 fun ops=>?_;clear h72 a72;refine sa trivial rfl rfl ?_;refine St.nil fun a74 h74=>?_;refine hK73 _ _ ?_;refine wp_ret ?_;with_reducible repeat first | refine of_then_ret ?_ | refine of_block_ret ?_
     have GR:greatMod m:=.inr ⟨x,List.mem_of_getElem? hx1.out,.inr (.inr (.inr ⟨y,List.mem_of_getElem? hx2.out,.inr (.inr (.inl hc71))⟩))⟩;exact ret_tmp (t:=2) h74 rfl rfl ⟨by rw [bdec_true GR],hW63.bel⟩
    rw [hb] at h70;have hc75:¬ (300<y.fin.args.length):=by have:=of_decide_eq_false hb;omega
    clear hb;refine St.go h70 ?_;clear h70 a70;refine sfBlock3 ⟨_,hg16,rfl,rfl⟩ rfl rfl ?_;refine sfEnd2 ⟨_,hg16,rfl,rfl⟩ rfl rfl ?_;refine sfTo1 ⟨_,hg16,rfl,rfl⟩ rfl rfl ?_;refine sbInts 0 hW63 ⟨_,hg16,rfl,rfl⟩ rfl rfl rfl rfl ?_;refine slInts ⟨_,hg16,rfl,rfl⟩ rfl rfl ?_;refine sgt ⟨_,hg16,rfl,rfl⟩ rfl rfl rfl ?_;refine spf trivial rfl rfl rfl ?_;refine sm trivial rfl rfl ?_;intro a76 h76;rcases Bool.eq_false_or_eq_true (decide (300<(y.fin.yes.regs.length:Int))) with hb | hb
    ·rw [hb] at h76
     have hc77:300<y.fin.yes.regs.length:=by have:=of_decide_eq_true hb;omega
     clear hb;refine St.go h76 ?_;clear h76 a76;refine so hg24 rfl rfl rfl rfl ?_;refine so hg24 rfl rfl rfl rfl ?_;refine so hg24 rfl rfl rfl rfl ?_;refine so hg24 rfl rfl rfl rfl ?_;refine so hg24 rfl rfl rfl rfl ?_;refine so hg24 rfl rfl rfl rfl ?_;refine sp trivial rfl rfl rfl ?_;refine sm trivial rfl rfl ?_;refine so hg32 rfl rfl rfl rfl ?_;refine so hg32 rfl rfl rfl rfl ?_;refine so hg32 rfl rfl rfl rfl ?_;refine so hg32 rfl rfl rfl rfl ?_;refine so hg32 rfl rfl rfl rfl ?_;refine so hg32 rfl rfl rfl rfl ?_;refine sp trivial rfl rfl rfl ?_;refine sm trivial rfl rfl ?_;refine so hg40 rfl rfl rfl rfl ?_;refine so hg40 rfl rfl rfl rfl ?_;refine so hg40 rfl rfl rfl rfl ?_;refine so hg40 rfl rfl rfl rfl ?_;refine so hg40 rfl rfl rfl rfl ?_;refine so hg40 rfl rfl rfl rfl ?_;refine sp trivial rfl rfl rfl ?_;refine St.nil fun a78 h78=>?_;refine hK56 _ _ ?_;refine fr_true (t:=97) h78 rfl ?_;refine wp_seq_k fun K79 hK79=>?_;refine rg h78 fun ops=>?_;clear h78 a78;refine sa trivial rfl rfl ?_;refine St.nil fun a80 h80=>?_;refine hK79 _ _ ?_;refine wp_ret ?_;with_reducible repeat first | refine of_then_ret ?_ | refine of_block_ret ?_
     have GR:greatMod m:=.inr ⟨x,List.mem_of_getElem? hx1.out,.inr (.inr (.inr ⟨y,List.mem_of_getElem? hx2.out,.inr (.inr (.inr (.inl hc77)))⟩))⟩;exact ret_tmp (t:=2) h80 rfl rfl ⟨by rw [bdec_true GR],hW63.bel⟩
    rw [hb] at h76;have hc81:¬ (300<y.fin.yes.regs.length):=by have:=of_decide_eq_false hb;omega
    clear hb;refine St.go h76 ?_;clear h76 a76;refine sfBlock3 ⟨_,hg24,rfl,rfl⟩ rfl rfl ?_;refine sfEnd2 ⟨_,hg24,rfl,rfl⟩ rfl rfl ?_;refine sfTo2 ⟨_,hg24,rfl,rfl⟩ rfl rfl ?_;refine sbInts 0 hW63 ⟨_,hg24,rfl,rfl⟩ rfl rfl rfl rfl ?_;refine slInts ⟨_,hg24,rfl,rfl⟩ rfl rfl ?_;refine sgt ⟨_,hg24,rfl,rfl⟩ rfl rfl rfl ?_;refine spf trivial rfl rfl rfl ?_;refine sm trivial rfl rfl ?_;intro a82 h82;rcases Bool.eq_false_or_eq_true (decide (300<(y.fin.yes.args.length:Int))) with hb | hb
    ·rw [hb] at h82
     have hc83:300<y.fin.yes.args.length:=by have:=of_decide_eq_true hb;omega
     clear hb;refine St.go h82 ?_;clear h82 a82;refine so hg32 rfl rfl rfl rfl ?_;refine so hg32 rfl rfl rfl rfl ?_;refine so hg32 rfl rfl rfl rfl ?_;refine so hg32 rfl rfl rfl rfl ?_;refine so hg32 rfl rfl rfl rfl ?_;refine so hg32 rfl rfl rfl rfl ?_;refine sp trivial rfl rfl rfl ?_;refine sm trivial rfl rfl ?_;refine so hg40 rfl rfl rfl rfl ?_;refine so hg40 rfl rfl rfl rfl ?_;refine so hg40 rfl rfl rfl rfl ?_;refine so hg40 rfl rfl rfl rfl ?_;refine so hg40 rfl rfl rfl rfl ?_;refine so hg40 rfl rfl rfl rfl ?_;refine sp trivial rfl rfl rfl ?_;refine St.nil fun a84 h84=>?_;refine hK56 _ _ ?_;refine fr_true (t:=97) h84 rfl ?_;refine wp_seq_k fun K85 hK85=>?_;refine rg h84 fun ops=>?_;clear h84 a84;refine sa trivial rfl rfl ?_;refine St.nil fun a86 h86=>?_;refine hK85 _ _ ?_;refine wp_ret ?_;with_reducible repeat first | refine of_then_ret ?_ | refine of_block_ret ?_
     have GR:greatMod m:=.inr ⟨x,List.mem_of_getElem? hx1.out,.inr (.inr (.inr ⟨y,List.mem_of_getElem? hx2.out,.inr (.inr (.inr (.inr (.inl hc83))))⟩))⟩;exact ret_tmp (t:=2) h86 rfl rfl ⟨by rw [bdec_true GR],hW63.bel⟩
    rw [hb] at h82;have hc87:¬ (300<y.fin.yes.args.length):=by have:=of_decide_eq_false hb;omega
    clear hb;refine St.go h82 ?_;clear h82 a82;refine sfBlock3 ⟨_,hg32,rfl,rfl⟩ rfl rfl ?_;refine sfEnd3 ⟨_,hg32,rfl,rfl⟩ rfl rfl ?_;refine sfTo1 ⟨_,hg32,rfl,rfl⟩ rfl rfl ?_;refine sbInts 0 hW63 ⟨_,hg32,rfl,rfl⟩ rfl rfl rfl rfl ?_;refine slInts ⟨_,hg32,rfl,rfl⟩ rfl rfl ?_;refine sgt ⟨_,hg32,rfl,rfl⟩ rfl rfl rfl ?_;refine spf trivial rfl rfl rfl ?_;refine sm trivial rfl rfl ?_;intro a88 h88;rcases Bool.eq_false_or_eq_true (decide (300<(y.fin.no.regs.length:Int))) with hb | hb
    ·rw [hb] at h88
     have hc89:300<y.fin.no.regs.length:=by have:=of_decide_eq_true hb;omega
     clear hb;refine St.go h88 ?_;clear h88 a88;refine so hg40 rfl rfl rfl rfl ?_;refine so hg40 rfl rfl rfl rfl ?_;refine so hg40 rfl rfl rfl rfl ?_;refine so hg40 rfl rfl rfl rfl ?_;refine so hg40 rfl rfl rfl rfl ?_;refine so hg40 rfl rfl rfl rfl ?_;refine sp trivial rfl rfl rfl ?_;refine St.nil fun a90 h90=>?_;refine hK56 _ _ ?_;refine fr_true (t:=97) h90 rfl ?_;refine wp_seq_k fun K91 hK91=>?_;refine rg h90 fun ops=>?_;clear h90 a90;refine sa trivial rfl rfl ?_;refine St.nil fun a92 h92=>?_;refine hK91 _ _ ?_;refine wp_ret ?_;with_reducible repeat first | refine of_then_ret ?_ | refine of_block_ret ?_
     have GR:greatMod m:=.inr ⟨x,List.mem_of_getElem? hx1.out,.inr (.inr (.inr ⟨y,List.mem_of_getElem? hx2.out,.inr (.inr (.inr (.inr (.inr (.inl hc89)))))⟩))⟩;exact ret_tmp (t:=2) h92 rfl rfl ⟨by rw [bdec_true GR],hW63.bel⟩
    rw [hb] at h88;have hc93:¬ (300<y.fin.no.regs.length):=by have:=of_decide_eq_false hb;omega
    clear hb;refine St.go h88 ?_;clear h88 a88;refine sfBlock3 ⟨_,hg40,rfl,rfl⟩ rfl rfl ?_;refine sfEnd3 ⟨_,hg40,rfl,rfl⟩ rfl rfl ?_;refine sfTo2 ⟨_,hg40,rfl,rfl⟩ rfl rfl ?_;refine sbInts 0 hW63 ⟨_,hg40,rfl,rfl⟩ rfl rfl rfl rfl ?_;refine slInts ⟨_,hg40,rfl,rfl⟩ rfl rfl ?_;refine sgt ⟨_,hg40,rfl,rfl⟩ rfl rfl rfl ?_;refine spf trivial rfl rfl rfl ?_;refine St.nil fun a94 h94=>?_;refine hK56 _ _ ?_;refine fr_cond (t:=97) h94 rfl (fun hb=>?_) (fun hb=>?_)
    ·have hc95:300<y.fin.no.args.length:=by have:=of_decide_eq_true hb;omega
     clear hb;refine wp_seq_k fun K96 hK96=>?_;refine rg h94 fun ops=>?_;clear h94 a94;refine sa trivial rfl rfl ?_;refine St.nil fun a97 h97=>?_;refine hK96 _ _ ?_;refine wp_ret ?_;with_reducible repeat first | refine of_then_ret ?_ | refine of_block_ret ?_
     have GR:greatMod m:=.inr ⟨x,List.mem_of_getElem? hx1.out,.inr (.inr (.inr ⟨y,List.mem_of_getElem? hx2.out,.inr (.inr (.inr (.inr (.inr (.inr (.inl hc95))))))⟩))⟩;exact ret_tmp (t:=2) h97 rfl rfl ⟨by rw [bdec_true GR],hW63.bel⟩
    have hc98:¬ (300<y.fin.no.args.length):=by have:=of_decide_eq_false hb;omega
    clear hb;refine wp_skip ?_;refine hK55 _ _ ?_;refine wp_seq_k fun K99 hK99=>?_;refine rg h94 fun ops=>?_;clear h94 a94;refine sa trivial rfl rfl ?_;refine St.nil fun a100 h100=>?_;refine hK99 _ _ ?_;refine wp_block ?_;refine fr_loop (fun r a w'=>∃ q3:Nat,q3≤y.code.length∧r=y.code.length - q3∧(∀ (j:Nat) z,j<q3→y.code[j]?=some z→¬ (300<z.regs.length)∧¬ (300<z.args.length))∧Fr 123 a [(0,.agg #[.slice p m.length c]),(1,.pointer (some ⟨B2,0,none⟩)),(2,.bool false),(3,.int .i64 (q1:Int)),(4,.pointer (some ⟨B20,0,none⟩)),(5,.int .i64 (q2:Int)),(6,.pointer (some ⟨B52,0,none⟩)),(7,.int .i64 (q3:Int))]∧Wd w w' [(B52,#[.int .i64 y.regs,.slice b2.pP y.params.length b2.cP,.slice b2.pC y.code.length b2.cC,.int .i64 y.fin.op,.int .i64 y.fin.a,.int .i64 y.fin.yes.block,.slice b2.e.pYR y.fin.yes.regs.length b2.e.cYR,.slice b2.e.pYA y.fin.yes.args.length b2.e.cYA,.int .i64 y.fin.no.block,.slice b2.e.pNR y.fin.no.regs.length b2.e.cNR,.slice b2.e.pNA y.fin.no.args.length b2.e.cNA,.slice b2.e.pA y.fin.args.length b2.e.cA],84),(B20,#[.int .i64 x.regs,.slice f1.pP x.params.length f1.cP,.slice f1.pR x.results.length f1.cR,.slice f1.pB x.blocks.length f1.cB],55),(B2,#[.slice p m.length c],24)]) (y.code.length) ⟨0,Nat.zero_le _,rfl,(fun j x hj=>by omega),(h100.keep (h100.keep (h100.keep (h100.keep (h100.keep (h100.keep (h100.keep (h100.keep h100.nil (t:=7) rfl) (t:=6) rfl) (t:=5) rfl) (t:=4) rfl) (t:=3) rfl) (t:=2) rfl) (t:=1) rfl) (t:=0) rfl),hW63⟩ ?_;clear h100 hW63;rintro r3 a101 w101 ⟨q3,hq3,hr3,hall3,hF101,hW101⟩ KL3 hKL3;refine wp_seq_k fun K102 hK102=>?_;refine wp_seq_k fun K103 hK103=>?_;refine rg hF101 fun ops=>?_;clear hF101 a101;refine sm trivial rfl rfl ?_;refine sfBlock2 trivial rfl rfl ?_;refine sbInss 0 hW101 trivial rfl rfl rfl rfl ?_;refine slInss trivial rfl rfl ?_;refine slt trivial rfl rfl rfl ?_;refine St.nil fun a104 h104=>?_;refine hK103 _ _ ?_;refine fr_cond (t:=102) h104 rfl (fun hb=>?_) (fun hb=>?_)
    ·have hlt3:q3<y.code.length:=by have:=of_decide_eq_true hb;omega
     clear hb;obtain ⟨z,hx3⟩:∃ v9,(y.code)[q3]?=some v9:=⟨_,List.getElem?_eq_getElem hlt3⟩;obtain ⟨g3,o3,i3,hp3,E3,In3⟩:=ins_at In2.out.code hx3;replace In3:Hid _:=In3;replace hp3:Hid _:=hp3;replace hx3:Hid _:=hx3;replace E3:Hid _:=E3;refine wp_skip ?_;refine hK102 _ _ ?_;refine wp_seq_k fun K105 hK105=>?_;refine wp_block ?_;refine wp_seq_k fun K106 hK106=>?_;refine fr_region ?_;intro ops hops;have hg8:(ops[8]?).bind (fun o:Oper=>o.dst)=some 113:=hops 8;clear hops;refine St.go h104 ?_;clear h104 a104;refine sfBlock2 trivial rfl rfl ?_;refine sbInss 0 hW101 trivial rfl rfl rfl rfl ?_;refine sm trivial rfl rfl ?_;refine siInss hp3.out hlt3 trivial rfl rfl rfl ?_;refine sfIns6 trivial rfl rfl ?_;refine scInts (bel_cell hW101.bel (E3.out 6 _ rfl)) trivial rfl rfl ?_;refine slInts trivial rfl rfl ?_;refine sgt trivial rfl rfl rfl ?_;refine sm trivial rfl rfl ?_;intro a107 h107;rcases Bool.eq_false_or_eq_true (decide (300<(z.regs.length:Int))) with hb | hb
     ·rw [hb] at h107
      have hc108:300<z.regs.length:=by have:=of_decide_eq_true hb;omega
      clear hb;refine St.go h107 ?_;clear h107 a107;refine so hg8 rfl rfl rfl rfl ?_;refine so hg8 rfl rfl rfl rfl ?_;refine so hg8 rfl rfl rfl rfl ?_;refine so hg8 rfl rfl rfl rfl ?_;refine so hg8 rfl rfl rfl rfl ?_;refine so hg8 rfl rfl rfl rfl ?_;refine so hg8 rfl rfl rfl rfl ?_;refine so hg8 rfl rfl rfl rfl ?_;refine sp trivial rfl rfl rfl ?_;refine St.nil fun a109 h109=>?_;refine hK106 _ _ ?_;refine fr_true (t:=122) h109 rfl ?_;refine wp_seq_k fun K110 hK110=>?_;refine rg h109 fun ops=>?_;clear h109 a109;refine sa trivial rfl rfl ?_;refine St.nil fun a111 h111=>?_;refine hK110 _ _ ?_;refine wp_ret ?_;with_reducible repeat first | refine of_then_ret ?_ | refine of_block_ret ?_
      have GR:greatMod m:=.inr ⟨x,List.mem_of_getElem? hx1.out,.inr (.inr (.inr ⟨y,List.mem_of_getElem? hx2.out,.inr (.inr (.inr (.inr (.inr (.inr (.inr ⟨z,List.mem_of_getElem? hx3.out,.inl hc108⟩))))))⟩))⟩;exact ret_tmp (t:=2) h111 rfl rfl ⟨by rw [bdec_true GR],hW101.bel⟩
     rw [hb] at h107;have hc112:¬ (300<z.regs.length):=by have:=of_decide_eq_false hb;omega
     clear hb;refine St.go h107 ?_;clear h107 a107;refine sfBlock2 ⟨_,hg8,rfl,rfl⟩ rfl rfl ?_;refine sbInss 0 hW101 ⟨_,hg8,rfl,rfl⟩ rfl rfl rfl rfl ?_;refine sm ⟨_,hg8,rfl,rfl⟩ rfl rfl ?_;refine siInss hp3.out hlt3 ⟨_,hg8,rfl,rfl⟩ rfl rfl rfl ?_;refine sfIns7 ⟨_,hg8,rfl,rfl⟩ rfl rfl ?_;refine scInts (bel_cell hW101.bel (E3.out 7 _ rfl)) ⟨_,hg8,rfl,rfl⟩ rfl rfl ?_;refine slInts ⟨_,hg8,rfl,rfl⟩ rfl rfl ?_;refine sgt ⟨_,hg8,rfl,rfl⟩ rfl rfl rfl ?_;refine spf trivial rfl rfl rfl ?_;refine St.nil fun a113 h113=>?_;refine hK106 _ _ ?_;refine fr_cond (t:=122) h113 rfl (fun hb=>?_) (fun hb=>?_)
     ·have hc114:300<z.args.length:=by have:=of_decide_eq_true hb;omega
      clear hb;refine wp_seq_k fun K115 hK115=>?_;refine rg h113 fun ops=>?_;clear h113 a113;refine sa trivial rfl rfl ?_;refine St.nil fun a116 h116=>?_;refine hK115 _ _ ?_;refine wp_ret ?_;with_reducible repeat first | refine of_then_ret ?_ | refine of_block_ret ?_
      have GR:greatMod m:=.inr ⟨x,List.mem_of_getElem? hx1.out,.inr (.inr (.inr ⟨y,List.mem_of_getElem? hx2.out,.inr (.inr (.inr (.inr (.inr (.inr (.inr ⟨z,List.mem_of_getElem? hx3.out,.inr hc114⟩))))))⟩))⟩;exact ret_tmp (t:=2) h116 rfl rfl ⟨by rw [bdec_true GR],hW101.bel⟩
     have hc117:¬ (300<z.args.length):=by have:=of_decide_eq_false hb;omega
     clear hb;refine wp_skip ?_;refine hK105 _ _ ?_;refine rg h113 fun ops=>?_;clear h113 a113;refine sm trivial rfl rfl ?_;refine sad (by omega) trivial rfl rfl rfl ?_;refine sa trivial rfl rfl ?_;refine St.nil fun a118 h118=>?_;refine hKL3 _ _ (y.code.length - (q3+1)) (by omega) ⟨q3+1,by omega,rfl,?_,(h118.keep (h118.keep (h118.keep (h118.keep (h118.keep (h118.keep (h118.keep (h118.keep h118.nil (t:=7) rfl) (t:=6) rfl) (t:=5) rfl) (t:=4) rfl) (t:=3) rfl) (t:=2) rfl) (t:=1) rfl) (t:=0) rfl),hW101⟩
     ·intro j y hj hy
      by_cases e:j=q3
      · subst e;rw [hx3.out] at hy;cases hy;exact ⟨hc112,hc117⟩
      · exact hall3 j y (by omega) hy
    have hge3:q3=y.code.length:=by have:=of_decide_eq_false hb;omega
    clear hb
    have NG2:¬ y.great:=by
      rintro (h | h | h | h | h | h | h | ⟨z,hz,h⟩)
      · exact absurd h hc62
      · exact absurd h hc69
      · exact absurd h hc75
      · exact absurd h hc81
      · exact absurd h hc87
      · exact absurd h hc93
      · exact absurd h hc98
      · obtain ⟨i,hi,rfl⟩:=List.mem_iff_getElem.1 hz
        have:=hall3 i _ (by omega) (List.getElem?_eq_getElem hi)
        omega
    refine wp_exit ?_;refine hK50 _ _ ?_;refine rg h104 fun ops=>?_;clear h104 a104;refine sm trivial rfl rfl ?_;refine sad (by omega) trivial rfl rfl rfl ?_;refine sa trivial rfl rfl ?_;refine St.nil fun a119 h119=>?_;refine hKL2 _ _ (x.blocks.length - (q2+1)) (by omega) ⟨q2+1,by omega,rfl,?_,(h119.keep (h119.keep (h119.keep (h119.keep (h119.keep (h119.keep h119.nil (t:=5) rfl) (t:=4) rfl) (t:=3) rfl) (t:=2) rfl) (t:=1) rfl) (t:=0) rfl),hW101.tail⟩
    ·intro j y hj hy
     by_cases e:j=q2
     · subst e;rw [hx2.out] at hy;cases hy;exact NG2
     · exact hall2 j y (by omega) hy
   have hge2:q2=x.blocks.length:=by have:=of_decide_eq_false hb;omega
   clear hb
   have NG1:¬ x.great:=by
     rintro (h | h | h | ⟨y,hy,h⟩)
     · exact absurd h hc30
     · exact absurd h hc37
     · exact absurd h hc43
     · obtain ⟨i,hi,rfl⟩:=List.mem_iff_getElem.1 hy;exact hall2 i _ (by omega) (List.getElem?_eq_getElem hi) h
   refine wp_exit ?_;refine hK18 _ _ ?_;refine rg h49 fun ops=>?_;clear h49 a49;refine sm trivial rfl rfl ?_;refine sad (by omega) trivial rfl rfl rfl ?_;refine sa trivial rfl rfl ?_;refine St.nil fun a120 h120=>?_;refine hKL1 _ _ (m.length - (q1+1)) (by omega) ⟨q1+1,by omega,rfl,?_,(h120.keep (h120.keep (h120.keep (h120.keep h120.nil (t:=3) rfl) (t:=2) rfl) (t:=1) rfl) (t:=0) rfl),hW46.tail⟩
   ·intro j y hj hy
    by_cases e:j=q1
    · subst e;rw [hx1.out] at hy;cases hy;exact NG1
    · exact hall1 j y (by omega) hy
  have hge1:q1=m.length:=by have:=of_decide_eq_false hb;omega
  clear hb;refine wp_exit ?_;refine hK11 _ _ ?_;refine wp_seq_k fun K121 hK121=>?_;refine rg h17 fun ops=>?_;clear h17 a17;refine sa trivial rfl rfl ?_;refine St.nil fun a122 h122=>?_;refine hK121 _ _ ?_;refine wp_ret ?_;with_reducible repeat first | refine of_then_ret ?_ | refine of_block_ret ?_
  have GR:¬ greatMod m:=by
    rintro (h | ⟨x,hx,h⟩)
    · omega
    · obtain ⟨i,hi,rfl⟩:=List.mem_iff_getElem.1 hx;exact hall1 i _ (by omega) (List.getElem?_eq_getElem hi) h
  exact ret_tmp (t:=2) h122 rfl rfl ⟨by rw [bdec_false GR],hW14.bel⟩
theorem jheld_no {n : Nat} {w : World} {m : List (MFunc n)} {p a1 : Option Addr} {c N c1 : Nat} (f b : Int) (hm : (modL n).In w All m [.slice p m.length c]) (hno : greatMod m ∨ 150 < (N : Int) ∨ (modFault m).1 ≠ 0) :
    Calls Tryz.prog 7 #[.agg #[.slice p m.length c],.int .i64 f,.int .i64 b,.slice a1 N c1] w fun e w'=>e=.returned (.bool true)∧Below w.heap.size w w':=by
  have b1:=bel1 w (.cells #[.slice p m.length c] 24);have HM:Hid ((modL n).In w All m [.slice p m.length c]):=hm;have HB:=hid_of b1;have x0:=cellOf (blockNew w #[.slice p m.length c] 24) 0 _ rfl;have HNO:=hid_of hno;clear hm b1 hno;go_enter Tryz.func7,Tryz.ntmps7
  go_upto_region 1 with fail
  generalize hw1:w.alloc (.cells #[.slice p m.length c] 24)=w1 at HB x0 ⊢;clear hw1;obtain ⟨X,hX⟩:∃ X,w.heap.size=X:=⟨_,rfl⟩;rw [hX] at x0 ⊢;rw [← hX];have HXE:=hid_of hX;go_wp2_with fail
  refine (judgeBegun_any w1).mono ?_;rintro e2 w2 ⟨rfl,b2⟩;have HB2:=hid_of (HB.out.trans (b2.mono HB.out.size));have x2:=stay x0 b2;clear x0 b2 HB;have CG:=hid_of (greatModule_any n m p c w2 (Lay.below HM.out HB2.out));unfold Rd at CG;rw [HXE.out];by_cases hg:greatMod m
  · rw [bdec_true hg] at CG;go_wp2_with fail
    refine CG.out.mono ?_;rintro e3 w3 ⟨rfl,b3⟩;have HB3:=hid_of (HB2.out.trans (b3.mono HB2.out.size));clear b3 CG;go_wp2_with fail
    go_ret;exact ⟨rfl,by first | exact HB3.out | (rw [← HXE.out];exact HB3.out)⟩
  rw [bdec_false hg] at CG;by_cases hn:150<(N:Int)
  · have hn':decide ((N:Int) > 150)=true:=decide_eq_true hn;go_wp2_with fail
    refine CG.out.mono ?_;rintro e3 w3 ⟨rfl,b3⟩;have HB3:=hid_of (HB2.out.trans (b3.mono HB2.out.size));clear b3 CG;go_wp2_with fail
    go_ret;exact ⟨rfl,by first | exact HB3.out | (rw [← HXE.out];exact HB3.out)⟩
  have hn':decide ((N:Int) > 150)=false:=decide_eq_false hn
  have hf:(modFault m).1≠0:=by
    rcases HNO.out with h | h | h
    · exact absurd h hg
    · exact absurd h hn
    · exact h
  have hf':((modFault m).1 != 0)=true:=by simpa using hf
  go_wp2_with fail
  refine CG.out.mono ?_;rintro e3 w3 ⟨rfl,b3⟩;have HB3:=hid_of (HB2.out.trans (b3.mono HB2.out.size));have x3:=stay x2 b3;clear b3 CG x2 HB2;have CN:=hid_of (snew_fault f b hg hf (Lay.below HM.out HB3.out));go_wp2_with fail
  refine CN.out.mono ?_;rintro e4 w4 ⟨rfl,b4⟩;have HB4:=hid_of (HB3.out.trans (b4.mono HB3.out.size));have HB5:=hid_of (HB4.out.trans ((bel1 w4 (.cells #[.int .i64 (modFault m).1,.int .i64 (modFault m).2] 30)).mono HB4.out.size));clear b4 CN x3 HB3;generalize modFault m=mf at hf' HB5 ⊢;obtain ⟨mc,ma⟩:=mf;simp only at hf' HB5 ⊢
  go_wp2_with fail
  go_ret;exact ⟨rfl,by first | exact HB5.out | (rw [← HXE.out];exact HB5.out)⟩
structure HeS (w wr : World) (B X12 : Nat) (s : JSt) (x : MIns) (rg ag : Option Addr) (rc ac T T2 : Nat) : Prop where
  st:SOkT wr B w.heap.size T T2 s
  bel:Below w.heap.size w wr
  box:Blk wr X12 #[.int .i64 x.op,.int .i64 x.a,.int .i64 x.b,.int .i64 x.c,.int .i64 x.k,.int .i64 x.n,.slice rg x.regs.length rc,.slice ag x.args.length ac] 59
  far:T≤X12∧X12<T2
  regs:intsL.In wr (fun g=>g<w.heap.size) x.regs [.slice rg x.regs.length rc]
  args:intsL.In wr (fun g=>g<w.heap.size) x.args [.slice ag x.args.length ac]
  cap:x.regs.length≤rc
  rng:InsRng x
section
variable {w wr w' : World} {B X12 T T2 : Nat} {s : JSt} {x : MIns} {rg ag : Option Addr} {rc ac : Nat}
theorem HeS.below (h : HeS w wr B X12 s x rg ag rc ac T T2) (k : Below wr.heap.size wr w') : HeS w w' B X12 s x rg ag rc ac T T2 :=
  ⟨h.st.below k,h.bel.trans (k.mono h.bel.size),h.box.below k,h.far,Lay.below h.regs k,Lay.below h.args k,h.cap,h.rng⟩
theorem HeS.more (h : HeS w wr B X12 s x rg ag rc ac T wr.heap.size) (k : Below wr.heap.size wr w') : HeS w w' B X12 s x rg ag rc ac T w'.heap.size :=
  ⟨h.st.more k,h.bel.trans (k.mono h.bel.size),h.box.below k,⟨h.far.1,Nat.lt_of_lt_of_le h.far.2 k.size⟩,Lay.below h.regs k,Lay.below h.args k,h.cap,h.rng⟩
theorem HeS.cells (h : HeS w wr B X12 s x rg ag rc ac T T2) : wr.cell? ⟨X12, 0, none⟩ = some (.int .i64 x.op) ∧ wr.cell? ⟨X12, 1, none⟩ = some (.int .i64 x.a) ∧ wr.cell? ⟨X12, 2, none⟩ = some (.int .i64 x.b) ∧ wr.cell? ⟨X12, 3, none⟩ = some (.int .i64 x.c) ∧ wr.cell? ⟨X12, 4, none⟩ = some (.int .i64 x.k) ∧ wr.cell? ⟨X12, 5, none⟩ = some (.int .i64 x.n) ∧ wr.cell? ⟨X12, 6, none⟩ = some (.slice rg x.regs.length rc) ∧ wr.cell? ⟨X12, 7, none⟩ = some (.slice ag x.args.length ac) :=
  ⟨cellOf h.box 0 _ rfl,cellOf h.box 1 _ rfl,cellOf h.box 2 _ rfl,cellOf h.box 3 _ rfl,cellOf h.box 4 _ rfl,cellOf h.box 5 _ rfl,cellOf h.box 6 _ rfl,cellOf h.box 7 _ rfl⟩
theorem HeS.ins {s' : JSt} (h : HeS w wr B X12 s x rg ag rc ac T T2) (hs : SOkT w' B w.heap.size T T2 s') (hk : Left wr w' w.heap.size T T2) : HeS w w' B X12 s' x rg ag rc ac T T2 :=
  ⟨hs,h.bel.trans hk.bel,(hk.top X12 h.far.1 h.far.2).trans h.box,h.far,intsL.keep (fun k hk2 _=>hk.bel.block k hk2) (fun _ h _=>h) h.regs,intsL.keep (fun k hk2 _=>hk.bel.block k hk2) (fun _ h _=>h) h.args,h.cap,h.rng⟩
end
theorem jheld_any {w : World} {m : List (MFunc 6)} {p a1 : Option Addr} {c N c1 : Nat} {l : List MIns} (f b : Int) (hN : l.length = N) (hN150 : ¬ 150 < (N : Int)) (hng : ¬ greatMod m) (hm : (modL 6).In w All m [.slice p m.length c]) (hl : insC.list.In w All l [.slice a1 N c1]) :
    Calls Tryz.prog 7 #[.agg #[.slice p m.length c],.int .i64 f,.int .i64 b,.slice a1 N c1] w fun e w'=>e=.returned (.bool true)∧Below w.heap.size w w':=by
  have b1:=bel1 w (.cells #[.slice p m.length c] 24);have HM:Hid ((modL 6).In w All m [.slice p m.length c]):=hm;have HL:Hid (insC.list.In w All l [.slice a1 N c1]):=hl;have HN:=hid_of hN;have HNG:=hid_of hng;have HB:=hid_of b1;have x0:=cellOf (blockNew w #[.slice p m.length c] 24) 0 _ rfl;have hn':decide ((N:Int) > 150)=false:=decide_eq_false hN150;have hN1:N≤150:=by omega
  clear hm b1 hl hN hng hN150;go_enter Tryz.func7,Tryz.ntmps7
  go_upto_region 1 with fail
  generalize hw1:w.alloc (.cells #[.slice p m.length c] 24)=w1 at HB x0 ⊢;clear hw1;obtain ⟨X,hX⟩:∃ X,X=w.heap.size:=⟨_,rfl⟩;rw [← hX] at x0 ⊢;have HXE:=hid_of hX;clear hX;go_wp2_with fail
  refine (judgeBegun_any w1).mono ?_;rintro e2 w2 ⟨rfl,b2⟩;have HB2:=hid_of (HB.out.trans (b2.mono HB.out.size));have x2:=stay x0 b2;clear x0 b2 HB;have CG:=hid_of (greatModule_any 6 m p c w2 (Lay.below HM.out HB2.out));unfold Rd at CG;rw [bdec_false HNG.out] at CG;go_wp2_with fail
  refine CG.out.mono ?_;rintro e3 w3 ⟨rfl,b3⟩;have HB3:=hid_of (HB2.out.trans (b3.mono HB2.out.size));have x3:=stay x2 b3;clear b3 CG x2 HB2;have CN:=hid_of (snew_any f b HNG.out (Lay.below HM.out HB3.out));go_wp2_with fail
  refine CN.out.mono ?_;rintro e4 w4 ⟨b4,hN4⟩;have HB4:=hid_of (HB3.out.trans (b4.mono HB3.out.size));have hs3:=HB3.out.size;clear b4 CN x3;rcases hN4 with ⟨hf,rfl⟩ | ⟨-,-,rfl⟩ | ⟨hf0,-,i,j,fn,g,B,O,A,-,-,hfn,hgb,rfl,hS,hA⟩
  · have hf':((modFault m).1 != 0)=true:=by simpa using hf
    have HB5:=hid_of (HB4.out.trans ((bel1 w4 (.cells #[.int .i64 (modFault m).1,.int .i64 (modFault m).2] 30)).mono HB4.out.size));clear hf HB4 HB3;generalize modFault m=mf at hf' HB5 ⊢;obtain ⟨mc,ma⟩:=mf;simp only at hf' HB5 ⊢
    go_wp2_with fail
    go_ret;exact ⟨rfl,HB5.out⟩
  · have HB5:=hid_of (HB4.out.trans ((bel1 w4 (.cells #[.int .i64 1,.int .i64 (-1)] 30)).mono HB4.out.size));clear HB4 HB3;go_wp2_with fail
    go_ret;exact ⟨rfl,HB5.out⟩
  have b5:=bel1 w4 (.cells #[.int .i64 0,.int .i64 0] 30)
  have S5:Hid (SOk (w4.alloc (.cells #[.int .i64 0,.int .i64 0] 30)) B w.heap.size (JSt.start m fn g)) :=
    SOk.below ⟨O,A,hS,fun k hk=>⟨Nat.le_trans hs3 (hA k hk).1,(hA k hk).2⟩,JOk.start hf0 HNG.out (List.mem_of_getElem? hfn) (List.mem_of_getElem? hgb)⟩ b5
  have HB5:=hid_of (HB4.out.trans (b5.mono HB4.out.size));have y5:=cellOf (blockNew w4 #[.int .i64 0,.int .i64 0] 30) 0 _ rfl;clear hf0 hfn hgb hS hA b5 HB4 HB3 hs3;go_upto_region 6 with fail
  generalize hw5:w4.alloc (.cells #[.int .i64 0,.int .i64 0] 30)=w5 at S5 HB5 y5 ⊢;clear hw5;generalize JSt.start m fn g=s0 at S5;go_wp2
  go_loopw [11] (fun i wr=>∃ k:Nat,k≤N∧i=.int .i64 k∧(∃ s,SOk wr B w.heap.size s)∧Below w.heap.size w wr) (fun i _=>N - (intOf i).toNat)
  case atStart=>exact ⟨0,Nat.zero_le _,rfl,⟨s0,S5.out⟩,HB5.out⟩
  case round =>
    clear S5 HB5 y5;obtain ⟨k,hk,rfl,⟨s,hs⟩,hB⟩:=hrel;have HB:=hid_of hB;have S1:=hid_of hs;clear hB hs;by_cases hlt:k<N
    rotate_left
    · have hlt':¬ (k:Int)<N:=by omega
      go_wp2
      go_ret;exact ⟨rfl,HB.out⟩
    have hlt':(k:Int)<N:=by omega
    have hk2:k<l.length:=by rw [HN.out];exact hlt
    obtain ⟨x,hxk⟩:∃ x,l[k]?=some x:=⟨_,List.getElem?_eq_getElem hk2⟩;obtain ⟨g1,o1,ds,rfl,-,hg1,hcs,hx⟩:=Lay.list_at HL.out hxk;have hrng:=ins_rngC hx;obtain ⟨rg,rc,ag,ac,rfl,hrg,hag,hcp,-⟩:=ins_formC hx;have v0:wr.cell? ⟨g1,o1+k*8,none⟩=some (.int .i64 x.op):=stay (show w.cell? ⟨g1,o1+k*8,none⟩=some (.int .i64 x.op) from hcs 0 (by decide)) HB.out;have v1:wr.cell? ⟨g1,o1+k*8+1,none⟩=some (.int .i64 x.a):=stay (show w.cell? ⟨g1,o1+k*8+1,none⟩=some (.int .i64 x.a) from hcs 1 (by decide)) HB.out;have v2:wr.cell? ⟨g1,o1+k*8+2,none⟩=some (.int .i64 x.b):=stay (show w.cell? ⟨g1,o1+k*8+2,none⟩=some (.int .i64 x.b) from hcs 2 (by decide)) HB.out;have v3:wr.cell? ⟨g1,o1+k*8+3,none⟩=some (.int .i64 x.c):=stay (show w.cell? ⟨g1,o1+k*8+3,none⟩=some (.int .i64 x.c) from hcs 3 (by decide)) HB.out;have v4:wr.cell? ⟨g1,o1+k*8+4,none⟩=some (.int .i64 x.k):=stay (show w.cell? ⟨g1,o1+k*8+4,none⟩=some (.int .i64 x.k) from hcs 4 (by decide)) HB.out;have v5:wr.cell? ⟨g1,o1+k*8+5,none⟩=some (.int .i64 x.n):=stay (show w.cell? ⟨g1,o1+k*8+5,none⟩=some (.int .i64 x.n) from hcs 5 (by decide)) HB.out;have v6:wr.cell? ⟨g1,o1+k*8+6,none⟩=some (.slice rg x.regs.length rc):=stay (show w.cell? ⟨g1,o1+k*8+6,none⟩=some (.slice rg x.regs.length rc) from hcs 6 (by decide)) HB.out;have v7:wr.cell? ⟨g1,o1+k*8+7,none⟩=some (.slice ag x.args.length ac):=stay (show w.cell? ⟨g1,o1+k*8+7,none⟩=some (.slice ag x.args.length ac) from hcs 7 (by decide)) HB.out;have b2:=bel1 wr (.cells #[.int .i64 x.op,.int .i64 x.a,.int .i64 x.b,.int .i64 x.c,.int .i64 x.k,.int .i64 x.n,.slice rg x.regs.length rc,.slice ag x.args.length ac] 59)
    have Z2:Hid (HeS w (wr.alloc (.cells #[.int .i64 x.op,.int .i64 x.a,.int .i64 x.b,.int .i64 x.c,.int .i64 x.k,.int .i64 x.n,.slice rg x.regs.length rc,.slice ag x.args.length ac] 59)) B wr.heap.size s x rg ag rc ac wr.heap.size (wr.alloc (.cells #[.int .i64 x.op,.int .i64 x.a,.int .i64 x.b,.int .i64 x.c,.int .i64 x.k,.int .i64 x.n,.slice rg x.regs.length rc,.slice ag x.args.length ac] 59)).heap.size) :=
      ⟨S1.out.fence b2,HB.out.trans (b2.mono HB.out.size),Blk.new _ _ _,⟨Nat.le_refl _,(Blk.new wr #[.int .i64 x.op,.int .i64 x.a,.int .i64 x.b,.int .i64 x.c,.int .i64 x.k,.int .i64 x.n,.slice rg x.regs.length rc,.slice ag x.args.length ac] 59).lt⟩,Lay.below (Lay.below (Lay.mono hrg (O':=fun g=>g<w.heap.size) (fun k _ hl=>hl)) HB.out) b2,Lay.below (Lay.below (Lay.mono hag (O':=fun g=>g<w.heap.size) (fun k _ hl=>hl)) HB.out) b2,hcp,hrng⟩
    clear hk2 hxk hcs hx hrg hag hcp hrng b2 S1 HB;go_upto_region 12 with fail
    generalize wr.alloc (.cells #[.int .i64 x.op,.int .i64 x.a,.int .i64 x.b,.int .i64 x.c,.int .i64 x.k,.int .i64 x.n,.slice rg x.regs.length rc,.slice ag x.args.length ac] 59)=w2 at Z2 ⊢;generalize wr.heap.size=T at Z2 ⊢;clear v0 v1 v2 v3 v4 v5 v6 v7;have CT:=hid_of Z2.out.st.one.types;go_wp2_with fail
    refine CT.out.mono ?_;rintro e3 w3 ⟨ta,tc,rfl,-,hty,b3⟩;have Z3:=hid_of (Z2.out.more b3);have hT2:T≤w2.heap.size:=by have:=Z2.out.far;omega
    have HTY:Hid (LIn w3 (fun g=>T≤g∧g<w3.heap.size) s.L ta):=hty.mono (fun k hk hl=>⟨Nat.le_trans hT2 hk,hl⟩);have hL80:=Z2.out.st.one.ok.vals;clear hty b3 CT Z2 hT2;obtain ⟨x0,x1,x2,x3,x4,x5,x6,x7⟩:=Z3.out.cells;have CI:=hid_of (Z3.out.st.ins Z3.out.bel.size Z3.out.regs Z3.out.args Z3.out.cap Z3.out.rng);go_wp2_with fail
    refine CI.out.mono ?_;rintro e4 w4 ⟨rfl,hs4,hleft⟩;have HTY4:Hid (LIn w4 (fun g=>T≤g∧g<w3.heap.size) s.L ta):=hleft.tin HTY.out;have Z4:=hid_of (Z3.out.ins hs4 hleft);clear hs4 hleft CI x0 x1 x2 x3 x4 x5 x6 x7 Z3 HTY;generalize w3.heap.size=T2 at Z4 HTY4;by_cases hc0:s.code x=0
    rotate_left
    · have hc0':(s.code x != 0)=true:=by simpa using hc0
      have REL:Hid ((∃ s,SOk w4 B w.heap.size s)∧Below w.heap.size w w4):=⟨⟨_,Z4.out.st.one⟩,Z4.out.bel⟩;clear hc0;generalize s.code x=cd at hc0' ⊢;go_wp2
      go_roundw
      case rel=>exact ⟨k+1,hlt,by go_num,REL.out.1,REL.out.2⟩
      case measure=>simp [intOf];omega
    have HC0:=hid_of hc0;rw [hc0];have hins:s.ins x=s.next x:=by unfold JSt.ins;rw [if_pos hc0]
    rw [hins] at Z4;clear hc0 hins;have REL:Hid ((∃ s,SOk w4 B w.heap.size s)∧Below w.heap.size w w4):=⟨⟨_,Z4.out.st.one⟩,Z4.out.bel⟩;obtain ⟨y0,y1,y2,y3,y4,y5,y6,y7⟩:=Z4.out.cells;obtain ⟨hh,q1,hheld⟩:=Z4.out.st.one.held;have HH:=hid_of hheld;clear hheld;have hops:=(form_get (code_zero HC0.out).1).2.2.2;rcases hops with hop | hop | hop | hop | hop | hop | hop | hop | hop | hop | hop | hop | hop | hop
    · rw [hop] at y0;clear HC0 HTY4 Z4 HH;go_wp2
      go_roundw
      case rel=>exact ⟨k+1,hlt,by go_num,REL.out.1,REL.out.2⟩
      case measure=>simp [intOf];omega
    · rw [hop] at y0;clear HC0 HTY4 Z4 HH;go_wp2
      go_roundw
      case rel=>exact ⟨k+1,hlt,by go_num,REL.out.1,REL.out.2⟩
      case measure=>simp [intOf];omega
    · rw [hop] at y0;clear HC0 HTY4 Z4 HH;go_wp2
      go_roundw
      case rel=>exact ⟨k+1,hlt,by go_num,REL.out.1,REL.out.2⟩
      case measure=>simp [intOf];omega
    · obtain ⟨tt,hat,hhas,-⟩:=uses_held HC0.out (by rw [hop];decide);obtain ⟨-,ha0,hal,hti⟩:=at_mem hat;obtain ⟨ia,hia⟩:=Int.eq_ofNat_of_zero_le ha0;rw [hia] at hti hal;rw [Int.toNat_natCast] at hti;obtain ⟨gt,ot,ta,tc,rfl,hgt,-,u1,-,-⟩:=HTY4.out.at hti;have hal':(ia:Int)<s.L.length:=hal;have hH:hHas (s.next x).H tt.r=false:=freed_not HC0.out hop hat;have CH:Hid (∀ m,Calls Tryz.prog 33 #[.pointer (some ⟨hh,0,none⟩),.int .i64 tt.r] (w4.drewN m) fun e w'=>e=.returned (.bool false)∧w'=w4.drewN m):=fun m=>by have:=held_has tt.r (show HeldAt (w4.drewN m) hh (s.next x).H from HH.out);rw [hH] at this;exact this
      have E1:=hid_of (free_again HC0.out hop);have E2:=hid_of (tuple_again HC0.out hop);rw [hia] at y1;rw [hop] at y0;generalize tt.r=tr at u1 CH;generalize s.L.length=nL at hal' hL80 ⊢;have hag:(s.next x).ins x=s.next x:=by unfold JSt.ins;rw [if_neg (by rw [E1.out];decide)]
      have HAG:=hid_of hag;clear hat hhas hti hH HTY4 HH ha0 hal hgt hag;go_upto_region 25 with fail
      go_quiet ((go_at_call 33;exact Calls.quiet_of_same (CH.out _)))
      have b5:Below w4.heap.size w4 (w4.drewN nq):=hbelowN (Below.refl _ _) nq;have Z5:=hid_of (Z4.out.below b5);generalize w4.drewN nq=w5 at Z5 ⊢;clear b5 Z4 REL y0 y1 y2 y3 y4 y5 y6 y7 q1 u1 CH;have HIA:=hid_of hia;have HOP:=hid_of hop
      have C6:Hid (Calls Tryz.prog 23 #[.pointer (some ⟨B,0,none⟩),insV x rg ag rc ac] w5 fun e w'=>e=.returned (.int .i64 10)∧SOkT w' B w.heap.size T T2 (s.next x)∧Left w5 w' w.heap.size T T2):=by
        have:=Z5.out.st.ins Z5.out.bel.size Z5.out.regs Z5.out.args Z5.out.cap Z5.out.rng
        rw [E1.out,HAG.out] at this;exact this
      obtain ⟨y0,y1,y2,y3,y4,y5,y6,y7⟩:=Z5.out.cells;simp only [insV] at C6;rw [hop] at y0 C6;clear hop hia;go_wp2_with fail
      refine C6.out.mono ?_;rintro e6 w6 ⟨rfl,h6,l6⟩;have Z6:=hid_of (Z5.out.ins h6 l6);clear h6 l6 C6 y0 y1 y2 y3 y4 y5 y6 y7 Z5;obtain ⟨y0,y1,y2,y3,y4,y5,y6,y7⟩:=Z6.out.cells
      have C7:Hid (Calls Tryz.prog 23 #[.pointer (some ⟨B,0,none⟩),.agg #[.int .i64 5,.int .i64 x.a,.int .i64 0,.int .i64 0,.int .i64 0,.int .i64 0,.slice none 0 0,.slice none 0 0]] w6 fun e w'=>e=.returned (.int .i64 10)∧SOkT w' B w.heap.size T T2 (s.next x)∧Left w6 w' w.heap.size T T2):=by
        have:=Z6.out.st.ins (x:=⟨5,x.a,0,0,0,0,[],[]⟩) (rg:=none) (ag:=none) (rc:=0) (ac:=0) Z6.out.bel.size (nil_ints w6) (nil_ints w6) (Nat.le_refl _) ⟨Z6.out.rng.1,by simp,by simp⟩
        have hag2:(s.next x).ins ⟨5,x.a,0,0,0,0,[],[]⟩=s.next x:=by unfold JSt.ins;rw [if_neg (by rw [E2.out];decide)]
        rw [E2.out,hag2] at this;exact this
      go_wp2_with fail
      refine C7.out.mono ?_;rintro e7 w7 ⟨rfl,h7,l7⟩;have Z7:=hid_of (Z6.out.ins h7 l7);have REL2:Hid ((∃ s,SOk w7 B w.heap.size s)∧Below w.heap.size w w7):=⟨⟨_,Z7.out.st.one⟩,Z7.out.bel⟩;clear h7 l7 C7 y0 y1 y2 y3 y4 y5 y6 y7 Z6;go_wp2
      go_roundw
      case rel=>exact ⟨k+1,hlt,by go_num,REL2.out.1,REL2.out.2⟩
      case measure=>simp [intOf];omega
    · obtain ⟨tt,hat,hhas,-⟩:=uses_held HC0.out (by rw [hop];decide);obtain ⟨-,ha0,hal,hti⟩:=at_mem hat;obtain ⟨ia,hia⟩:=Int.eq_ofNat_of_zero_le ha0;rw [hia] at hti hal;rw [Int.toNat_natCast] at hti;obtain ⟨gt,ot,ta,tc,rfl,hgt,-,u1,-,-⟩:=HTY4.out.at hti;have hal':(ia:Int)<s.L.length:=hal;have hH:hHas (s.next x).H tt.r=true:=by rw [next_other (by rw [hop];decide) (by rw [hop];decide)];exact hhas
      have CH:Hid (∀ m,Calls Tryz.prog 33 #[.pointer (some ⟨hh,0,none⟩),.int .i64 tt.r] (w4.drewN m) fun e w'=>e=.returned (.bool true)∧w'=w4.drewN m):=fun m=>by have:=held_has tt.r (show HeldAt (w4.drewN m) hh (s.next x).H from HH.out);rw [hH] at this;exact this
      rw [hia] at y1;rw [hop] at y0;generalize tt.r=tr at u1 CH;generalize s.L.length=nL at hal' hL80;clear hat hhas hti hH HC0 HTY4 Z4 HH ha0 hia hal hgt;go_upto_region 25 with fail
      go_quiet ((go_at_call 33;exact Calls.quiet_of_same (CH.out _)))
      have REL2:Hid ((∃ s,SOk (w4.drewN nq) B w.heap.size s)∧Below w.heap.size w (w4.drewN nq)):=⟨by obtain ⟨s,hs⟩:=REL.out.1;exact ⟨s,hs.below (hbelowN (Below.refl _ _) nq)⟩,hbelowN REL.out.2 nq⟩;go_wp2
      go_roundw
      case rel=>exact ⟨k+1,hlt,by go_num,REL2.out.1,REL2.out.2⟩
      case measure=>simp [intOf];omega
    · obtain ⟨tt,hat,hhas,-⟩:=uses_held HC0.out (by rw [hop];decide);obtain ⟨-,ha0,hal,hti⟩:=at_mem hat;obtain ⟨ia,hia⟩:=Int.eq_ofNat_of_zero_le ha0;rw [hia] at hti hal;rw [Int.toNat_natCast] at hti;obtain ⟨gt,ot,ta,tc,rfl,hgt,-,u1,-,-⟩:=HTY4.out.at hti;have hal':(ia:Int)<s.L.length:=hal;have hH:hHas (s.next x).H tt.r=true:=by rw [next_other (by rw [hop];decide) (by rw [hop];decide)];exact hhas
      have CH:Hid (∀ m,Calls Tryz.prog 33 #[.pointer (some ⟨hh,0,none⟩),.int .i64 tt.r] (w4.drewN m) fun e w'=>e=.returned (.bool true)∧w'=w4.drewN m):=fun m=>by have:=held_has tt.r (show HeldAt (w4.drewN m) hh (s.next x).H from HH.out);rw [hH] at this;exact this
      rw [hia] at y1;rw [hop] at y0;generalize tt.r=tr at u1 CH;generalize s.L.length=nL at hal' hL80;clear hat hhas hti hH HC0 HTY4 Z4 HH ha0 hia hal hgt;go_upto_region 25 with fail
      go_quiet ((go_at_call 33;exact Calls.quiet_of_same (CH.out _)))
      have REL2:Hid ((∃ s,SOk (w4.drewN nq) B w.heap.size s)∧Below w.heap.size w (w4.drewN nq)):=⟨by obtain ⟨s,hs⟩:=REL.out.1;exact ⟨s,hs.below (hbelowN (Below.refl _ _) nq)⟩,hbelowN REL.out.2 nq⟩;go_wp2
      go_roundw
      case rel=>exact ⟨k+1,hlt,by go_num,REL2.out.1,REL2.out.2⟩
      case measure=>simp [intOf];omega
    · obtain ⟨tt,hat,hhas,-⟩:=uses_held HC0.out (by rw [hop];decide);obtain ⟨-,ha0,hal,hti⟩:=at_mem hat;obtain ⟨ia,hia⟩:=Int.eq_ofNat_of_zero_le ha0;rw [hia] at hti hal;rw [Int.toNat_natCast] at hti;obtain ⟨gt,ot,ta,tc,rfl,hgt,-,u1,-,-⟩:=HTY4.out.at hti;have hal':(ia:Int)<s.L.length:=hal;have hH:hHas (s.next x).H tt.r=true:=by rw [next_other (by rw [hop];decide) (by rw [hop];decide)];exact hhas
      have CH:Hid (∀ m,Calls Tryz.prog 33 #[.pointer (some ⟨hh,0,none⟩),.int .i64 tt.r] (w4.drewN m) fun e w'=>e=.returned (.bool true)∧w'=w4.drewN m):=fun m=>by have:=held_has tt.r (show HeldAt (w4.drewN m) hh (s.next x).H from HH.out);rw [hH] at this;exact this
      rw [hia] at y1;rw [hop] at y0;generalize tt.r=tr at u1 CH;generalize s.L.length=nL at hal' hL80;clear hat hhas hti hH HC0 HTY4 Z4 HH ha0 hia hal hgt;go_upto_region 25 with fail
      go_quiet ((go_at_call 33;exact Calls.quiet_of_same (CH.out _)))
      have REL2:Hid ((∃ s,SOk (w4.drewN nq) B w.heap.size s)∧Below w.heap.size w (w4.drewN nq)):=⟨by obtain ⟨s,hs⟩:=REL.out.1;exact ⟨s,hs.below (hbelowN (Below.refl _ _) nq)⟩,hbelowN REL.out.2 nq⟩;go_wp2
      go_roundw
      case rel=>exact ⟨k+1,hlt,by go_num,REL2.out.1,REL2.out.2⟩
      case measure=>simp [intOf];omega
    · obtain ⟨tt,hat,hhas,-⟩:=uses_held HC0.out (by rw [hop];decide);obtain ⟨-,ha0,hal,hti⟩:=at_mem hat;obtain ⟨ia,hia⟩:=Int.eq_ofNat_of_zero_le ha0;rw [hia] at hti hal;rw [Int.toNat_natCast] at hti;obtain ⟨gt,ot,ta,tc,rfl,hgt,-,u1,-,-⟩:=HTY4.out.at hti;have hal':(ia:Int)<s.L.length:=hal;have hH:hHas (s.next x).H tt.r=true:=by rw [next_other (by rw [hop];decide) (by rw [hop];decide)];exact hhas
      have CH:Hid (∀ m,Calls Tryz.prog 33 #[.pointer (some ⟨hh,0,none⟩),.int .i64 tt.r] (w4.drewN m) fun e w'=>e=.returned (.bool true)∧w'=w4.drewN m):=fun m=>by have:=held_has tt.r (show HeldAt (w4.drewN m) hh (s.next x).H from HH.out);rw [hH] at this;exact this
      rw [hia] at y1;rw [hop] at y0;generalize tt.r=tr at u1 CH;generalize s.L.length=nL at hal' hL80;clear hat hhas hti hH HC0 HTY4 Z4 HH ha0 hia hal hgt;go_upto_region 25 with fail
      go_quiet ((go_at_call 33;exact Calls.quiet_of_same (CH.out _)))
      have REL2:Hid ((∃ s,SOk (w4.drewN nq) B w.heap.size s)∧Below w.heap.size w (w4.drewN nq)):=⟨by obtain ⟨s,hs⟩:=REL.out.1;exact ⟨s,hs.below (hbelowN (Below.refl _ _) nq)⟩,hbelowN REL.out.2 nq⟩;go_wp2
      go_roundw
      case rel=>exact ⟨k+1,hlt,by go_num,REL2.out.1,REL2.out.2⟩
      case measure=>simp [intOf];omega
    · obtain ⟨tt,hat,hhas,-⟩:=uses_held HC0.out (by rw [hop];decide);obtain ⟨-,ha0,hal,hti⟩:=at_mem hat;obtain ⟨ia,hia⟩:=Int.eq_ofNat_of_zero_le ha0;rw [hia] at hti hal;rw [Int.toNat_natCast] at hti;obtain ⟨gt,ot,ta,tc,rfl,hgt,-,u1,-,-⟩:=HTY4.out.at hti;have hal':(ia:Int)<s.L.length:=hal;have hH:hHas (s.next x).H tt.r=true:=by rw [next_other (by rw [hop];decide) (by rw [hop];decide)];exact hhas
      have CH:Hid (∀ m,Calls Tryz.prog 33 #[.pointer (some ⟨hh,0,none⟩),.int .i64 tt.r] (w4.drewN m) fun e w'=>e=.returned (.bool true)∧w'=w4.drewN m):=fun m=>by have:=held_has tt.r (show HeldAt (w4.drewN m) hh (s.next x).H from HH.out);rw [hH] at this;exact this
      rw [hia] at y1;rw [hop] at y0;generalize tt.r=tr at u1 CH;generalize s.L.length=nL at hal' hL80;clear hat hhas hti hH HC0 HTY4 Z4 HH ha0 hia hal hgt;go_upto_region 25 with fail
      go_quiet ((go_at_call 33;exact Calls.quiet_of_same (CH.out _)))
      have REL2:Hid ((∃ s,SOk (w4.drewN nq) B w.heap.size s)∧Below w.heap.size w (w4.drewN nq)):=⟨by obtain ⟨s,hs⟩:=REL.out.1;exact ⟨s,hs.below (hbelowN (Below.refl _ _) nq)⟩,hbelowN REL.out.2 nq⟩;go_wp2
      go_roundw
      case rel=>exact ⟨k+1,hlt,by go_num,REL2.out.1,REL2.out.2⟩
      case measure=>simp [intOf];omega
    · obtain ⟨tt,hat,hhas,-⟩:=uses_held HC0.out (by rw [hop];decide);obtain ⟨-,ha0,hal,hti⟩:=at_mem hat;obtain ⟨ia,hia⟩:=Int.eq_ofNat_of_zero_le ha0;rw [hia] at hti hal;rw [Int.toNat_natCast] at hti;obtain ⟨gt,ot,ta,tc,rfl,hgt,-,u1,-,-⟩:=HTY4.out.at hti;have hal':(ia:Int)<s.L.length:=hal;have hH:hHas (s.next x).H tt.r=true:=by rw [next_other (by rw [hop];decide) (by rw [hop];decide)];exact hhas
      have CH:Hid (∀ m,Calls Tryz.prog 33 #[.pointer (some ⟨hh,0,none⟩),.int .i64 tt.r] (w4.drewN m) fun e w'=>e=.returned (.bool true)∧w'=w4.drewN m):=fun m=>by have:=held_has tt.r (show HeldAt (w4.drewN m) hh (s.next x).H from HH.out);rw [hH] at this;exact this
      rw [hia] at y1;rw [hop] at y0;generalize tt.r=tr at u1 CH;generalize s.L.length=nL at hal' hL80;clear hat hhas hti hH HC0 HTY4 Z4 HH ha0 hia hal hgt;go_upto_region 25 with fail
      go_quiet ((go_at_call 33;exact Calls.quiet_of_same (CH.out _)))
      have REL2:Hid ((∃ s,SOk (w4.drewN nq) B w.heap.size s)∧Below w.heap.size w (w4.drewN nq)):=⟨by obtain ⟨s,hs⟩:=REL.out.1;exact ⟨s,hs.below (hbelowN (Below.refl _ _) nq)⟩,hbelowN REL.out.2 nq⟩;go_wp2
      go_roundw
      case rel=>exact ⟨k+1,hlt,by go_num,REL2.out.1,REL2.out.2⟩
      case measure=>simp [intOf];omega
    · obtain ⟨tt,hat,hhas,-⟩:=uses_held HC0.out (by rw [hop];decide);obtain ⟨-,ha0,hal,hti⟩:=at_mem hat;obtain ⟨ia,hia⟩:=Int.eq_ofNat_of_zero_le ha0;rw [hia] at hti hal;rw [Int.toNat_natCast] at hti;obtain ⟨gt,ot,ta,tc,rfl,hgt,-,u1,-,-⟩:=HTY4.out.at hti;have hal':(ia:Int)<s.L.length:=hal;have hH:hHas (s.next x).H tt.r=true:=by rw [next_other (by rw [hop];decide) (by rw [hop];decide)];exact hhas
      have CH:Hid (∀ m,Calls Tryz.prog 33 #[.pointer (some ⟨hh,0,none⟩),.int .i64 tt.r] (w4.drewN m) fun e w'=>e=.returned (.bool true)∧w'=w4.drewN m):=fun m=>by have:=held_has tt.r (show HeldAt (w4.drewN m) hh (s.next x).H from HH.out);rw [hH] at this;exact this
      rw [hia] at y1;rw [hop] at y0;generalize tt.r=tr at u1 CH;generalize s.L.length=nL at hal' hL80;clear hat hhas hti hH HC0 HTY4 Z4 HH ha0 hia hal hgt;go_upto_region 25 with fail
      go_quiet ((go_at_call 33;exact Calls.quiet_of_same (CH.out _)))
      have REL2:Hid ((∃ s,SOk (w4.drewN nq) B w.heap.size s)∧Below w.heap.size w (w4.drewN nq)):=⟨by obtain ⟨s,hs⟩:=REL.out.1;exact ⟨s,hs.below (hbelowN (Below.refl _ _) nq)⟩,hbelowN REL.out.2 nq⟩;go_wp2
      go_roundw
      case rel=>exact ⟨k+1,hlt,by go_num,REL2.out.1,REL2.out.2⟩
      case measure=>simp [intOf];omega
    · rw [hop] at y0;clear HC0 HTY4 Z4 HH;go_wp2
      go_roundw
      case rel=>exact ⟨k+1,hlt,by go_num,REL.out.1,REL.out.2⟩
      case measure=>simp [intOf];omega
    · rw [hop] at y0;clear HC0 HTY4 Z4 HH;go_wp2
      go_roundw
      case rel=>exact ⟨k+1,hlt,by go_num,REL.out.1,REL.out.2⟩
      case measure=>simp [intOf];omega
    · have hall:=call_held HC0.out hop;rw [hop] at y0;have HALL:=hid_of hall;clear hall;obtain ⟨Kn,hKn⟩:∃ Kn,x.regs.length=Kn:=⟨_,rfl⟩;have HKN:=hid_of hKn;have hK6:Kn≤6:=by rw [← hKn];exact ((form_get (code_zero HC0.out).1).2.1 hop).2.2.1
      have HRG:Hid (intsL.In w4 (fun g=>g<w.heap.size) x.regs [.slice rg Kn rc]):=by rw [← hKn];exact Z4.out.regs
      rw [hKn] at y6;clear hKn HC0 HTY4;go_wp2
      go_loopw [16] (fun i wr=>∃ q:Nat,q≤Kn∧i=.int .i64 q∧∃ nd,wr=w4.drewN nd) (fun i _=>Kn - (intOf i).toNat)
      case atStart=>exact ⟨0,Nat.zero_le _,rfl,0,rfl⟩
      case round =>
        obtain ⟨wf,hwf⟩:∃ wf,wf=wr:=⟨_,rfl⟩;subst hwf;obtain ⟨q,hq,rfl,nd,hnd⟩:=hrel;subst hnd;by_cases hlq:q<Kn
        · have hlq':(q:Int)<Kn:=by omega
          have hq2:q<x.regs.length:=by rw [HKN.out];exact hlq
          obtain ⟨gr,or_,rfl,-,-,hc0⟩:=ints_at HRG.out hq2;obtain ⟨y,hy⟩:∃ y,x.regs[q]?=some y:=⟨_,List.getElem?_eq_getElem hq2⟩;rw [show x.regs.getD q 0=y by rw [List.getD_eq_getElem?_getD,hy];rfl] at hc0;have hyy:=HALL.out y (List.mem_of_getElem? hy);have CH:Hid (∀ m,Calls Tryz.prog 33 #[.pointer (some ⟨hh,0,none⟩),.int .i64 y] (w4.drewN m) fun e w'=>e=.returned (.bool true)∧w'=w4.drewN m):=fun m=>by have:=held_has y (show HeldAt (w4.drewN m) hh (s.next x).H from HH.out);rw [hyy] at this;exact this
          have z6:(w4.drewN nd).cell? ⟨T,6,none⟩=some (.slice (some ⟨gr,or_,none⟩) Kn rc):=y6;have z1:(w4.drewN nd).cell? ⟨B,1,none⟩=some (.pointer (some ⟨hh,0,none⟩)):=q1;have zc:(w4.drewN nd).cell? ⟨gr,or_+q,none⟩=some (.int .i64 y):=hc0;have CH2:Hid (∀ m,Calls Tryz.prog 33 #[.pointer (some ⟨hh,0,none⟩),.int .i64 y] ((w4.drewN nd).drewN m) fun e w'=>e=.returned (.bool true)∧w'=(w4.drewN nd).drewN m):=fun m=>by have:=held_has y (show HeldAt ((w4.drewN nd).drewN m) hh (s.next x).H from HH.out);rw [hyy] at this;exact this
          clear hy hq2 hyy hc0 y6 q1 CH;generalize hwg:w4.drewN nd=wg at z6 z1 zc CH2 ⊢;have HWG:=hid_of hwg;clear hwg;go_upto_region 33 with fail
          go_quiet ((go_at_call 33;exact Calls.quiet_of_same (CH2.out _)))
          go_wp2
          go_roundw
          case rel=>exact ⟨q+1,hlq,by go_num,nd+nq,by rw [← HWG.out];simp [World.drewN,Nat.add_assoc]⟩
          case measure=>simp [intOf];omega
        · have hlq':¬ (q:Int)<Kn:=by omega
          have z6:(w4.drewN nd).cell? ⟨T,6,none⟩=some (.slice rg Kn rc):=y6;have REL2:Hid ((∃ s,SOk (w4.drewN nd) B w.heap.size s)∧Below w.heap.size w (w4.drewN nd)):=⟨by obtain ⟨s,hs⟩:=REL.out.1;exact ⟨s,hs.below (hbelowN (Below.refl _ _) nd)⟩,hbelowN REL.out.2 nd⟩;generalize w4.drewN nd=wg at z6 REL2 ⊢;go_wp2
          go_roundw
          case rel=>exact ⟨k+1,hlt,by go_num,REL2.out.1,REL2.out.2⟩
          case measure=>simp [intOf];omega
end Go.Proofs.YtilanenoliopbadGreat
