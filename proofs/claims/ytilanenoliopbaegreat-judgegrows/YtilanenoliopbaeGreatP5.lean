import Derived.Test.YtilanenoliopbaeGreatP4
set_option maxHeartbeats 16000000
set_option maxRecDepth 100000
namespace Go.Proofs.YtilanenoliopbaeGreat
open Go.ChangeShapes Go.WideShapes Go.ChangeAt Go.RowKit
set_option linter.unusedSimpArgs false
set_option linter.unusedVariables false
theorem greatTypes_any (n : Nat) (l : List (TT n)) (p : Option Addr) (c : Nat) (w : World) (hl0 : LIn w All l p) :
    Rd Tryz.prog 15 #[.slice p l.length c] w (.bool (bdec (greatTs l))):=by
  have hl:Hid (LIn w All l p):=hl0;clear hl0;refine fr_enter (n:=18) Tryz.func15 rfl rfl rfl ?_;intro a hF;have hW:=Wd.start w;replace hF:Fr 18 a [(0,.slice p l.length c)]:=hF;refine wp_seq_k fun K1 hK1=>?_;refine rg hF fun ops=>?_;clear hF a;refine sa trivial rfl rfl ?_;refine St.nil fun a2 h2=>?_;refine hK1 _ _ ?_;refine wp_seq_k fun K3 hK3=>?_;refine wp_seq_k fun K4 hK4=>?_;refine rg h2 fun ops=>?_;clear h2 a2;refine sm trivial rfl rfl ?_;refine slTypes trivial rfl rfl ?_;refine sgt trivial rfl rfl rfl ?_;refine St.nil fun a5 h5=>?_;refine hK4 _ _ ?_;refine fr_cond (t:=6) h5 rfl (fun hb=>?_) (fun hb=>?_)
  ·have hlen:200<l.length:=by have:=of_decide_eq_true hb;omega
   refine wp_seq_k fun K6 hK6=>?_;refine rg h5 fun ops=>?_;clear h5 a5;refine sa trivial rfl rfl ?_;refine St.nil fun a7 h7=>?_;refine hK6 _ _ ?_;refine wp_ret ?_;with_reducible repeat first | refine of_then_ret ?_ | refine of_block_ret ?_
   have GR:greatTs l:=by first | exact .inl hlen | exact .inr ⟨x,List.mem_of_getElem? hx.out,hcx⟩
   exact ret_tmp (t:=2) h7 rfl rfl ⟨by rw [bdec_true GR],hW.bel⟩
  have hlen:l.length≤200:=by have:=of_decide_eq_false hb;omega
  refine wp_skip ?_;refine hK3 _ _ ?_;refine wp_seq_k fun K8 hK8=>?_;refine wp_seq_k fun K9 hK9=>?_;refine rg h5 fun ops=>?_;clear h5 a5;refine sa trivial rfl rfl ?_;refine St.nil fun a10 h10=>?_;refine hK9 _ _ ?_;refine wp_block ?_;refine fr_loop (fun r a w'=>∃ q:Nat,q≤l.length∧r=l.length - q∧(∀ (j:Nat) x,j<q→l[j]?=some x→x.count≤2000)∧Fr 18 a [(0,.slice p l.length c),(2,.bool false),(3,.int .i64 (q:Int))]∧Wd w w' []) l.length ⟨0,Nat.zero_le _,rfl,fun j x hj=>by omega,(h10.keep (h10.keep (h10.keep h10.nil (t:=3) rfl) (t:=2) rfl) (t:=0) rfl),hW⟩ ?_;clear h10 hW;rintro r a11 w11 ⟨q,hq,hr,hall,hF11,hW11⟩ KL hKL;refine wp_seq_k fun K12 hK12=>?_;refine wp_seq_k fun K13 hK13=>?_;refine rg hF11 fun ops=>?_;clear hF11 a11;refine sm trivial rfl rfl ?_;refine sm trivial rfl rfl ?_;refine slTypes trivial rfl rfl ?_;refine slt trivial rfl rfl rfl ?_;refine St.nil fun a14 h14=>?_;refine hK13 _ _ ?_;refine fr_cond (t:=10) h14 rfl (fun hb=>?_) (fun hb=>?_)
  ·have hlt:q<l.length:=by have:=of_decide_eq_true hb;omega
   clear hb;obtain ⟨x,hx⟩:∃ x,l[q]?=some x:=⟨_,List.getElem?_eq_getElem hlt⟩;obtain ⟨g,o,p',c',hp,E,H⟩:=lin_at hl.out hx;replace hp:Hid _:=hp;replace E:Hid _:=E;replace H:Hid _:=H;replace hx:Hid _:=hx;refine wp_skip ?_;refine hK12 _ _ ?_;refine wp_seq_k fun K15 hK15=>?_;refine wp_block ?_;refine wp_seq_k fun K16 hK16=>?_;refine rg h14 fun ops=>?_;clear h14 a14;refine sm trivial rfl rfl ?_;refine sm trivial rfl rfl ?_;refine siTypes hp.out hlt trivial rfl rfl rfl ?_;refine sSE Tryz.underlying65 rfl (rangeAt_bel E.out hW11.bel) infType trivial rfl rfl ?_;refine sc_1 cf30 hW11 (great_any n x p' c' w11 (H.out.below hW11.bel)) trivial rfl rfl ?_;clear hW11;intro w17 hW17;refine St.nil fun a18 h18=>?_;refine hK16 _ _ ?_;refine fr_cond (t:=17) h18 rfl (fun hb=>?_) (fun hb=>?_)
   ·have hcx:2000<x.count:=of_decide_eq_true hb
    refine wp_seq_k fun K19 hK19=>?_;refine rg h18 fun ops=>?_;clear h18 a18;refine sa trivial rfl rfl ?_;refine St.nil fun a20 h20=>?_;refine hK19 _ _ ?_;refine wp_ret ?_;with_reducible repeat first | refine of_then_ret ?_ | refine of_block_ret ?_
    have GR:greatTs l:=by first | exact .inl hlen | exact .inr ⟨x,List.mem_of_getElem? hx.out,hcx⟩
    exact ret_tmp (t:=2) h20 rfl rfl ⟨by rw [bdec_true GR],hW17.bel⟩
   have hcx:x.count≤2000:=by have:=of_decide_eq_false hb;omega
   refine wp_skip ?_;refine hK15 _ _ ?_;refine rg h18 fun ops=>?_;clear h18 a18;refine sm trivial rfl rfl ?_;refine sad (by omega) trivial rfl rfl rfl ?_;refine sa trivial rfl rfl ?_;refine St.nil fun a21 h21=>?_;refine hKL _ _ (l.length - (q+1)) (by omega) ⟨q+1,by omega,rfl,fun j y hj hy=>?_,(h21.keep (h21.keep (h21.keep h21.nil (t:=3) rfl) (t:=2) rfl) (t:=0) rfl),hW17⟩;by_cases e:j=q
   · subst e;rw [hx.out] at hy;cases hy;exact hcx
   · exact hall j y (by omega) hy
  have hge:q=l.length:=by have:=of_decide_eq_false hb;omega
  refine wp_exit ?_;refine hK8 _ _ ?_;refine wp_seq_k fun K22 hK22=>?_;refine rg h14 fun ops=>?_;clear h14 a14;refine sa trivial rfl rfl ?_;refine St.nil fun a23 h23=>?_;refine hK22 _ _ ?_;refine wp_ret ?_;with_reducible repeat first | refine of_then_ret ?_ | refine of_block_ret ?_
  have GR:¬ greatTs l:=by
    rintro (h | ⟨x,hx,h⟩)
    · omega
    · obtain ⟨i,hi,rfl⟩:=List.mem_iff_getElem.1 hx
      have:=hall i _ (by omega) (List.getElem?_eq_getElem hi)
      omega
  exact ret_tmp (t:=2) h23 rfl rfl ⟨by rw [bdec_false GR],hW11.bel⟩
theorem greatModule_any (n : Nat) (m : List (MFunc n)) (p : Option Addr) (c : Nat) (w : World) (hm0 : (modL n).In w All m [.slice p m.length c]) :
    Rd Tryz.prog 5 #[.agg #[.slice p m.length c]] w (.bool (bdec (greatMod m))):=by
  have hm:Hid ((modL n).In w All m [.slice p m.length c]):=hm0;clear hm0;refine fr_enter (n:=123) Tryz.func5 rfl rfl rfl ?_;intro a hF;have hW:=Wd.start w;replace hF:Fr 123 a [(0,.agg #[.slice p m.length c])]:=hF;refine wp_seq_k fun K1 hK1=>?_;refine rg hF fun ops=>?_;clear hF a;refine sB hW trivial rfl rfl ?_;clear hW;intro w2 B2 hW2 hN;clear hN;refine sa trivial rfl rfl ?_;refine St.nil fun a3 h3=>?_;refine hK1 _ _ ?_;refine wp_seq_k fun K4 hK4=>?_;refine wp_seq_k fun K5 hK5=>?_;refine rg h3 fun ops=>?_;clear h3 a3;refine sfModule0 trivial rfl rfl ?_;refine sbFuncs 0 hW2 trivial rfl rfl rfl rfl ?_;refine slFuncs trivial rfl rfl ?_;refine sgt trivial rfl rfl rfl ?_;refine St.nil fun a6 h6=>?_;refine hK5 _ _ ?_;refine fr_cond (t:=11) h6 rfl (fun hb=>?_) (fun hb=>?_)
  ·have hc7:20<m.length:=by have:=of_decide_eq_true hb;omega
   clear hb;refine wp_seq_k fun K8 hK8=>?_;refine rg h6 fun ops=>?_;clear h6 a6;refine sa trivial rfl rfl ?_;refine St.nil fun a9 h9=>?_;refine hK8 _ _ ?_;refine wp_ret ?_;with_reducible repeat first | refine of_then_ret ?_ | refine of_block_ret ?_
   have GR:greatMod m:=.inl hc7;exact ret_tmp (t:=2) h9 rfl rfl ⟨by rw [bdec_true GR],hW2.bel⟩
  have hc10:¬ (20<m.length):=by have:=of_decide_eq_false hb;omega
  clear hb;refine wp_skip ?_;refine hK4 _ _ ?_;refine wp_seq_k fun K11 hK11=>?_;refine wp_seq_k fun K12 hK12=>?_;refine rg h6 fun ops=>?_;clear h6 a6;refine sa trivial rfl rfl ?_;refine St.nil fun a13 h13=>?_;refine hK12 _ _ ?_;refine wp_block ?_;refine fr_loop (fun r a w'=>∃ q1:Nat,q1≤m.length∧r=m.length - q1∧(∀ (j:Nat) x,j<q1→m[j]?=some x→¬ x.great)∧Fr 123 a [(0,.agg #[.slice p m.length c]),(1,.pointer (some ⟨B2,0,none⟩)),(2,.bool false),(3,.int .i64 (q1:Int))]∧Wd w w' [(B2,#[.slice p m.length c],24)]) (m.length) ⟨0,Nat.zero_le _,rfl,(fun j x hj=>by omega),(h13.keep (h13.keep (h13.keep (h13.keep h13.nil (t:=3) rfl) (t:=2) rfl) (t:=1) rfl) (t:=0) rfl),hW2⟩ ?_;clear h13 hW2;rintro r1 a14 w14 ⟨q1,hq1,hr1,hall1,hF14,hW14⟩ KL1 hKL1;refine wp_seq_k fun K15 hK15=>?_;refine wp_seq_k fun K16 hK16=>?_;refine rg hF14 fun ops=>?_;clear hF14 a14;refine sm trivial rfl rfl ?_;refine sfModule0 trivial rfl rfl ?_;refine sbFuncs 0 hW14 trivial rfl rfl rfl rfl ?_;refine slFuncs trivial rfl rfl ?_;refine slt trivial rfl rfl rfl ?_;refine St.nil fun a17 h17=>?_;refine hK16 _ _ ?_;refine fr_cond (t:=16) h17 rfl (fun hb=>?_) (fun hb=>?_)
  ·have hlt1:q1<m.length:=by have:=of_decide_eq_true hb;omega
   clear hb;obtain ⟨x,hx1⟩:∃ v9,(m)[q1]?=some v9:=⟨_,List.getElem?_eq_getElem hlt1⟩;obtain ⟨g1,o1,f1,hp1,E1,In1⟩:=func_at hm.out hx1;replace In1:Hid _:=In1;replace hp1:Hid _:=hp1;replace hx1:Hid _:=hx1;replace E1:Hid _:=E1;refine wp_skip ?_;refine hK15 _ _ ?_;refine wp_seq_k fun K18 hK18=>?_;refine wp_block ?_;refine wp_seq_k fun K19 hK19=>?_;refine rg h17 fun ops=>?_;clear h17 a17;refine sfModule0 trivial rfl rfl ?_;refine sbFuncs 0 hW14 trivial rfl rfl rfl rfl ?_;refine sm trivial rfl rfl ?_;refine siFuncs hp1.out hlt1 trivial rfl rfl rfl ?_;refine sSE Tryz.underlying40 rfl (rangeAt_bel E1.out hW14.bel) infFunc trivial rfl rfl ?_;refine sAFunc hW14 trivial rfl ?_;clear hW14;intro w20 B20 hW20 hN;clear hN;refine sT 0 hW20 rfl rfl infFunc rfl rfl rfl ?_;clear hW20;intro w21 hW21;refine St.nil fun a22 h22=>?_;refine hK19 _ _ ?_;refine wp_seq_k fun K23 hK23=>?_;refine wp_seq_k fun K24 hK24=>?_;refine fr_region ?_;intro ops hops;have hg4:(ops[4]?).bind (fun o:Oper=>o.dst)=some 28:=hops 4;have hg9:(ops[9]?).bind (fun o:Oper=>o.dst)=some 33:=hops 9;clear hops;refine St.go h22 ?_;clear h22 a22;refine sfFunc3 trivial rfl rfl ?_;refine sbBlocks 0 hW21 trivial rfl rfl rfl rfl ?_;refine slBlocks trivial rfl rfl ?_;refine sgt trivial rfl rfl rfl ?_;refine sm trivial rfl rfl ?_;intro a25 h25;rcases Bool.eq_false_or_eq_true (decide (30<(x.blocks.length:Int))) with hb | hb
   ·rw [hb] at h25
    have hc26:30<x.blocks.length:=by have:=of_decide_eq_true hb;omega
    clear hb;refine St.go h25 ?_;clear h25 a25;refine so hg4 rfl rfl rfl rfl ?_;refine so hg4 rfl rfl rfl rfl ?_;refine so hg4 rfl rfl rfl rfl ?_;refine sp trivial rfl rfl rfl ?_;refine sm trivial rfl rfl ?_;refine so hg9 rfl rfl rfl rfl ?_;refine so hg9 rfl rfl rfl rfl ?_;refine so hg9 rfl rfl rfl rfl ?_;refine sp trivial rfl rfl rfl ?_;refine St.nil fun a27 h27=>?_;refine hK24 _ _ ?_;refine fr_true (t:=37) h27 rfl ?_;refine wp_seq_k fun K28 hK28=>?_;refine rg h27 fun ops=>?_;clear h27 a27;refine sa trivial rfl rfl ?_;refine St.nil fun a29 h29=>?_;refine hK28 _ _ ?_;refine wp_ret ?_;with_reducible repeat first | refine of_then_ret ?_ | refine of_block_ret ?_
    have GR:greatMod m:=.inr ⟨x,List.mem_of_getElem? hx1.out,.inl hc26⟩;exact ret_tmp (t:=2) h29 rfl rfl ⟨by rw [bdec_true GR],hW21.bel⟩
   rw [hb] at h25;have hc30:¬ (30<x.blocks.length):=by have:=of_decide_eq_false hb;omega
   clear hb;refine St.go h25 ?_;clear h25 a25;refine sfFunc1 ⟨_,hg4,rfl,rfl⟩ rfl rfl ?_;refine sbTypes 0 hW21 ⟨_,hg4,rfl,rfl⟩ rfl rfl rfl rfl ?_;refine sc_1 cf15 hW21 (greatTypes_any n x.params f1.pP f1.cP w21 ((types_lin In1.out.params).1.below hW21.bel)) ⟨_,hg4,rfl,rfl⟩ rfl rfl ?_;clear hW21;intro w31 hW31;refine spf trivial rfl rfl rfl ?_;refine sm trivial rfl rfl ?_;intro a32 h32;rcases Bool.eq_false_or_eq_true (bdec (greatTs x.params)) with hb | hb
   ·rw [hb] at h32
    have hc33:(greatTs x.params):=bdec_iff.1 hb;clear hb;refine St.go h32 ?_;clear h32 a32;refine so hg9 rfl rfl rfl rfl ?_;refine so hg9 rfl rfl rfl rfl ?_;refine so hg9 rfl rfl rfl rfl ?_;refine sp trivial rfl rfl rfl ?_;refine St.nil fun a34 h34=>?_;refine hK24 _ _ ?_;refine fr_true (t:=37) h34 rfl ?_;refine wp_seq_k fun K35 hK35=>?_;refine rg h34 fun ops=>?_;clear h34 a34;refine sa trivial rfl rfl ?_;refine St.nil fun a36 h36=>?_;refine hK35 _ _ ?_;refine wp_ret ?_;with_reducible repeat first | refine of_then_ret ?_ | refine of_block_ret ?_
    have GR:greatMod m:=.inr ⟨x,List.mem_of_getElem? hx1.out,.inr (.inl hc33)⟩;exact ret_tmp (t:=2) h36 rfl rfl ⟨by rw [bdec_true GR],hW31.bel⟩
   rw [hb] at h32;have hc37:¬ (greatTs x.params):=fun h=>by rw [bdec_true h] at hb;cases hb
   clear hb;refine St.go h32 ?_;clear h32 a32;refine sfFunc2 ⟨_,hg9,rfl,rfl⟩ rfl rfl ?_;refine sbTypes 0 hW31 ⟨_,hg9,rfl,rfl⟩ rfl rfl rfl rfl ?_;refine sc_1 cf15 hW31 (greatTypes_any n x.results f1.pR f1.cR w31 ((types_lin In1.out.results).1.below hW31.bel)) ⟨_,hg9,rfl,rfl⟩ rfl rfl ?_;clear hW31;intro w38 hW38;refine spf trivial rfl rfl rfl ?_;refine St.nil fun a39 h39=>?_;refine hK24 _ _ ?_;refine fr_cond (t:=37) h39 rfl (fun hb=>?_) (fun hb=>?_)
   ·have hc40:(greatTs x.results):=bdec_iff.1 hb
    clear hb;refine wp_seq_k fun K41 hK41=>?_;refine rg h39 fun ops=>?_;clear h39 a39;refine sa trivial rfl rfl ?_;refine St.nil fun a42 h42=>?_;refine hK41 _ _ ?_;refine wp_ret ?_;with_reducible repeat first | refine of_then_ret ?_ | refine of_block_ret ?_
    have GR:greatMod m:=.inr ⟨x,List.mem_of_getElem? hx1.out,.inr (.inr (.inl hc40))⟩;exact ret_tmp (t:=2) h42 rfl rfl ⟨by rw [bdec_true GR],hW38.bel⟩
   have hc43:¬ (greatTs x.results):=fun h=>by rw [bdec_true h] at hb;cases hb
   clear hb;refine wp_skip ?_;refine hK23 _ _ ?_;refine wp_seq_k fun K44 hK44=>?_;refine rg h39 fun ops=>?_;clear h39 a39;refine sa trivial rfl rfl ?_;refine St.nil fun a45 h45=>?_;refine hK44 _ _ ?_;refine wp_block ?_;refine fr_loop (fun r a w'=>∃ q2:Nat,q2≤x.blocks.length∧r=x.blocks.length - q2∧(∀ (j:Nat) y,j<q2→x.blocks[j]?=some y→¬ y.great)∧Fr 123 a [(0,.agg #[.slice p m.length c]),(1,.pointer (some ⟨B2,0,none⟩)),(2,.bool false),(3,.int .i64 (q1:Int)),(4,.pointer (some ⟨B20,0,none⟩)),(5,.int .i64 (q2:Int))]∧Wd w w' [(B20,#[.int .i64 x.regs,.slice f1.pP x.params.length f1.cP,.slice f1.pR x.results.length f1.cR,.slice f1.pB x.blocks.length f1.cB],40),(B2,#[.slice p m.length c],24)]) (x.blocks.length) ⟨0,Nat.zero_le _,rfl,(fun j x hj=>by omega),(h45.keep (h45.keep (h45.keep (h45.keep (h45.keep (h45.keep h45.nil (t:=5) rfl) (t:=4) rfl) (t:=3) rfl) (t:=2) rfl) (t:=1) rfl) (t:=0) rfl),hW38⟩ ?_;clear h45 hW38;rintro r2 a46 w46 ⟨q2,hq2,hr2,hall2,hF46,hW46⟩ KL2 hKL2;refine wp_seq_k fun K47 hK47=>?_;refine wp_seq_k fun K48 hK48=>?_;refine rg hF46 fun ops=>?_;clear hF46 a46;refine sm trivial rfl rfl ?_;refine sfFunc3 trivial rfl rfl ?_;refine sbBlocks 0 hW46 trivial rfl rfl rfl rfl ?_;refine slBlocks trivial rfl rfl ?_;refine slt trivial rfl rfl rfl ?_;refine St.nil fun a49 h49=>?_;refine hK48 _ _ ?_;refine fr_cond (t:=42) h49 rfl (fun hb=>?_) (fun hb=>?_)
   ·have hlt2:q2<x.blocks.length:=by have:=of_decide_eq_true hb;omega
    clear hb;obtain ⟨y,hx2⟩:∃ v9,(x.blocks)[q2]?=some v9:=⟨_,List.getElem?_eq_getElem hlt2⟩;obtain ⟨g2,o2,b2,hp2,E2,In2⟩:=block_at In1.out.blocks hx2;replace In2:Hid _:=In2;replace hp2:Hid _:=hp2;replace hx2:Hid _:=hx2;replace E2:Hid _:=E2;refine wp_skip ?_;refine hK47 _ _ ?_;refine wp_seq_k fun K50 hK50=>?_;refine wp_block ?_;refine wp_seq_k fun K51 hK51=>?_;refine rg h49 fun ops=>?_;clear h49 a49;refine sfFunc3 trivial rfl rfl ?_;refine sbBlocks 0 hW46 trivial rfl rfl rfl rfl ?_;refine sm trivial rfl rfl ?_;refine siBlocks hp2.out hlt2 trivial rfl rfl rfl ?_;refine sSE Tryz.underlying58 rfl (rangeAt_bel E2.out hW46.bel) infBlock trivial rfl rfl ?_;refine sABlock hW46 trivial rfl ?_;clear hW46;intro w52 B52 hW52 hN;clear hN;refine sT 0 hW52 rfl rfl infBlock rfl rfl rfl ?_;clear hW52;intro w53 hW53;refine St.nil fun a54 h54=>?_;refine hK51 _ _ ?_;refine wp_seq_k fun K55 hK55=>?_;refine wp_seq_k fun K56 hK56=>?_;refine fr_region ?_;intro ops hops;have hg4:(ops[4]?).bind (fun o:Oper=>o.dst)=some 54:=hops 4;have hg9:(ops[9]?).bind (fun o:Oper=>o.dst)=some 59:=hops 9;have hg16:(ops[16]?).bind (fun o:Oper=>o.dst)=some 66:=hops 16;have hg24:(ops[24]?).bind (fun o:Oper=>o.dst)=some 74:=hops 24;have hg32:(ops[32]?).bind (fun o:Oper=>o.dst)=some 82:=hops 32;have hg40:(ops[40]?).bind (fun o:Oper=>o.dst)=some 90:=hops 40;clear hops;refine St.go h54 ?_;clear h54 a54;refine sfBlock2 trivial rfl rfl ?_;refine sbInss 0 hW53 trivial rfl rfl rfl rfl ?_;refine slInss trivial rfl rfl ?_;refine sgt trivial rfl rfl rfl ?_;refine sm trivial rfl rfl ?_;intro a57 h57;rcases Bool.eq_false_or_eq_true (decide (200<(y.code.length:Int))) with hb | hb
    ·rw [hb] at h57
     have hc58:200<y.code.length:=by have:=of_decide_eq_true hb;omega
     clear hb;refine St.go h57 ?_;clear h57 a57;refine so hg4 rfl rfl rfl rfl ?_;refine so hg4 rfl rfl rfl rfl ?_;refine so hg4 rfl rfl rfl rfl ?_;refine sp trivial rfl rfl rfl ?_;refine sm trivial rfl rfl ?_;refine so hg9 rfl rfl rfl rfl ?_;refine so hg9 rfl rfl rfl rfl ?_;refine so hg9 rfl rfl rfl rfl ?_;refine so hg9 rfl rfl rfl rfl ?_;refine so hg9 rfl rfl rfl rfl ?_;refine sp trivial rfl rfl rfl ?_;refine sm trivial rfl rfl ?_;refine so hg16 rfl rfl rfl rfl ?_;refine so hg16 rfl rfl rfl rfl ?_;refine so hg16 rfl rfl rfl rfl ?_;refine so hg16 rfl rfl rfl rfl ?_;refine so hg16 rfl rfl rfl rfl ?_;refine so hg16 rfl rfl rfl rfl ?_;refine sp trivial rfl rfl rfl ?_;refine sm trivial rfl rfl ?_;refine so hg24 rfl rfl rfl rfl ?_;refine so hg24 rfl rfl rfl rfl ?_;refine so hg24 rfl rfl rfl rfl ?_;refine so hg24 rfl rfl rfl rfl ?_;refine so hg24 rfl rfl rfl rfl ?_;refine so hg24 rfl rfl rfl rfl ?_;refine sp trivial rfl rfl rfl ?_;refine sm trivial rfl rfl ?_;refine so hg32 rfl rfl rfl rfl ?_;refine so hg32 rfl rfl rfl rfl ?_;refine so hg32 rfl rfl rfl rfl ?_;refine so hg32 rfl rfl rfl rfl ?_;refine so hg32 rfl rfl rfl rfl ?_;refine so hg32 rfl rfl rfl rfl ?_;refine sp trivial rfl rfl rfl ?_;refine sm trivial rfl rfl ?_;refine so hg40 rfl rfl rfl rfl ?_;refine so hg40 rfl rfl rfl rfl ?_;refine so hg40 rfl rfl rfl rfl ?_;refine so hg40 rfl rfl rfl rfl ?_;refine so hg40 rfl rfl rfl rfl ?_;refine so hg40 rfl rfl rfl rfl ?_;refine sp trivial rfl rfl rfl ?_;refine St.nil fun a59 h59=>?_;refine hK56 _ _ ?_;refine fr_true (t:=97) h59 rfl ?_;refine wp_seq_k fun K60 hK60=>?_;refine rg h59 fun ops=>?_;clear h59 a59;refine sa trivial rfl rfl ?_;refine St.nil fun a61 h61=>?_;refine hK60 _ _ ?_;refine wp_ret ?_;with_reducible repeat first | refine of_then_ret ?_ | refine of_block_ret ?_
     have GR:greatMod m:=.inr ⟨x,List.mem_of_getElem? hx1.out,.inr (.inr (.inr ⟨y,List.mem_of_getElem? hx2.out,.inl hc58⟩))⟩;exact ret_tmp (t:=2) h61 rfl rfl ⟨by rw [bdec_true GR],hW53.bel⟩
    rw [hb] at h57;have hc62:¬ (200<y.code.length):=by have:=of_decide_eq_false hb;omega
    clear hb;refine St.go h57 ?_;clear h57 a57;refine sfBlock1 ⟨_,hg4,rfl,rfl⟩ rfl rfl ?_;refine sbTypes 0 hW53 ⟨_,hg4,rfl,rfl⟩ rfl rfl rfl rfl ?_;refine sc_1 cf15 hW53 (greatTypes_any n y.params b2.pP b2.cP w53 ((types_lin In2.out.params).1.below hW53.bel)) ⟨_,hg4,rfl,rfl⟩ rfl rfl ?_;clear hW53;intro w63 hW63;refine spf trivial rfl rfl rfl ?_;refine sm trivial rfl rfl ?_;intro a64 h64;rcases Bool.eq_false_or_eq_true (bdec (greatTs y.params)) with hb | hb
    ·rw [hb] at h64
     have hc65:(greatTs y.params):=bdec_iff.1 hb;clear hb;refine St.go h64 ?_;clear h64 a64;refine so hg9 rfl rfl rfl rfl ?_;refine so hg9 rfl rfl rfl rfl ?_;refine so hg9 rfl rfl rfl rfl ?_;refine so hg9 rfl rfl rfl rfl ?_;refine so hg9 rfl rfl rfl rfl ?_;refine sp trivial rfl rfl rfl ?_;refine sm trivial rfl rfl ?_;refine so hg16 rfl rfl rfl rfl ?_;refine so hg16 rfl rfl rfl rfl ?_;refine so hg16 rfl rfl rfl rfl ?_;refine so hg16 rfl rfl rfl rfl ?_;refine so hg16 rfl rfl rfl rfl ?_;refine so hg16 rfl rfl rfl rfl ?_;refine sp trivial rfl rfl rfl ?_;refine sm trivial rfl rfl ?_;refine so hg24 rfl rfl rfl rfl ?_;refine so hg24 rfl rfl rfl rfl ?_;refine so hg24 rfl rfl rfl rfl ?_;refine so hg24 rfl rfl rfl rfl ?_;refine so hg24 rfl rfl rfl rfl ?_;refine so hg24 rfl rfl rfl rfl ?_;refine sp trivial rfl rfl rfl ?_;refine sm trivial rfl rfl ?_;refine so hg32 rfl rfl rfl rfl ?_;refine so hg32 rfl rfl rfl rfl ?_;refine so hg32 rfl rfl rfl rfl ?_;refine so hg32 rfl rfl rfl rfl ?_;refine so hg32 rfl rfl rfl rfl ?_;refine so hg32 rfl rfl rfl rfl ?_;refine sp trivial rfl rfl rfl ?_;refine sm trivial rfl rfl ?_;refine so hg40 rfl rfl rfl rfl ?_;refine so hg40 rfl rfl rfl rfl ?_;refine so hg40 rfl rfl rfl rfl ?_;refine so hg40 rfl rfl rfl rfl ?_;refine so hg40 rfl rfl rfl rfl ?_;refine so hg40 rfl rfl rfl rfl ?_;refine sp trivial rfl rfl rfl ?_;refine St.nil fun a66 h66=>?_;refine hK56 _ _ ?_;refine fr_true (t:=97) h66 rfl ?_;refine wp_seq_k fun K67 hK67=>?_;refine rg h66 fun ops=>?_;clear h66 a66;refine sa trivial rfl rfl ?_;refine St.nil fun a68 h68=>?_;refine hK67 _ _ ?_;refine wp_ret ?_;with_reducible repeat first | refine of_then_ret ?_ | refine of_block_ret ?_
     have GR:greatMod m:=.inr ⟨x,List.mem_of_getElem? hx1.out,.inr (.inr (.inr ⟨y,List.mem_of_getElem? hx2.out,.inr (.inl hc65)⟩))⟩;exact ret_tmp (t:=2) h68 rfl rfl ⟨by rw [bdec_true GR],hW63.bel⟩
    rw [hb] at h64;have hc69:¬ (greatTs y.params):=fun h=>by rw [bdec_true h] at hb;cases hb
    clear hb;refine St.go h64 ?_;clear h64 a64;refine sfBlock3 ⟨_,hg9,rfl,rfl⟩ rfl rfl ?_;refine sfEnd4 ⟨_,hg9,rfl,rfl⟩ rfl rfl ?_;refine sbInts 0 hW63 ⟨_,hg9,rfl,rfl⟩ rfl rfl rfl rfl ?_;refine slInts ⟨_,hg9,rfl,rfl⟩ rfl rfl ?_;refine sgt ⟨_,hg9,rfl,rfl⟩ rfl rfl rfl ?_;refine spf trivial rfl rfl rfl ?_;refine sm trivial rfl rfl ?_;intro a70 h70;rcases Bool.eq_false_or_eq_true (decide (300<(y.fin.args.length:Int))) with hb | hb
    ·rw [hb] at h70
     have hc71:300<y.fin.args.length:=by have:=of_decide_eq_true hb;omega
     clear hb;refine St.go h70 ?_;clear h70 a70;refine so hg16 rfl rfl rfl rfl ?_;refine so hg16 rfl rfl rfl rfl ?_;refine so hg16 rfl rfl rfl rfl ?_;refine so hg16 rfl rfl rfl rfl ?_;refine so hg16 rfl rfl rfl rfl ?_;refine so hg16 rfl rfl rfl rfl ?_;refine sp trivial rfl rfl rfl ?_;refine sm trivial rfl rfl ?_;refine so hg24 rfl rfl rfl rfl ?_;refine so hg24 rfl rfl rfl rfl ?_;refine so hg24 rfl rfl rfl rfl ?_;refine so hg24 rfl rfl rfl rfl ?_;refine so hg24 rfl rfl rfl rfl ?_;refine so hg24 rfl rfl rfl rfl ?_;refine sp trivial rfl rfl rfl ?_;refine sm trivial rfl rfl ?_;refine so hg32 rfl rfl rfl rfl ?_;refine so hg32 rfl rfl rfl rfl ?_;refine so hg32 rfl rfl rfl rfl ?_;refine so hg32 rfl rfl rfl rfl ?_;refine so hg32 rfl rfl rfl rfl ?_;refine so hg32 rfl rfl rfl rfl ?_;refine sp trivial rfl rfl rfl ?_;refine sm trivial rfl rfl ?_;refine so hg40 rfl rfl rfl rfl ?_;refine so hg40 rfl rfl rfl rfl ?_;refine so hg40 rfl rfl rfl rfl ?_;refine so hg40 rfl rfl rfl rfl ?_;refine so hg40 rfl rfl rfl rfl ?_;refine so hg40 rfl rfl rfl rfl ?_;refine sp trivial rfl rfl rfl ?_;refine St.nil fun a72 h72=>?_;refine hK56 _ _ ?_;refine fr_true (t:=97) h72 rfl ?_;refine wp_seq_k fun K73 hK73=>?_;refine rg h72 fun ops=>?_;clear h72 a72;refine sa trivial rfl rfl ?_;refine St.nil fun a74 h74=>?_;refine hK73 _ _ ?_;refine wp_ret ?_;with_reducible repeat first | refine of_then_ret ?_ | refine of_block_ret ?_
     have GR:greatMod m:=.inr ⟨x,List.mem_of_getElem? hx1.out,.inr (.inr (.inr ⟨y,List.mem_of_getElem? hx2.out,.inr (.inr (.inl hc71))⟩))⟩;exact ret_tmp (t:=2) h74 rfl rfl ⟨by rw [bdec_true GR],hW63.bel⟩
    rw [hb] at h70;have hc75:¬ (300<y.fin.args.length):=by have:=of_decide_eq_false hb;omega
    clear hb;refine St.go h70 ?_;clear h70 a70;refine sfBlock3 ⟨_,hg16,rfl,rfl⟩ rfl rfl ?_;refine sfEnd2 ⟨_,hg16,rfl,rfl⟩ rfl rfl ?_;refine sfTo1 ⟨_,hg16,rfl,rfl⟩ rfl rfl ?_;refine sbInts 0 hW63 ⟨_,hg16,rfl,rfl⟩ rfl rfl rfl rfl ?_;refine slInts ⟨_,hg16,rfl,rfl⟩ rfl rfl ?_;refine sgt ⟨_,hg16,rfl,rfl⟩ rfl rfl rfl ?_;refine spf trivial rfl rfl rfl ?_;refine sm trivial rfl rfl ?_;intro a76 h76;rcases Bool.eq_false_or_eq_true (decide (300<(y.fin.yes.regs.length:Int))) with hb | hb
    ·rw [hb] at h76
     have hc77:300<y.fin.yes.regs.length:=by have:=of_decide_eq_true hb;omega
     clear hb;refine St.go h76 ?_;clear h76 a76;refine so hg24 rfl rfl rfl rfl ?_;refine so hg24 rfl rfl rfl rfl ?_;refine so hg24 rfl rfl rfl rfl ?_;refine so hg24 rfl rfl rfl rfl ?_;refine so hg24 rfl rfl rfl rfl ?_;refine so hg24 rfl rfl rfl rfl ?_;refine sp trivial rfl rfl rfl ?_;refine sm trivial rfl rfl ?_;refine so hg32 rfl rfl rfl rfl ?_;refine so hg32 rfl rfl rfl rfl ?_;refine so hg32 rfl rfl rfl rfl ?_;refine so hg32 rfl rfl rfl rfl ?_;refine so hg32 rfl rfl rfl rfl ?_;refine so hg32 rfl rfl rfl rfl ?_;refine sp trivial rfl rfl rfl ?_;refine sm trivial rfl rfl ?_;refine so hg40 rfl rfl rfl rfl ?_;refine so hg40 rfl rfl rfl rfl ?_;refine so hg40 rfl rfl rfl rfl ?_;refine so hg40 rfl rfl rfl rfl ?_;refine so hg40 rfl rfl rfl rfl ?_;refine so hg40 rfl rfl rfl rfl ?_;refine sp trivial rfl rfl rfl ?_;refine St.nil fun a78 h78=>?_;refine hK56 _ _ ?_;refine fr_true (t:=97) h78 rfl ?_;refine wp_seq_k fun K79 hK79=>?_;refine rg h78 fun ops=>?_;clear h78 a78;refine sa trivial rfl rfl ?_;refine St.nil fun a80 h80=>?_;refine hK79 _ _ ?_;refine wp_ret ?_;with_reducible repeat first | refine of_then_ret ?_ | refine of_block_ret ?_
     have GR:greatMod m:=.inr ⟨x,List.mem_of_getElem? hx1.out,.inr (.inr (.inr ⟨y,List.mem_of_getElem? hx2.out,.inr (.inr (.inr (.inl hc77)))⟩))⟩;exact ret_tmp (t:=2) h80 rfl rfl ⟨by rw [bdec_true GR],hW63.bel⟩
    rw [hb] at h76;have hc81:¬ (300<y.fin.yes.regs.length):=by have:=of_decide_eq_false hb;omega
    clear hb;refine St.go h76 ?_;clear h76 a76;refine sfBlock3 ⟨_,hg24,rfl,rfl⟩ rfl rfl ?_;refine sfEnd2 ⟨_,hg24,rfl,rfl⟩ rfl rfl ?_;refine sfTo2 ⟨_,hg24,rfl,rfl⟩ rfl rfl ?_;refine sbInts 0 hW63 ⟨_,hg24,rfl,rfl⟩ rfl rfl rfl rfl ?_;refine slInts ⟨_,hg24,rfl,rfl⟩ rfl rfl ?_;refine sgt ⟨_,hg24,rfl,rfl⟩ rfl rfl rfl ?_;refine spf trivial rfl rfl rfl ?_;refine sm trivial rfl rfl ?_;intro a82 h82;rcases Bool.eq_false_or_eq_true (decide (300<(y.fin.yes.args.length:Int))) with hb | hb
    ·rw [hb] at h82
     have hc83:300<y.fin.yes.args.length:=by have:=of_decide_eq_true hb;omega
     clear hb;refine St.go h82 ?_;clear h82 a82;refine so hg32 rfl rfl rfl rfl ?_;refine so hg32 rfl rfl rfl rfl ?_;refine so hg32 rfl rfl rfl rfl ?_;refine so hg32 rfl rfl rfl rfl ?_;refine so hg32 rfl rfl rfl rfl ?_;refine so hg32 rfl rfl rfl rfl ?_;refine sp trivial rfl rfl rfl ?_;refine sm trivial rfl rfl ?_;refine so hg40 rfl rfl rfl rfl ?_;refine so hg40 rfl rfl rfl rfl ?_;refine so hg40 rfl rfl rfl rfl ?_;refine so hg40 rfl rfl rfl rfl ?_;refine so hg40 rfl rfl rfl rfl ?_;refine so hg40 rfl rfl rfl rfl ?_;refine sp trivial rfl rfl rfl ?_;refine St.nil fun a84 h84=>?_;refine hK56 _ _ ?_;refine fr_true (t:=97) h84 rfl ?_;refine wp_seq_k fun K85 hK85=>?_;refine rg h84 fun ops=>?_;clear h84 a84;refine sa trivial rfl rfl ?_;refine St.nil fun a86 h86=>?_;refine hK85 _ _ ?_;refine wp_ret ?_;with_reducible repeat first | refine of_then_ret ?_ | refine of_block_ret ?_
     have GR:greatMod m:=.inr ⟨x,List.mem_of_getElem? hx1.out,.inr (.inr (.inr ⟨y,List.mem_of_getElem? hx2.out,.inr (.inr (.inr (.inr (.inl hc83))))⟩))⟩;exact ret_tmp (t:=2) h86 rfl rfl ⟨by rw [bdec_true GR],hW63.bel⟩
    rw [hb] at h82;have hc87:¬ (300<y.fin.yes.args.length):=by have:=of_decide_eq_false hb;omega
    clear hb;refine St.go h82 ?_;clear h82 a82;refine sfBlock3 ⟨_,hg32,rfl,rfl⟩ rfl rfl ?_;refine sfEnd3 ⟨_,hg32,rfl,rfl⟩ rfl rfl ?_;refine sfTo1 ⟨_,hg32,rfl,rfl⟩ rfl rfl ?_;refine sbInts 0 hW63 ⟨_,hg32,rfl,rfl⟩ rfl rfl rfl rfl ?_;refine slInts ⟨_,hg32,rfl,rfl⟩ rfl rfl ?_;refine sgt ⟨_,hg32,rfl,rfl⟩ rfl rfl rfl ?_;refine spf trivial rfl rfl rfl ?_;refine sm trivial rfl rfl ?_;intro a88 h88;rcases Bool.eq_false_or_eq_true (decide (300<(y.fin.no.regs.length:Int))) with hb | hb
    ·rw [hb] at h88
     have hc89:300<y.fin.no.regs.length:=by have:=of_decide_eq_true hb;omega
     clear hb;refine St.go h88 ?_;clear h88 a88;refine so hg40 rfl rfl rfl rfl ?_;refine so hg40 rfl rfl rfl rfl ?_;refine so hg40 rfl rfl rfl rfl ?_;refine so hg40 rfl rfl rfl rfl ?_;refine so hg40 rfl rfl rfl rfl ?_;refine so hg40 rfl rfl rfl rfl ?_;refine sp trivial rfl rfl rfl ?_;refine St.nil fun a90 h90=>?_;refine hK56 _ _ ?_;refine fr_true (t:=97) h90 rfl ?_;refine wp_seq_k fun K91 hK91=>?_;refine rg h90 fun ops=>?_;clear h90 a90;refine sa trivial rfl rfl ?_;refine St.nil fun a92 h92=>?_;refine hK91 _ _ ?_;refine wp_ret ?_;with_reducible repeat first | refine of_then_ret ?_ | refine of_block_ret ?_
     have GR:greatMod m:=.inr ⟨x,List.mem_of_getElem? hx1.out,.inr (.inr (.inr ⟨y,List.mem_of_getElem? hx2.out,.inr (.inr (.inr (.inr (.inr (.inl hc89)))))⟩))⟩;exact ret_tmp (t:=2) h92 rfl rfl ⟨by rw [bdec_true GR],hW63.bel⟩
    rw [hb] at h88;have hc93:¬ (300<y.fin.no.regs.length):=by have:=of_decide_eq_false hb;omega
    clear hb;refine St.go h88 ?_;clear h88 a88;refine sfBlock3 ⟨_,hg40,rfl,rfl⟩ rfl rfl ?_;refine sfEnd3 ⟨_,hg40,rfl,rfl⟩ rfl rfl ?_;refine sfTo2 ⟨_,hg40,rfl,rfl⟩ rfl rfl ?_;refine sbInts 0 hW63 ⟨_,hg40,rfl,rfl⟩ rfl rfl rfl rfl ?_;refine slInts ⟨_,hg40,rfl,rfl⟩ rfl rfl ?_;refine sgt ⟨_,hg40,rfl,rfl⟩ rfl rfl rfl ?_;refine spf trivial rfl rfl rfl ?_;refine St.nil fun a94 h94=>?_;refine hK56 _ _ ?_;refine fr_cond (t:=97) h94 rfl (fun hb=>?_) (fun hb=>?_)
    ·have hc95:300<y.fin.no.args.length:=by have:=of_decide_eq_true hb;omega
     clear hb;refine wp_seq_k fun K96 hK96=>?_;refine rg h94 fun ops=>?_;clear h94 a94;refine sa trivial rfl rfl ?_;refine St.nil fun a97 h97=>?_;refine hK96 _ _ ?_;refine wp_ret ?_;with_reducible repeat first | refine of_then_ret ?_ | refine of_block_ret ?_
     have GR:greatMod m:=.inr ⟨x,List.mem_of_getElem? hx1.out,.inr (.inr (.inr ⟨y,List.mem_of_getElem? hx2.out,.inr (.inr (.inr (.inr (.inr (.inr (.inl hc95))))))⟩))⟩;exact ret_tmp (t:=2) h97 rfl rfl ⟨by rw [bdec_true GR],hW63.bel⟩
    have hc98:¬ (300<y.fin.no.args.length):=by have:=of_decide_eq_false hb;omega
    clear hb;refine wp_skip ?_;refine hK55 _ _ ?_;refine wp_seq_k fun K99 hK99=>?_;refine rg h94 fun ops=>?_;clear h94 a94;refine sa trivial rfl rfl ?_;refine St.nil fun a100 h100=>?_;refine hK99 _ _ ?_;refine wp_block ?_;refine fr_loop (fun r a w'=>∃ q3:Nat,q3≤y.code.length∧r=y.code.length - q3∧(∀ (j:Nat) z,j<q3→y.code[j]?=some z→¬ (300<z.regs.length)∧¬ (300<z.args.length))∧Fr 123 a [(0,.agg #[.slice p m.length c]),(1,.pointer (some ⟨B2,0,none⟩)),(2,.bool false),(3,.int .i64 (q1:Int)),(4,.pointer (some ⟨B20,0,none⟩)),(5,.int .i64 (q2:Int)),(6,.pointer (some ⟨B52,0,none⟩)),(7,.int .i64 (q3:Int))]∧Wd w w' [(B52,#[.int .i64 y.regs,.slice b2.pP y.params.length b2.cP,.slice b2.pC y.code.length b2.cC,.int .i64 y.fin.op,.int .i64 y.fin.a,.int .i64 y.fin.yes.block,.slice b2.e.pYR y.fin.yes.regs.length b2.e.cYR,.slice b2.e.pYA y.fin.yes.args.length b2.e.cYA,.int .i64 y.fin.no.block,.slice b2.e.pNR y.fin.no.regs.length b2.e.cNR,.slice b2.e.pNA y.fin.no.args.length b2.e.cNA,.slice b2.e.pA y.fin.args.length b2.e.cA],58),(B20,#[.int .i64 x.regs,.slice f1.pP x.params.length f1.cP,.slice f1.pR x.results.length f1.cR,.slice f1.pB x.blocks.length f1.cB],40),(B2,#[.slice p m.length c],24)]) (y.code.length) ⟨0,Nat.zero_le _,rfl,(fun j x hj=>by omega),(h100.keep (h100.keep (h100.keep (h100.keep (h100.keep (h100.keep (h100.keep (h100.keep h100.nil (t:=7) rfl) (t:=6) rfl) (t:=5) rfl) (t:=4) rfl) (t:=3) rfl) (t:=2) rfl) (t:=1) rfl) (t:=0) rfl),hW63⟩ ?_;clear h100 hW63;rintro r3 a101 w101 ⟨q3,hq3,hr3,hall3,hF101,hW101⟩ KL3 hKL3;refine wp_seq_k fun K102 hK102=>?_;refine wp_seq_k fun K103 hK103=>?_;refine rg hF101 fun ops=>?_;clear hF101 a101;refine sm trivial rfl rfl ?_;refine sfBlock2 trivial rfl rfl ?_;refine sbInss 0 hW101 trivial rfl rfl rfl rfl ?_;refine slInss trivial rfl rfl ?_;refine slt trivial rfl rfl rfl ?_;refine St.nil fun a104 h104=>?_;refine hK103 _ _ ?_;refine fr_cond (t:=102) h104 rfl (fun hb=>?_) (fun hb=>?_)
    ·have hlt3:q3<y.code.length:=by have:=of_decide_eq_true hb;omega
     clear hb;obtain ⟨z,hx3⟩:∃ v9,(y.code)[q3]?=some v9:=⟨_,List.getElem?_eq_getElem hlt3⟩;obtain ⟨g3,o3,i3,hp3,E3,In3⟩:=ins_at In2.out.code hx3;replace In3:Hid _:=In3;replace hp3:Hid _:=hp3;replace hx3:Hid _:=hx3;replace E3:Hid _:=E3;refine wp_skip ?_;refine hK102 _ _ ?_;refine wp_seq_k fun K105 hK105=>?_;refine wp_block ?_;refine wp_seq_k fun K106 hK106=>?_;refine fr_region ?_;intro ops hops;have hg8:(ops[8]?).bind (fun o:Oper=>o.dst)=some 113:=hops 8;clear hops;refine St.go h104 ?_;clear h104 a104;refine sfBlock2 trivial rfl rfl ?_;refine sbInss 0 hW101 trivial rfl rfl rfl rfl ?_;refine sm trivial rfl rfl ?_;refine siInss hp3.out hlt3 trivial rfl rfl rfl ?_;refine sfIns6 trivial rfl rfl ?_;refine scInts (bel_cell hW101.bel (E3.out 6 _ rfl)) trivial rfl rfl ?_;refine slInts trivial rfl rfl ?_;refine sgt trivial rfl rfl rfl ?_;refine sm trivial rfl rfl ?_;intro a107 h107;rcases Bool.eq_false_or_eq_true (decide (300<(z.regs.length:Int))) with hb | hb
     ·rw [hb] at h107
      have hc108:300<z.regs.length:=by have:=of_decide_eq_true hb;omega
      clear hb;refine St.go h107 ?_;clear h107 a107;refine so hg8 rfl rfl rfl rfl ?_;refine so hg8 rfl rfl rfl rfl ?_;refine so hg8 rfl rfl rfl rfl ?_;refine so hg8 rfl rfl rfl rfl ?_;refine so hg8 rfl rfl rfl rfl ?_;refine so hg8 rfl rfl rfl rfl ?_;refine so hg8 rfl rfl rfl rfl ?_;refine so hg8 rfl rfl rfl rfl ?_;refine sp trivial rfl rfl rfl ?_;refine St.nil fun a109 h109=>?_;refine hK106 _ _ ?_;refine fr_true (t:=122) h109 rfl ?_;refine wp_seq_k fun K110 hK110=>?_;refine rg h109 fun ops=>?_;clear h109 a109;refine sa trivial rfl rfl ?_;refine St.nil fun a111 h111=>?_;refine hK110 _ _ ?_;refine wp_ret ?_;with_reducible repeat first | refine of_then_ret ?_ | refine of_block_ret ?_
      have GR:greatMod m:=.inr ⟨x,List.mem_of_getElem? hx1.out,.inr (.inr (.inr ⟨y,List.mem_of_getElem? hx2.out,.inr (.inr (.inr (.inr (.inr (.inr (.inr ⟨z,List.mem_of_getElem? hx3.out,.inl hc108⟩))))))⟩))⟩;exact ret_tmp (t:=2) h111 rfl rfl ⟨by rw [bdec_true GR],hW101.bel⟩
     rw [hb] at h107;have hc112:¬ (300<z.regs.length):=by have:=of_decide_eq_false hb;omega
     clear hb;refine St.go h107 ?_;clear h107 a107;refine sfBlock2 ⟨_,hg8,rfl,rfl⟩ rfl rfl ?_;refine sbInss 0 hW101 ⟨_,hg8,rfl,rfl⟩ rfl rfl rfl rfl ?_;refine sm ⟨_,hg8,rfl,rfl⟩ rfl rfl ?_;refine siInss hp3.out hlt3 ⟨_,hg8,rfl,rfl⟩ rfl rfl rfl ?_;refine sfIns7 ⟨_,hg8,rfl,rfl⟩ rfl rfl ?_;refine scInts (bel_cell hW101.bel (E3.out 7 _ rfl)) ⟨_,hg8,rfl,rfl⟩ rfl rfl ?_;refine slInts ⟨_,hg8,rfl,rfl⟩ rfl rfl ?_;refine sgt ⟨_,hg8,rfl,rfl⟩ rfl rfl rfl ?_;refine spf trivial rfl rfl rfl ?_;refine St.nil fun a113 h113=>?_;refine hK106 _ _ ?_;refine fr_cond (t:=122) h113 rfl (fun hb=>?_) (fun hb=>?_)
     ·have hc114:300<z.args.length:=by have:=of_decide_eq_true hb;omega
      clear hb;refine wp_seq_k fun K115 hK115=>?_;refine rg h113 fun ops=>?_;clear h113 a113;refine sa trivial rfl rfl ?_;refine St.nil fun a116 h116=>?_;refine hK115 _ _ ?_;refine wp_ret ?_;with_reducible repeat first | refine of_then_ret ?_ | refine of_block_ret ?_
      have GR:greatMod m:=.inr ⟨x,List.mem_of_getElem? hx1.out,.inr (.inr (.inr ⟨y,List.mem_of_getElem? hx2.out,.inr (.inr (.inr (.inr (.inr (.inr (.inr ⟨z,List.mem_of_getElem? hx3.out,.inr hc114⟩))))))⟩))⟩;exact ret_tmp (t:=2) h116 rfl rfl ⟨by rw [bdec_true GR],hW101.bel⟩
     have hc117:¬ (300<z.args.length):=by have:=of_decide_eq_false hb;omega
     clear hb;refine wp_skip ?_;refine hK105 _ _ ?_;refine rg h113 fun ops=>?_;clear h113 a113;refine sm trivial rfl rfl ?_;refine sad (by omega) trivial rfl rfl rfl ?_;refine sa trivial rfl rfl ?_;refine St.nil fun a118 h118=>?_;refine hKL3 _ _ (y.code.length - (q3+1)) (by omega) ⟨q3+1,by omega,rfl,?_,(h118.keep (h118.keep (h118.keep (h118.keep (h118.keep (h118.keep (h118.keep (h118.keep h118.nil (t:=7) rfl) (t:=6) rfl) (t:=5) rfl) (t:=4) rfl) (t:=3) rfl) (t:=2) rfl) (t:=1) rfl) (t:=0) rfl),hW101⟩
     ·intro j y hj hy
      by_cases e:j=q3
      · subst e;rw [hx3.out] at hy;cases hy;exact ⟨hc112,hc117⟩
      · exact hall3 j y (by omega) hy
    have hge3:q3=y.code.length:=by have:=of_decide_eq_false hb;omega
    clear hb
    have NG2:¬ y.great:=by
      rintro (h | h | h | h | h | h | h | ⟨z,hz,h⟩)
      · exact absurd h hc62
      · exact absurd h hc69
      · exact absurd h hc75
      · exact absurd h hc81
      · exact absurd h hc87
      · exact absurd h hc93
      · exact absurd h hc98
      · obtain ⟨i,hi,rfl⟩:=List.mem_iff_getElem.1 hz
        have:=hall3 i _ (by omega) (List.getElem?_eq_getElem hi)
        omega
    refine wp_exit ?_;refine hK50 _ _ ?_;refine rg h104 fun ops=>?_;clear h104 a104;refine sm trivial rfl rfl ?_;refine sad (by omega) trivial rfl rfl rfl ?_;refine sa trivial rfl rfl ?_;refine St.nil fun a119 h119=>?_;refine hKL2 _ _ (x.blocks.length - (q2+1)) (by omega) ⟨q2+1,by omega,rfl,?_,(h119.keep (h119.keep (h119.keep (h119.keep (h119.keep (h119.keep h119.nil (t:=5) rfl) (t:=4) rfl) (t:=3) rfl) (t:=2) rfl) (t:=1) rfl) (t:=0) rfl),hW101.tail⟩
    ·intro j y hj hy
     by_cases e:j=q2
     · subst e;rw [hx2.out] at hy;cases hy;exact NG2
     · exact hall2 j y (by omega) hy
   have hge2:q2=x.blocks.length:=by have:=of_decide_eq_false hb;omega
   clear hb
   have NG1:¬ x.great:=by
     rintro (h | h | h | ⟨y,hy,h⟩)
     · exact absurd h hc30
     · exact absurd h hc37
     · exact absurd h hc43
     · obtain ⟨i,hi,rfl⟩:=List.mem_iff_getElem.1 hy;exact hall2 i _ (by omega) (List.getElem?_eq_getElem hi) h
   refine wp_exit ?_;refine hK18 _ _ ?_;refine rg h49 fun ops=>?_;clear h49 a49;refine sm trivial rfl rfl ?_;refine sad (by omega) trivial rfl rfl rfl ?_;refine sa trivial rfl rfl ?_;refine St.nil fun a120 h120=>?_;refine hKL1 _ _ (m.length - (q1+1)) (by omega) ⟨q1+1,by omega,rfl,?_,(h120.keep (h120.keep (h120.keep (h120.keep h120.nil (t:=3) rfl) (t:=2) rfl) (t:=1) rfl) (t:=0) rfl),hW46.tail⟩
   ·intro j y hj hy
    by_cases e:j=q1
    · subst e;rw [hx1.out] at hy;cases hy;exact NG1
    · exact hall1 j y (by omega) hy
  have hge1:q1=m.length:=by have:=of_decide_eq_false hb;omega
  clear hb;refine wp_exit ?_;refine hK11 _ _ ?_;refine wp_seq_k fun K121 hK121=>?_;refine rg h17 fun ops=>?_;clear h17 a17;refine sa trivial rfl rfl ?_;refine St.nil fun a122 h122=>?_;refine hK121 _ _ ?_;refine wp_ret ?_;with_reducible repeat first | refine of_then_ret ?_ | refine of_block_ret ?_
  have GR:¬ greatMod m:=by
    rintro (h | ⟨x,hx,h⟩)
    · omega
    · obtain ⟨i,hi,rfl⟩:=List.mem_iff_getElem.1 hx;exact hall1 i _ (by omega) (List.getElem?_eq_getElem hi) h
  exact ret_tmp (t:=2) h122 rfl rfl ⟨by rw [bdec_false GR],hW14.bel⟩
theorem jgrows_no {n : Nat} {w : World} {m : List (MFunc n)} {p a1 : Option Addr} {c N c1 : Nat} (f b : Int) (hm : (modL n).In w All m [.slice p m.length c]) (hno : greatMod m ∨ 150 < (N : Int) ∨ (modFault m).1 ≠ 0) :
    Calls Tryz.prog 3 #[.agg #[.slice p m.length c],.int .i64 f,.int .i64 b,.slice a1 N c1] w fun e w'=>e=.returned (.bool true)∧Below w.heap.size w w':=by
  have b1:=bel1 w (.cells #[.slice p m.length c] 24);have HM:Hid ((modL n).In w All m [.slice p m.length c]):=hm;have HB:=hid_of b1;have x0:=cellOf (blockNew w #[.slice p m.length c] 24) 0 _ rfl;have HNO:=hid_of hno;clear hm b1 hno;go_enter Tryz.func3,Tryz.ntmps3
  go_upto_region 1 with fail
  generalize hw1:w.alloc (.cells #[.slice p m.length c] 24)=w1 at HB x0 ⊢;clear hw1;obtain ⟨X,hX⟩:∃ X,w.heap.size=X:=⟨_,rfl⟩;rw [hX] at x0 ⊢;rw [← hX];have HXE:=hid_of hX;go_wp2_with fail
  refine (judgeBegun_any w1).mono ?_;rintro e2 w2 ⟨rfl,b2⟩;have HB2:=hid_of (HB.out.trans (b2.mono HB.out.size));have x2:=stay x0 b2;clear x0 b2 HB;have CG:=hid_of (greatModule_any n m p c w2 (Lay.below HM.out HB2.out));unfold Rd at CG;rw [HXE.out];by_cases hg:greatMod m
  · rw [bdec_true hg] at CG;go_wp2_with fail
    refine CG.out.mono ?_;rintro e3 w3 ⟨rfl,b3⟩;have HB3:=hid_of (HB2.out.trans (b3.mono HB2.out.size));clear b3 CG;go_wp2_with fail
    go_ret;exact ⟨rfl,by first | exact HB3.out | (rw [← HXE.out];exact HB3.out)⟩
  rw [bdec_false hg] at CG;by_cases hn:150<(N:Int)
  · have hn':decide ((N:Int) > 150)=true:=decide_eq_true hn;go_wp2_with fail
    refine CG.out.mono ?_;rintro e3 w3 ⟨rfl,b3⟩;have HB3:=hid_of (HB2.out.trans (b3.mono HB2.out.size));clear b3 CG;go_wp2_with fail
    go_ret;exact ⟨rfl,by first | exact HB3.out | (rw [← HXE.out];exact HB3.out)⟩
  have hn':decide ((N:Int) > 150)=false:=decide_eq_false hn
  have hf:(modFault m).1≠0:=by
    rcases HNO.out with h | h | h
    · exact absurd h hg
    · exact absurd h hn
    · exact h
  have hf':((modFault m).1 != 0)=true:=by simpa using hf
  go_wp2_with fail
  refine CG.out.mono ?_;rintro e3 w3 ⟨rfl,b3⟩;have HB3:=hid_of (HB2.out.trans (b3.mono HB2.out.size));have x3:=stay x2 b3;clear b3 CG x2 HB2;have CN:=hid_of (snew_fault f b hg hf (Lay.below HM.out HB3.out));go_wp2_with fail
  refine CN.out.mono ?_;rintro e4 w4 ⟨rfl,b4⟩;have HB4:=hid_of (HB3.out.trans (b4.mono HB3.out.size));have HB5:=hid_of (HB4.out.trans ((bel1 w4 (.cells #[.int .i64 (modFault m).1,.int .i64 (modFault m).2] 30)).mono HB4.out.size));clear b4 CN x3 HB3;generalize modFault m=mf at hf' HB5 ⊢;obtain ⟨mc,ma⟩:=mf;simp only at hf' HB5 ⊢
  go_wp2_with fail
  go_ret;exact ⟨rfl,by first | exact HB5.out | (rw [← HXE.out];exact HB5.out)⟩
def jg11E (w6 : World) (B hh : Nat) (s : JSt) (t : Tmp) (v : Value) (w : World) : Prop :=
  match ([(45,fun v w=>∃ a c,v=.slice a s.L.length c∧s.L.length≤c∧LIn w (fun g=>w6.heap.size≤g) s.L a),(50,fun v w=>∃ a c,v=.slice a (hList s.H).length c∧intsL.In w (fun g=>w6.heap.size≤g) (hList s.H) [.slice a (hList s.H).length c]),(12,fun v w=>∃ a c,v=.slice a s.L.length c∧s.L.length≤c∧LIn w (fun g=>w6.heap.size≤g) s.L a),(13,fun v w=>∃ a c,v=.slice a (hList s.H).length c∧intsL.In w (fun g=>w6.heap.size≤g) (hList s.H) [.slice a (hList s.H).length c])]:List (Tmp × (Value→World→Prop))).lookup t with
  | some p=>p v w
  | none=>v=(([(9,.pointer (some ⟨B,0,none⟩)),(44,.pointer (some ⟨B,0,none⟩)),(46,.pointer (some ⟨B,0,none⟩)),(47,.pointer (some ⟨B,0,none⟩)),(48,.pointer (some ⟨B,1,none⟩)),(49,.pointer (some ⟨hh,0,none⟩)),(51,.pointer (some ⟨B,0,none⟩)),(52,.pointer (some ⟨B,0,none⟩)),(53,.pointer (some ⟨B,1,none⟩)),(54,.pointer (some ⟨hh,0,none⟩)),(55,.int .i64 (s.H.length:Int)),(14,.int .i64 (s.H.length:Int))]:List (Tmp × Value)).lookup t).getD undef
theorem jg11 {w6 : World} {B hh B0 : Nat} {s : JSt} (q1 : w6.cell? ⟨B, 1, none⟩ = some (.pointer (some ⟨hh, 0, none⟩))) (HS : Hid (SOk w6 B B0 s)) (HH : Hid (HeldAt w6 hh s.H))
    (a:Act) (m:Nat) (hn:a.tmps.size=m) (hn':202≤m) (h9:a.tmps.getD 9 undef=.pointer (some ⟨B,0,none⟩)) :
    Code.wp Tryz.prog ((Tryz.f3.body.bind (hRegionOf 11)).getD .skip) (fun e a' w'=>e=.normal∧∃ vs,a'=puts a vs [44,45,46,47,48,49,50,51,52,53,54,55,12,13,14]∧(fun v w=>∃ a c,v=.slice a s.L.length c∧s.L.length≤c∧LIn w (fun g=>w6.heap.size≤g) s.L a) (vs 12) w'∧(fun v w=>∃ a c,v=.slice a (hList s.H).length c∧intsL.In w (fun g=>w6.heap.size≤g) (hList s.H) [.slice a (hList s.H).length c]) (vs 13) w'∧vs 14=.int .i64 (s.H.length:Int)∧Below w6.heap.size w6 w') a w6:=by
  conv=>arg 2;whnf
  refine wp_region_calm (jg11E w6 B hh s) (fun w=>Below w6.heap.size w6 w) (fun w w'=>Below w.heap.size w w') (outs:=[9]) (gs:=[]) (bs:=[true,true,true,true,true,true,true,true,true,true,true,true,true,true,true]) (by kernel_rfl) (n:=202) hn hn' (by kernel_rfl) ?hR ?hG (hbelowN (Below.refl _ _) 1) ⟨h9,trivial⟩ ?hA ?hend
  case hR =>
    intro t v w w' hr h;unfold jg11E at h ⊢;split at h
    · rename_i p hp
      simp only [List.lookup_cons,List.lookup_nil] at hp;split at hp
      · cases hp;exact (by obtain ⟨a,c,e,h1,h2⟩:=h;exact ⟨a,c,e,h1,h2.below hr⟩)
      · split at hp
        · cases hp;exact (by obtain ⟨a,c,e,h1⟩:=h;exact ⟨a,c,e,Lay.below h1 hr⟩)
        · split at hp
          · cases hp;exact (by obtain ⟨a,c,e,h1,h2⟩:=h;exact ⟨a,c,e,h1,h2.below hr⟩)
          · split at hp
            · cases hp;exact (by obtain ⟨a,c,e,h1⟩:=h;exact ⟨a,c,e,Lay.below h1 hr⟩)
            · cases hp
    · exact h
  case hG=>exact trivial
  case hend=>exact fun vs w' hW hk=>⟨rfl,vs,rfl,hk 12 (by kernel_rfl),hk 13 (by kernel_rfl),hk 14 (by kernel_rfl),hW⟩
  case hA =>
    refine ⟨fun a w hW hk K hK=>?_,?_⟩
    · obtain ⟨k0,-⟩:=hk;have k0:a.tmps.getD 9 undef=.pointer (some ⟨B,0,none⟩):=k0;go_simp;exact hK _ _ (Below.refl _ _) hW rfl
    refine ⟨fun a w hW hk K hK=>?_,?_⟩
    · obtain ⟨k0,-⟩:=hk;have k0:a.tmps.getD 44 undef=.pointer (some ⟨B,0,none⟩):=k0;go_simp;refine Calls.mono (HS.out.below hW).types ?_;rintro r7 w7 ⟨a7,c7,rfl,g1,g2,b7⟩;go_simp;exact hK _ _ b7 (hW.trans (b7.mono hW.size)) ⟨a7,c7,rfl,g1,g2.mono (fun k hk _=>Nat.le_trans hW.size hk)⟩
    refine ⟨fun a w hW hk K hK=>?_,?_⟩
    · obtain ⟨k0,-⟩:=hk;have k0:a.tmps.getD 9 undef=.pointer (some ⟨B,0,none⟩):=k0;go_simp;exact hK _ _ (Below.refl _ _) hW rfl
    refine ⟨fun a w hW hk K hK=>?_,?_⟩
    · obtain ⟨k0,-⟩:=hk;have k0:a.tmps.getD 46 undef=.pointer (some ⟨B,0,none⟩):=k0;go_simp;exact hK _ _ (Below.refl _ _) hW rfl
    refine ⟨fun a w hW hk K hK=>?_,?_⟩
    · obtain ⟨k0,-⟩:=hk;have k0:a.tmps.getD 47 undef=.pointer (some ⟨B,0,none⟩):=k0;go_simp;exact hK _ _ (Below.refl _ _) hW rfl
    refine ⟨fun a w hW hk K hK=>?_,?_⟩
    · obtain ⟨k0,-⟩:=hk;have k0:a.tmps.getD 48 undef=.pointer (some ⟨B,1,none⟩):=k0;have c0:=stay q1 hW;go_simp;exact hK _ _ (Below.refl _ _) hW rfl
    refine ⟨fun a w hW hk K hK=>?_,?_⟩
    · obtain ⟨k0,-⟩:=hk;have k0:a.tmps.getD 49 undef=.pointer (some ⟨hh,0,none⟩):=k0;go_simp;refine Calls.mono (held_list (HH.out.below hW)) ?_;rintro r7 w7 ⟨a7,c7,rfl,g1,b7⟩;go_simp;exact hK _ _ b7 (hW.trans (b7.mono hW.size)) ⟨a7,c7,rfl,Lay.mono g1 (fun k hk _=>Nat.le_trans hW.size hk)⟩
    refine ⟨fun a w hW hk K hK=>?_,?_⟩
    · obtain ⟨k0,-⟩:=hk;have k0:a.tmps.getD 9 undef=.pointer (some ⟨B,0,none⟩):=k0;go_simp;exact hK _ _ (Below.refl _ _) hW rfl
    refine ⟨fun a w hW hk K hK=>?_,?_⟩
    · obtain ⟨k0,-⟩:=hk;have k0:a.tmps.getD 51 undef=.pointer (some ⟨B,0,none⟩):=k0;go_simp;exact hK _ _ (Below.refl _ _) hW rfl
    refine ⟨fun a w hW hk K hK=>?_,?_⟩
    · obtain ⟨k0,-⟩:=hk;have k0:a.tmps.getD 52 undef=.pointer (some ⟨B,0,none⟩):=k0;go_simp;exact hK _ _ (Below.refl _ _) hW rfl
    refine ⟨fun a w hW hk K hK=>?_,?_⟩
    · obtain ⟨k0,-⟩:=hk;have k0:a.tmps.getD 53 undef=.pointer (some ⟨B,1,none⟩):=k0;have c0:=stay q1 hW;go_simp;exact hK _ _ (Below.refl _ _) hW rfl
    refine ⟨fun a w hW hk K hK=>?_,?_⟩
    · obtain ⟨k0,-⟩:=hk;have k0:a.tmps.getD 54 undef=.pointer (some ⟨hh,0,none⟩):=k0;go_simp;refine Calls.mono (held_len (HH.out.below hW)) ?_;rintro r7 w7 ⟨rfl,hw7⟩;subst hw7;go_simp;exact hK _ _ (Below.refl _ _) hW rfl
    refine ⟨fun a w hW hk K hK=>?_,?_⟩
    · obtain ⟨k0,-⟩:=hk;have k0:(fun v w=>∃ a c,v=.slice a s.L.length c∧s.L.length≤c∧LIn w (fun g=>w6.heap.size≤g) s.L a) (a.tmps.getD 45 undef) w:=k0;generalize k0e:a.tmps.getD 45 undef=uk0 at k0;obtain ⟨a7,c7,rfl,g1,g2⟩:=k0;go_simp;exact hK _ _ (Below.refl _ _) hW ⟨a7,c7,rfl,g1,g2⟩
    refine ⟨fun a w hW hk K hK=>?_,?_⟩
    · obtain ⟨k0,-⟩:=hk;have k0:(fun v w=>∃ a c,v=.slice a (hList s.H).length c∧intsL.In w (fun g=>w6.heap.size≤g) (hList s.H) [.slice a (hList s.H).length c]) (a.tmps.getD 50 undef) w:=k0;generalize k0e:a.tmps.getD 50 undef=uk0 at k0;obtain ⟨a7,c7,rfl,g1⟩:=k0;go_simp;exact hK _ _ (Below.refl _ _) hW ⟨a7,c7,rfl,g1⟩
    refine ⟨fun a w hW hk K hK=>?_,?_⟩
    · obtain ⟨k0,-⟩:=hk;have k0:a.tmps.getD 55 undef=.int .i64 (s.H.length:Int):=k0;go_simp;exact hK _ _ (Below.refl _ _) hW rfl
    trivial
theorem LIn.take {w : World} {Q : Nat → Prop} {n : Nat} {l : List (TT n)} {a : Option Addr} (h : LIn w Q l a) (k : Nat) : LIn w Q (l.take k) a := fun i x hx => h i x (by
  show l[i]?=some x;have hx:(l.take k)[i]?=some x:=hx;rw [List.getElem?_take] at hx;split at hx
  · exact hx
  · cases hx)
theorem ins_L {s : JSt} {x : MIns} : (s.ins x).L.take s.L.length = s.L ∧ s.L.length ≤ (s.ins x).L.length := by
  unfold JSt.ins;split
  · unfold JSt.next
    simp
  · simp
theorem wpList_append_liesG {P : Program} {w : World} {ops : Array Oper} {rest : List Oper} {o : Oper} {a : Act} {Q : Exit → Act → World → Prop} (hw : Region.wanted o (yielded ops a.tmps) = true) (s x : Operand) (t : TypeId)
    (ho:o.op=.call { callee:=.builtin .append,args:=#[s,x],argTypes:=#[t,t] })
    (base:Nat) (e:TypeId) (i:TypeInfo) (z:Value) (size bytes:Nat) (ht:P.underlying t=some (.slice e)) (hi:P.info? e=some i) (hz:i.zero=some z)
    (hsize:i.size=size) (hby:i.bytes=bytes) (hzs:z.cells.size=size) (hsz:0<size)
    (v:Value) (n:Nat) (xs:List Value) (hs:a.eval s=v) (hown:w.ownsRow base e size v n xs)
    (ad:Addr) (m c:Nat) (news:List Value) (hx:a.eval x=.slice (some ad) m c) (hl:news.length=m*size) (hnews:∀ j u,news[j]?=some u→w.cell? (ad.add j)=some u) (h1:∀ u∈news,u.oneCell'=true)
    (hm:0<m) (h63:n+m≤maxLen) (hbytes:(n+m)*bytes≤140737488355328) (hbase:base≤w.heap.size) (H:Nat) (hH:w.heap.size=H)
    (h:∀ g cap w',w'.ownsRow base e size (.slice (some ⟨g,0,none⟩) (n+m) cap) (n+m) (xs++news)→w.grownBy w' v.ownBlock→(v.ownBlock=some g∨g=H)→g<w'.heap.size→wpList P ops Q rest (a.put o.dst (.slice (some ⟨g,0,none⟩) (n+m) cap)) w'):wpList P ops Q (o::rest) a w :=
  wpList_step fun K hK=>by
    rw [if_pos hw];exact wp_append_lies w s x t ho base e i z size bytes ht hi hz hsize hby hzs hsz v n xs hs hown ad m c news hx hl hnews h1 hm h63 hbytes hbase H hH fun g cap w' h2 h3 h4 h5=>hK _ _ (h g cap w' h2 h3 h4 h5)
theorem wpList_append_noG {P : Program} {w : World} {ops : Array Oper} {rest : List Oper} {o : Oper} {a : Act} {Q : Exit → Act → World → Prop} (hw : Region.wanted o (yielded ops a.tmps) = true) (s x : Operand) (t : TypeId)
    (ho:o.op=.call { callee:=.builtin .append,args:=#[s,x],argTypes:=#[t,t] }) (v vx:Value) (hs:a.eval s=v) (hx:a.eval x=vx) (hrun:(Builtin.append_ #[t,t] o.type #[v,vx]).run P w=.ok v w)
    (h:wpList P ops Q rest (a.put o.dst v) w):wpList P ops Q (o::rest) a w:=by
  refine wpList_step fun K hK=>?_;rw [if_pos hw];unfold Oper.wp;simp [execOp,ho,resolve,invoke,builtin,hs,hx,hrun,Result.andThen];exact hK _ _ h
structure GrS (w w4 : World) (B T T2 : Nat) (s s' : JSt) (ta la ua : Option Addr) (tc lc uc : Nat) : Prop where
  st:SOk w4 B w.heap.size s'
  bel:Below w.heap.size w w4
  types:LIn w4 All s.L ta
  list:intsL.In w4 (fun g=>T≤g∧g<T2) (hList s.H) [.slice la (hList s.H).length lc]
  more:LIn w4 All s'.L ua
  cap:s'.L.length≤uc
theorem GrS.below {w w4 w' : World} {B T T2 : Nat} {s s' : JSt} {ta la ua : Option Addr} {tc lc uc : Nat} (h : GrS w w4 B T T2 s s' ta la ua tc lc uc) (k : Below w4.heap.size w4 w') : GrS w w' B T T2 s s' ta la ua tc lc uc :=
  ⟨h.st.below k,h.bel.trans (k.mono h.bel.size),h.types.below k,Lay.below h.list k,h.more.below k,h.cap⟩
theorem jgrows_any {w : World} {m : List (MFunc 6)} {p a1 : Option Addr} {c N c1 : Nat} {l : List MIns} (f b : Int) (hN : l.length = N) (hN150 : ¬ 150 < (N : Int)) (hng : ¬ greatMod m) (hm : (modL 6).In w All m [.slice p m.length c]) (hl : insC.list.In w All l [.slice a1 N c1]) :
    Calls Tryz.prog 3 #[.agg #[.slice p m.length c],.int .i64 f,.int .i64 b,.slice a1 N c1] w fun e w'=>e=.returned (.bool true)∧Below w.heap.size w w':=by
  have b1:=bel1 w (.cells #[.slice p m.length c] 24);have HM:Hid ((modL 6).In w All m [.slice p m.length c]):=hm;have HL:Hid (insC.list.In w All l [.slice a1 N c1]):=hl;have HN:=hid_of hN;have HNG:=hid_of hng;have HB:=hid_of b1;have x0:=cellOf (blockNew w #[.slice p m.length c] 24) 0 _ rfl;have hn':decide ((N:Int) > 150)=false:=decide_eq_false hN150;have hN1:N≤150:=by omega
  clear hm b1 hl hN hng hN150;go_enter Tryz.func3,Tryz.ntmps3
  go_upto_region 1 with fail
  generalize hw1:w.alloc (.cells #[.slice p m.length c] 24)=w1 at HB x0 ⊢;clear hw1;obtain ⟨X,hX⟩:∃ X,X=w.heap.size:=⟨_,rfl⟩;rw [← hX] at x0 ⊢;have HXE:=hid_of hX;clear hX;go_wp2_with fail
  refine (judgeBegun_any w1).mono ?_;rintro e2 w2 ⟨rfl,b2⟩;have HB2:=hid_of (HB.out.trans (b2.mono HB.out.size));have x2:=stay x0 b2;clear x0 b2 HB;have CG:=hid_of (greatModule_any 6 m p c w2 (Lay.below HM.out HB2.out));unfold Rd at CG;rw [bdec_false HNG.out] at CG;go_wp2_with fail
  refine CG.out.mono ?_;rintro e3 w3 ⟨rfl,b3⟩;have HB3:=hid_of (HB2.out.trans (b3.mono HB2.out.size));have x3:=stay x2 b3;clear b3 CG x2 HB2;have CN:=hid_of (snew_any f b HNG.out (Lay.below HM.out HB3.out));go_wp2_with fail
  refine CN.out.mono ?_;rintro e4 w4 ⟨b4,hN4⟩;have HB4:=hid_of (HB3.out.trans (b4.mono HB3.out.size));have hs3:=HB3.out.size;clear b4 CN x3;rcases hN4 with ⟨hf,rfl⟩ | ⟨-,-,rfl⟩ | ⟨hf0,-,i,j,fn,g,B,O,A,-,-,hfn,hgb,rfl,hS,hA⟩
  · have hf':((modFault m).1 != 0)=true:=by simpa using hf
    have HB5:=hid_of (HB4.out.trans ((bel1 w4 (.cells #[.int .i64 (modFault m).1,.int .i64 (modFault m).2] 30)).mono HB4.out.size));clear hf HB4 HB3;generalize modFault m=mf at hf' HB5 ⊢;obtain ⟨mc,ma⟩:=mf;simp only at hf' HB5 ⊢
    go_wp2_with fail
    go_ret;exact ⟨rfl,HB5.out⟩
  · have HB5:=hid_of (HB4.out.trans ((bel1 w4 (.cells #[.int .i64 1,.int .i64 (-1)] 30)).mono HB4.out.size));clear HB4 HB3;go_wp2_with fail
    go_ret;exact ⟨rfl,HB5.out⟩
  have b5:=bel1 w4 (.cells #[.int .i64 0,.int .i64 0] 30)
  have S5:Hid (SOk (w4.alloc (.cells #[.int .i64 0,.int .i64 0] 30)) B w.heap.size (JSt.start m fn g)) :=
    SOk.below ⟨O,A,hS,fun k hk=>⟨Nat.le_trans hs3 (hA k hk).1,(hA k hk).2⟩,JOk.start hf0 HNG.out (List.mem_of_getElem? hfn) (List.mem_of_getElem? hgb)⟩ b5
  have HB5:=hid_of (HB4.out.trans (b5.mono HB4.out.size));have y5:=cellOf (blockNew w4 #[.int .i64 0,.int .i64 0] 30) 0 _ rfl;clear hf0 hfn hgb hS hA b5 HB4 HB3 hs3;go_upto_region 6 with fail
  generalize hw5:w4.alloc (.cells #[.int .i64 0,.int .i64 0] 30)=w5 at S5 HB5 y5 ⊢;clear hw5;generalize JSt.start m fn g=s0 at S5;go_wp2
  go_loopw [11] (fun i wr=>∃ k:Nat,k≤N∧i=.int .i64 k∧(∃ s,SOk wr B w.heap.size s)∧Below w.heap.size w wr) (fun i _=>N - (intOf i).toNat)
  case atStart=>exact ⟨0,Nat.zero_le _,rfl,⟨s0,S5.out⟩,HB5.out⟩
  case round =>
    clear S5 HB5 y5;obtain ⟨k,hk,rfl,⟨s,hs⟩,hB⟩:=hrel;have HB:=hid_of hB;have S1:=hid_of hs;clear hB hs;by_cases hlt:k<N
    rotate_left
    · have hlt':¬ (k:Int)<N:=by omega
      go_wp2
      go_ret;exact ⟨rfl,HB.out⟩
    have hlt':(k:Int)<N:=by omega
    have hk2:k<l.length:=by rw [HN.out];exact hlt
    obtain ⟨x,hxk⟩:∃ x,l[k]?=some x:=⟨_,List.getElem?_eq_getElem hk2⟩;obtain ⟨g1,o1,ds,rfl,-,hg1,hcs,hx⟩:=Lay.list_at HL.out hxk;have hrng:=ins_rngC hx;obtain ⟨rg,rc,ag,ac,rfl,hrg,hag,hcp,-⟩:=ins_formC hx;have v0:wr.cell? ⟨g1,o1+k*8,none⟩=some (.int .i64 x.op):=stay (show w.cell? ⟨g1,o1+k*8,none⟩=some (.int .i64 x.op) from hcs 0 (by decide)) HB.out;have v1:wr.cell? ⟨g1,o1+k*8+1,none⟩=some (.int .i64 x.a):=stay (show w.cell? ⟨g1,o1+k*8+1,none⟩=some (.int .i64 x.a) from hcs 1 (by decide)) HB.out;have v2:wr.cell? ⟨g1,o1+k*8+2,none⟩=some (.int .i64 x.b):=stay (show w.cell? ⟨g1,o1+k*8+2,none⟩=some (.int .i64 x.b) from hcs 2 (by decide)) HB.out;have v3:wr.cell? ⟨g1,o1+k*8+3,none⟩=some (.int .i64 x.c):=stay (show w.cell? ⟨g1,o1+k*8+3,none⟩=some (.int .i64 x.c) from hcs 3 (by decide)) HB.out;have v4:wr.cell? ⟨g1,o1+k*8+4,none⟩=some (.int .i64 x.k):=stay (show w.cell? ⟨g1,o1+k*8+4,none⟩=some (.int .i64 x.k) from hcs 4 (by decide)) HB.out;have v5:wr.cell? ⟨g1,o1+k*8+5,none⟩=some (.int .i64 x.n):=stay (show w.cell? ⟨g1,o1+k*8+5,none⟩=some (.int .i64 x.n) from hcs 5 (by decide)) HB.out;have v6:wr.cell? ⟨g1,o1+k*8+6,none⟩=some (.slice rg x.regs.length rc):=stay (show w.cell? ⟨g1,o1+k*8+6,none⟩=some (.slice rg x.regs.length rc) from hcs 6 (by decide)) HB.out;have v7:wr.cell? ⟨g1,o1+k*8+7,none⟩=some (.slice ag x.args.length ac):=stay (show w.cell? ⟨g1,o1+k*8+7,none⟩=some (.slice ag x.args.length ac) from hcs 7 (by decide)) HB.out;have HV:Hid (w.cell? ⟨g1,o1+k*8,none⟩=some (.int .i64 x.op)):=hcs 0 (by decide);have HRG:Hid (intsL.In w (fun g=>g<w.heap.size) x.regs [.slice rg x.regs.length rc]):=Lay.mono hrg (fun k _ hl=>hl);have HAG:Hid (intsL.In w (fun g=>g<w.heap.size) x.args [.slice ag x.args.length ac]):=Lay.mono hag (fun k _ hl=>hl);have HCP:=hid_of hcp;have HRN:=hid_of hrng;obtain ⟨hh,q1,hheld⟩:=S1.out.held;have hJ:=S1.out.ok;have hL80:=hJ.vals;have hH16:=hJ.regs;have HJ:=hid_of hJ;clear hk2 hxk hcs hx hrg hag hcp hrng hJ;go_upto_region 11 with fail
    refine Code.wp_mono ?_ (jg11 q1 S1 (hid_of hheld) _ _ rfl (Nat.le_of_ble_eq_true (by kernel_rfl)) rfl);rintro ee aa w2 ⟨rfl,vs,rfl,⟨ta,tc,hv12,-,hty⟩,⟨la,lc,hv13,hli⟩,hv14,b2⟩;simp only [puts,Act.put,List.setIfInBounds_toArray,List.set_cons_zero,List.set_cons_succ,hv12,hv13,hv14];have Z2:=hid_of (S1.out.fence b2);have HB2:=hid_of (HB.out.trans (b2.mono HB.out.size));have HTY:Hid (LIn w2 (fun g=>wr.heap.size≤g∧g<w2.heap.size) s.L ta):=hty.mono (fun k hk hl=>⟨hk,hl⟩);have HLI:Hid (intsL.In w2 (fun g=>wr.heap.size≤g∧g<w2.heap.size) (hList s.H) [.slice la (hList s.H).length lc]):=Lay.mono hli (fun k hk hl=>⟨hk,hl⟩);have v0:=stay v0 b2;have v1:=stay v1 b2;have v2:=stay v2 b2;have v3:=stay v3 b2;have v4:=stay v4 b2;have v5:=stay v5 b2;have v6:=stay v6 b2;have v7:=stay v7 b2;have CI:=hid_of (Z2.out.ins HB2.out.size (Lay.lt HRG.out HB2.out) (Lay.lt HAG.out HB2.out) HCP.out HRN.out);clear hheld q1 hty hli b2 hv12 hv13 hv14 S1 HB;go_wp2_with fail
    refine CI.out.mono ?_;rintro e3 w3 ⟨rfl,hs3,hleft⟩;have HB3:=hid_of (HB2.out.trans hleft.bel);have HTY3:=hid_of (hleft.tin HTY.out);have HLI3:Hid (intsL.In w3 (fun g=>wr.heap.size≤g∧g<w2.heap.size) (hList s.H) [.slice la (hList s.H).length lc]):=intsL.keep (fun k hk _=>hleft.top k hk.1 hk.2) (fun _ h _=>h) HLI.out;have S3:=hid_of hs3.one;clear hs3 hleft CI HTY HLI Z2 HB2 v0 v1 v2 v3 v4 v5 v6 v7;have CT:=hid_of S3.out.types;go_wp2_with fail
    refine CT.out.mono ?_;rintro e4 w4 ⟨ua,uc,rfl,huc,hu,b4⟩;have Z4:Hid (GrS w w4 B wr.heap.size w2.heap.size s (s.ins x) ta la ua tc lc uc):=⟨S3.out.below b4,HB3.out.trans (b4.mono HB3.out.size),(HTY3.out.below b4).all,Lay.below HLI3.out b4,hu.all,huc⟩;clear hu huc b4 CT HTY3 HLI3 S3 HB3;have hJ':=HJ.out.ins x;have hU80:=hJ'.vals;have hH16':=hJ'.regs;have hLle:=(ins_L (s:=s) (x:=x)).2
    have CS:Hid (Calls Tryz.prog 11 #[.slice ua s.L.length uc,.slice ta s.L.length tc] w4 fun e w'=>e=.returned (.bool true)∧Below w4.heap.size w4 w'):=by
      have hlen:((s.ins x).L.take s.L.length).length=s.L.length:=by rw [List.length_take];omega
      have h:=sames_any 6 (samet_any 6) ((s.ins x).L.take s.L.length) s.L ua ta uc tc w4 (Z4.out.more.take _) Z4.out.types (by omega) (fun y hy=>Nat.le_trans (check_count (hJ'.types y (List.mem_of_mem_take hy))) (by omega));rw [hlen] at h;refine h.mono ?_;rintro e w' ⟨⟨q,rfl,hq⟩,hb⟩
      have:q=true:=hq.2 ins_L.1
      exact ⟨by rw [this],hb⟩
    have hcap:=Z4.out.cap;have hnn:¬ ((s.ins x).L.length:Int) - s.L.length<0:=by omega
    have h80:¬ ((s.ins x).L.length:Int) > 80:=by omega
    have hcu:s.L.length≤uc:=by omega
    obtain ⟨nU,hnU⟩:∃ nU,(s.ins x).L.length=nU:=⟨_,rfl⟩;have HNU:=hid_of hnU;obtain ⟨nL,hnL⟩:∃ nL,s.L.length=nL:=⟨_,rfl⟩;have HNL:=hid_of hnL;rw [hnU] at hU80 hLle hcap hnn h80 ⊢;rw [hnL] at hL80 hLle hnn hcu CS ⊢;clear hnU hnL hJ';go_upto_region 15 with fail
    go_wp2_with fail
    refine CS.out.mono ?_;rintro e5 w5 ⟨rfl,b5⟩;have Z5:=hid_of (Z4.out.below b5);clear b5 CS Z4;obtain ⟨hh5,q5,held5⟩:=Z5.out.st.held;have HH5:=hid_of held5;have u0:=stay HV.out Z5.out.bel;clear held5 HV;obtain ⟨nH,hnH⟩:∃ nH,s.H.length=nH:=⟨_,rfl⟩;have HNH:=hid_of hnH;obtain ⟨nl,hnl⟩:∃ nl,(hList s.H).length=nl:=⟨_,rfl⟩;have HNl:=hid_of hnl;rw [hnH] at hH16 ⊢;rw [hnl];have hnl16:nl≤16:=by rw [← hnl];have:=hList_len s.H;omega
    clear hnH hnl;have CL:=hid_of (held_len HH5.out);have CLI:=hid_of (held_list HH5.out);have FIN:Hid (∀ w9,Below w5.heap.size w5 w9→(∃ s,SOk w9 B w.heap.size s)∧Below w.heap.size w w9):=fun w9 hb=>⟨⟨_,(Z5.out.below hb).st⟩,(Z5.out.below hb).bel⟩;have hnl':(hList (s.ins x).H).length≤16:=by have:=hList_len (s.ins x).H;omega
    by_cases hc0:s.code x=0
    rotate_left
    · have hs:s.ins x=s:=by unfold JSt.ins;rw [if_neg hc0]
      have hUL:nU=nL:=by rw [← HNU.out,← HNL.out,hs]
      subst hUL;have hc0':(s.code x != 0)=true:=by simpa using hc0
      rw [hs] at CL CLI hnl' hH16';rw [HNH.out] at CL;unfold IntsOut at CLI;rw [HNl.out] at CLI;clear hc0 hs HH5;generalize s.code x=cd at hc0' ⊢;go_wp2_with fail
      refine CL.out.mono ?_;rintro e6 w6 ⟨rfl,hw6⟩;have hw6:=hw6.symm;subst hw6;go_wp2_with fail
      refine CLI.out.mono ?_;rintro e7 w7 ⟨a7,c7,rfl,hl7,b7⟩
      have CSI:Hid (Calls Tryz.prog 12 #[.slice a7 nl c7,.slice la nl lc] w7 fun e w'=>e=.returned (.bool true)∧Below w7.heap.size w7 w'):=by
        have h:=sameInts_any (hList s.H) (hList s.H) a7 la c7 lc w7 (by rw [HNl.out];exact Lay.mono hl7 (fun _ _ _=>trivial)) (Lay.mono (Lay.below Z5.out.list b7) (fun _ _ _=>trivial)) (by have:=HNl.out;omega);unfold Rd at h;rw [HNl.out,bdec_true rfl] at h;exact h
      have B7:=hid_of b7;clear hl7 b7 CL CLI q5;go_wp2_with fail
      refine CSI.out.mono ?_;rintro e8 w8 ⟨rfl,b8⟩;have F8:=hid_of (FIN.out w8 (B7.out.trans (b8.mono B7.out.size)));clear b8 CSI FIN Z5 u0;go_wp2
      go_roundw
      case rel=>exact ⟨k+1,hlt,by go_num,F8.out.1,F8.out.2⟩
      case measure=>simp [intOf];omega
    have hins:s.ins x=s.next x:=by unfold JSt.ins;rw [if_pos hc0]
    have hUN:nU=nL+(s.makes x).2.length:=by
      have h1:=HNU.out;rw [hins] at h1;have h2:(s.next x).L=s.L++(s.makes x).2:=rfl;rw [h2,List.length_append,HNL.out] at h1;exact h1.symm
    have HC0:=hid_of hc0;rw [hc0];rw [hins] at CL CLI hnl' hH16' HH5;unfold IntsOut at CLI;obtain ⟨nH',hnH'⟩:∃ nH',(s.next x).H.length=nH':=⟨_,rfl⟩;obtain ⟨nl',hnl2⟩:∃ nl',(hList (s.next x).H).length=nl':=⟨_,rfl⟩;have HNl':=hid_of hnl2;have HNH':=hid_of hnH';rw [hnH'] at CL hH16';rw [hnl2] at CLI hnl';clear hc0 hins hnH' hnl2 HH5;by_cases h3:x.op=3
    · obtain ⟨g1',g2'⟩:=grows_new HC0.out h3;have hmore:((nU:Int) - nL != 1)=false:=by simp;omega
      have hlen:((nH':Int) != (nH:Int)+1)=false:=by
        have h1:=HNH'.out;rw [g2',List.length_append,HNH.out] at h1;simp at h1 ⊢
        omega
      have EL:Hid (hList (s.next x).H=hList s.H++[(nH:Int)]):=by show _=_;rw [g2',hList_push,HNH.out]
      have hnlE:nl'=nl+1:=by have h1:=HNl'.out;rw [EL.out,List.length_append,HNl.out] at h1;simpa using h1.symm
      have HnlE:=hid_of hnlE;rw [h3] at u0;clear g1' g2' HC0 hUN hnlE;obtain ⟨i0,hi,hz0,hz1,hz2⟩:=pInfoI;go_wp2_with fail
      refine CL.out.mono ?_;rintro e6 w6 ⟨rfl,hw6⟩;have hw6:=hw6.symm;subst hw6;go_wp2_with fail
      refine CLI.out.mono ?_;rintro e7 w7 ⟨a7,c7,rfl,hl7,b7⟩;have B7:=hid_of b7;have HL7:Hid (intsL.In w7 All (hList s.H++[(nH:Int)]) [.slice a7 nl' c7]):=by rw [← EL.out];exact Lay.mono hl7 (fun _ _ _=>trivial)
      have HLA:Hid (intsL.In w7 All (hList s.H) [.slice la nl lc]):=by
        have:=Lay.mono (Lay.below Z5.out.list b7) (O':=All) (fun _ _ _=>trivial)
        rw [HNl.out] at this;exact this
      have SI:Hid (∀ (w8:World) (g:Nat) (cap:Nat),Below w7.heap.size w7 w8→w8.ownsRow 0 3 1 (.slice (some ⟨g,0,none⟩) (nl+1) cap) (nl+1) ((hList s.H).map (Value.int .i64)++[.int .i64 (nH:Int)])→Calls Tryz.prog 12 #[.slice a7 nl' c7,.slice (some ⟨g,0,none⟩) (nl+1) cap] w8 fun e w'=>e=.returned (.bool true)∧Below w8.heap.size w8 w'):=fun w8 g cap hb8 how=>by
        have hrow:intsL.In w8 All (hList s.H++[(nH:Int)]) [.slice (some ⟨g,0,none⟩) (nl+1) cap]:=by
          refine list_of_row (A:=Lay.int) how (by rw [List.length_append,HNl.out];rfl) (fun i y hy=>?_) trivial;have hyr:-9223372036854775808≤y∧y≤9223372036854775807:=ints_bnd HL7.out y (List.mem_of_getElem? hy);show ((((hList s.H).map (Value.int .i64)++[Value.int .i64 (nH:Int)]).drop (i*1)).take 1)=[Value.int .i64 y]∧_;refine ⟨?_,hyr⟩;have e:(hList s.H).map (Value.int .i64)++[Value.int .i64 (nH:Int)]=(hList s.H++[(nH:Int)]).map (Value.int .i64):=by simp
          rw [e,Nat.mul_one];have hm:((hList s.H++[(nH:Int)]).map (Value.int .i64))[i]?=some (Value.int .i64 y):=by rw [List.getElem?_map,hy];rfl
          obtain ⟨hi2,e2⟩:=List.getElem?_eq_some_iff.1 hm;rw [List.drop_eq_getElem_cons hi2,List.take_succ_cons,List.take_zero,e2]
        have h:=sameInts_any (hList s.H++[(nH:Int)]) (hList s.H++[(nH:Int)]) a7 (some ⟨g,0,none⟩) c7 cap w8 (by rw [show (hList s.H++[(nH:Int)]).length=nl' by rw [List.length_append,HNl.out,HnlE.out];rfl];exact Lay.below HL7.out hb8) (by rw [show (hList s.H++[(nH:Int)]).length=nl+1 by rw [List.length_append,HNl.out];rfl];exact hrow) (by rw [List.length_append,HNl.out];simp;omega);unfold Rd at h;rw [bdec_true rfl] at h;rw [show (hList s.H++[(nH:Int)]).length=nl+1 by rw [List.length_append,HNl.out];rfl] at h;rw [HnlE.out];exact h
      clear hl7 b7 CL CLI q5;have hw0:w7.ownsRow 0 3 1 (.slice none 0 0) 0 []:=⟨rfl,.inl ⟨rfl,rfl⟩⟩;have END:Hid (∀ w8,Below w7.heap.size w7 w8→(∃ s,SOk w8 B w.heap.size s)∧Below w.heap.size w w8):=fun w8 hb=>FIN.out w8 (B7.out.trans (hb.mono B7.out.size));by_cases hnl0:nl=0
      · subst hnl0;have hE:Hid (hList s.H=[]):=List.length_eq_zero_iff.1 HNl.out
        have ha:Hid (∀ (t:TypeId) (wx:World),(Builtin.append_ #[35,35] t #[.slice none 0 0,.slice la 0 lc]).run Tryz.prog wx=.ok (.slice none 0 0) wx):=fun (t:TypeId) (wx:World)=>run_append_nothing (P:=Tryz.prog) wx 35 35 t 3 i0 pUnderI hi none 0 0 (Nat.le_refl _) (.slice la 0 lc) (by cases la with
          | none=>exact Src.ofNil wx pUnderI lc
          | some ad=>exact Src.ofSlice wx pUnderI ad 0 lc [] (by simp) (fun j u h=>by simp at h) (fun u h=>by cases h))
        have HW0:Hid ((w7.alloc (.cells #[.int .i64 (nH:Int)] 3)).ownsRow 0 3 1 (.slice none 0 0) 0 []):=hw0.alloc _;have HNEW:=hid_of (newsP w7 [.int .i64 (nH:Int)] 3);have hH1:Hid ((w7.alloc (.cells #[.int .i64 (nH:Int)] 3)).heap.size=w7.heap.size+1):=by show _=_;simp
        go_wp2_with (at_builtin;first | refine wpList_append_noG rfl (.tmp 163) (.tmp 164) 35 rfl (.slice none 0 0) (.slice la 0 lc) rfl rfl (ha.out _ _) ?_ | refine wpList_append_liesG rfl (.tmp 165) (.tmp 167) 35 rfl 0 3 i0 (.int .i64 0) 1 8 pUnderI hi hz0 hz1 hz2 rfl (by decide) (.slice none 0 0) 0 [] rfl HW0.out ⟨w7.heap.size,0,none⟩ 1 1 [.int .i64 (nH:Int)] rfl rfl HNEW.out (pOneI _) (by decide) (by unfold maxLen;omega) (by omega) (Nat.zero_le _) (w7.heap.size+1) hH1.out ?_)
        intro g9 cap9 w9 r1 r2 r3 r4
        have hb9:Below w7.heap.size w7 w9:=by
          have hsz:=r2.size;rw [hH1.out] at hsz;refine ⟨r2.os,r2.tape,r2.output,by omega,fun k hk=>?_⟩;exact (r2.block k (by rw [hH1.out];omega) (by simp [Value.ownBlock])).trans (Below.heap_alloc _ _ _ hk)
        have CSI:Hid (Calls Tryz.prog 12 #[.slice a7 nl' c7,.slice (some ⟨g9,0,none⟩) 1 cap9] w9 fun e w'=>e=.returned (.bool true)∧Below w9.heap.size w9 w'):=by
          have:=SI.out w9 g9 cap9 hb9 (by rw [hE.out];simpa using r1)
          show Calls _ _ _ _ _;simpa using this
        have HB9:=hid_of hb9;clear r1 r2 r3 r4 hb9 SI HW0 HNEW hH1 ha hw0;go_wp2_with fail
        refine CSI.out.mono ?_;rintro e8 w8 ⟨rfl,b8⟩;have F8:=hid_of (END.out w8 (HB9.out.trans (b8.mono HB9.out.size)));clear b8 CSI END FIN Z5 u0;go_wp2
        go_roundw
        case rel=>exact ⟨k+1,hlt,by go_num,F8.out.1,F8.out.2⟩
        case measure=>simp [intOf];omega
      · have hpos:0<nl:=by omega
        obtain ⟨gh,oh,rfl,-,-,-⟩:=ints_at HLA.out (i:=0) (by rw [HNl.out];exact hpos)
        have HNW:Hid (∀ (j:Nat) (u:Value),((hList s.H).map (Value.int .i64))[j]?=some u→w7.cell? ((⟨gh,oh,none⟩:Addr).add j)=some u):=fun j u hj=>by
          rw [List.getElem?_map] at hj
          cases hy:(hList s.H)[j]? with
          | none=>rw [hy] at hj;cases hj
          | some y =>
            rw [hy] at hj;injection hj with hj
            subst hj;obtain ⟨g',o',e',-,-,hc'⟩:=ints_at HLA.out (List.getElem?_eq_some_iff.1 hy).1
            cases e'
            rw [Go.WideShapes.add_plain,hc',List.getD_eq_getElem?_getD,hy];rfl
        have HONE:Hid (∀ u∈(hList s.H).map (Value.int .i64),u.oneCell'=true):=fun u hu=>by obtain ⟨y,_,rfl⟩:=List.mem_map.1 hu;rfl
        have HLEN:Hid (((hList s.H).map (Value.int .i64)).length=nl*1):=by show _=_;rw [List.length_map,HNl.out,Nat.mul_one]
        have HW0:=hid_of hw0;clear hw0;go_wp2_with (at_builtin;refine wpList_append_liesG rfl (.tmp 163) (.tmp 164) 35 rfl 0 3 i0 (.int .i64 0) 1 8 pUnderI hi hz0 hz1 hz2 rfl (by decide) (.slice none 0 0) 0 [] rfl HW0.out ⟨gh,oh,none⟩ nl lc ((hList s.H).map (Value.int .i64)) rfl HLEN.out HNW.out HONE.out hpos (by unfold maxLen;omega) (by omega) (Nat.zero_le _) w7.heap.size rfl ?_)
        intro g8 cap8 w8 r1 r2 r3 r4
        have hg8:g8=w7.heap.size:=by
          rcases r3 with r3 | r3
          · simp [Value.ownBlock] at r3
          · exact r3
        have hs8:=r2.size;have B8:Hid (Below w7.heap.size w7 w8):=⟨r2.os,r2.tape,r2.output,r2.size,fun k hk=>r2.block k hk (by simp [Value.ownBlock])⟩;have r1':w8.ownsRow 0 3 1 (.slice (some ⟨g8,0,none⟩) nl cap8) nl ((hList s.H).map (Value.int .i64)):=by simpa using r1
        have HW8:Hid ((w8.alloc (.cells #[.int .i64 (nH:Int)] 3)).ownsRow 0 3 1 (.slice (some ⟨g8,0,none⟩) nl cap8) nl ((hList s.H).map (Value.int .i64))):=r1'.alloc _;have HNEW:=hid_of (newsP w8 [.int .i64 (nH:Int)] 3);have hH1:Hid ((w8.alloc (.cells #[.int .i64 (nH:Int)] 3)).heap.size=w8.heap.size+1):=by show _=_;simp
        have HG8:=hid_of hg8;clear r1 r2 r3 r4 r1' HNW HONE HLEN HW0 hg8 hs8;go_wp2_with (at_builtin;refine wpList_append_liesG rfl (.tmp 165) (.tmp 167) 35 rfl 0 3 i0 (.int .i64 0) 1 8 pUnderI hi hz0 hz1 hz2 rfl (by decide) (.slice (some ⟨g8,0,none⟩) nl cap8) nl ((hList s.H).map (Value.int .i64)) rfl HW8.out ⟨w8.heap.size,0,none⟩ 1 1 [.int .i64 (nH:Int)] rfl rfl HNEW.out (pOneI _) (by decide) (by unfold maxLen;omega) (by omega) (Nat.zero_le _) (w8.heap.size+1) hH1.out ?_)
        intro g9 cap9 w9 r1 r2 r3 r4
        have hb9:Below w7.heap.size w7 w9:=by
          have hsz:=r2.size;rw [hH1.out] at hsz;have h8:=B8.out.size;refine ⟨r2.os.trans B8.out.os,r2.tape.trans B8.out.tape,r2.output.trans B8.out.output,by omega,fun k hk=>?_⟩;have hk8:k<w8.heap.size:=by omega
          exact ((r2.block k (by rw [hH1.out];omega) (by simp [Value.ownBlock];have:=HG8.out;omega)).trans (Below.heap_alloc _ _ _ hk8)).trans (B8.out.block k hk)
        have CSI:=hid_of (SI.out w9 g9 cap9 hb9 r1);have HB9:=hid_of hb9;clear r1 r2 r3 r4 hb9 SI HW8 HNEW hH1;go_wp2_with fail
        refine CSI.out.mono ?_;rintro e8 w10 ⟨rfl,b8⟩;have F8:=hid_of (END.out w10 (HB9.out.trans (b8.mono HB9.out.size)));clear b8 CSI END FIN Z5 u0;go_wp2
        go_roundw
        case rel=>exact ⟨k+1,hlt,by go_num,F8.out.1,F8.out.2⟩
        case measure=>simp [intOf];omega
    have h3':(x.op==3)=false:=by simpa using h3
    by_cases h4:x.op=4
    · obtain ⟨g1',g2',g3'⟩:=grows_free HC0.out h4;have hmore:((nU:Int) - nL != 0)=false:=by simp;omega
      have hlen:((nH':Int) != (nH:Int))=false:=by
        have h1:=HNH'.out;have h2:=HNH.out;simp
        omega
      have hll:((nl':Int) != (nl:Int) - 1)=false:=by
        have h1:=HNl'.out;have h2:=HNl.out;simp
        omega
      rw [h4] at u0;clear g1' g2' g3' HC0 hUN h3 h3' h4;go_wp2_with fail
      refine CL.out.mono ?_;rintro e6 w6 ⟨rfl,hw6⟩;have hw6:=hw6.symm;subst hw6;go_wp2_with fail
      refine CLI.out.mono ?_;rintro e7 w7 ⟨a7,c7,rfl,hl7,b7⟩;have F8:=hid_of (FIN.out w7 b7);clear hl7 b7 CL CLI q5 FIN Z5 u0;go_wp2
      go_roundw
      case rel=>exact ⟨k+1,hlt,by go_num,F8.out.1,F8.out.2⟩
      case measure=>simp [intOf];omega
    have h4':(x.op==4)=false:=by simpa using h4
    have hHs:(s.next x).H=s.H:=next_other h3 h4
    have hlen:((nH':Int) != (nH:Int))=false:=by
      have h1:=HNH'.out;have h2:=HNH.out;rw [hHs] at h1;simp
      omega
    have hnlE:nl'=nl:=by rw [← HNl'.out,← HNl.out,hHs]
    have EL:Hid (hList (s.next x).H=hList s.H):=by show _=_;rw [hHs]
    subst hnlE;have hgo:x.op≠14→¬ (nU:Int) - nL > 1:=fun h14=>by have:=grows_other HC0.out h14;omega
    clear HC0 hUN hHs;go_wp2_with fail
    refine CL.out.mono ?_;rintro e6 w6 ⟨rfl,hw6⟩;have hw6:=hw6.symm;subst hw6;go_wp2_with fail
    refine CLI.out.mono ?_;rintro e7 w7 ⟨a7,c7,rfl,hl7,b7⟩
    have CSI:Hid (Calls Tryz.prog 12 #[.slice a7 nl' c7,.slice la nl' lc] w7 fun e w'=>e=.returned (.bool true)∧Below w7.heap.size w7 w'):=by
      have h:=sameInts_any (hList (s.next x).H) (hList s.H) a7 la c7 lc w7 (by rw [HNl'.out];exact Lay.mono hl7 (fun _ _ _=>trivial)) (Lay.mono (Lay.below Z5.out.list b7) (fun _ _ _=>trivial)) (by have:=HNl'.out;omega);unfold Rd at h;rw [HNl'.out,HNl.out,bdec_true EL.out] at h;exact h
    have B7:=hid_of b7;have u7:=stay u0 b7;clear hl7 b7 CL CLI q5 u0;go_wp2_with fail
    refine CSI.out.mono ?_;rintro e8 w8 ⟨rfl,b8⟩;have u8:=stay u7 b8;have F8:=hid_of (FIN.out w8 (B7.out.trans (b8.mono B7.out.size)));clear b8 CSI FIN Z5 u7;by_cases h14:x.op=14
    · have h14':(x.op != 14)=false:=by simpa using h14
      rw [h14] at u8;clear hgo h3 h3' h4 h4' h14';go_wp2
      go_roundw
      case rel=>exact ⟨k+1,hlt,by go_num,F8.out.1,F8.out.2⟩
      case measure=>simp [intOf];omega
    · have h14':(x.op != 14)=true:=by simpa using h14
      have hgg:=hgo h14;generalize x.op=xo at u8 h14' h3' h4';clear hgo h3 h4 h14;go_wp2
      go_roundw
      case rel=>exact ⟨k+1,hlt,by go_num,F8.out.1,F8.out.2⟩
      case measure=>simp [intOf];omega
end Go.Proofs.YtilanenoliopbaeGreat
