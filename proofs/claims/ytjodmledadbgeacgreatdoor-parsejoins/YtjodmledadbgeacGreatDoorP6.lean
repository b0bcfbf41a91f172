import Derived.Test.YtjodmledadbgeacGreatDoorP5
import Derived.Lib.LaidTab
import Derived.Stop.LaidErr
import Derived.Stop.Joined
import Derived.LaidMore
import Derived.ChangeMaps5
set_option maxHeartbeats 16000000
set_option maxRecDepth 100000
namespace Go.Proofs.YtjodmledadbgeacGreatDoor
open Go.ChangeShapes Go.WideShapes Go.ChangeAt Go.RowKit
set_option linter.unusedSimpArgs false
set_option linter.unusedVariables false
def plB {n : Nat} (x : MFunc n) (q : Nat) : Bool := (x.regs == 0 && ((x.params.length : Int) == 0)) && (x.results.take q).all (fun t => t.kind == 1)
theorem plB_zero {n : Nat} (x : MFunc n) : plB x 0 = (x.regs == 0 && ((x.params.length : Int) == 0)) := by simp [plB]
theorem plB_succ {n : Nat} {x : MFunc n} {q : Nat} {t : TT n} (h : x.results[q]? = some t) : plB x (q + 1) = (plB x q && t.kind == 1) := by
  unfold plB
  rw [List.take_add_one,h,List.all_append]
  simp [Bool.and_assoc]
theorem plB_iff {n : Nat} (x : MFunc n) : plB x x.results.length = true ↔ x.begins := by
  unfold plB MFunc.begins
  rw [List.take_length]
  simp only [Bool.and_eq_true,beq_iff_eq]
  constructor
  · rintro ⟨⟨h1,h2⟩,h3⟩;exact ⟨h1,by omega,h3⟩
  · rintro ⟨h1,h2,h3⟩;exact ⟨⟨h1,by omega⟩,h3⟩
theorem codeFault_any {n : Nat} {m : List (MFunc n)} {p : Option Addr} {c : Nat} {w : World} (hm0 : (modL n).In w All m [.slice p m.length c]) (hs0 : msmall m) :
    Rd Tryz.prog 13 #[.agg #[.slice p m.length c]] w (faultV (modFault m)):=by
  have hm:Hid _:=hm0
  have hms:Hid _:=hs0
  have hmb:=hs0.1
  clear hm0 hs0
  refine fr_enter (n:=129) Tryz.func13 rfl rfl rfl ?_
  intro a hF
  have hW:=Wd.start w
  replace hF:Fr 129 a [(0,.agg #[.slice p m.length c])]:=hF
  refine wp_seq_k fun K1 hK1=>?_
  refine rg hF fun ops=>?_;clear hF a
  refine sB hW trivial rfl rfl ?_
  clear hW;intro w2 B2 hW2 hN;clear hN
  refine sAFault hW2 trivial rfl ?_
  clear hW2;intro w3 B3 hW3 hN;clear hN
  refine St.nil fun a4 h4=>?_
  refine hK1 _ _ ?_
  refine wp_seq_k fun K5 hK5=>?_
  refine wp_seq_k fun K6 hK6=>?_
  refine fr_region ?_
  intro ops hops
  have hg4:(ops[4]?).bind (fun o:Oper=>o.dst)=some 15:=hops 4
  clear hops
  refine St.go h4 ?_;clear h4 a4
  refine sfModule0 trivial rfl rfl ?_
  refine sbFuncs 1 hW3 trivial rfl rfl rfl rfl ?_
  refine slFuncs trivial rfl rfl ?_
  refine slt trivial rfl rfl rfl ?_
  refine sm trivial rfl rfl ?_
  intro a7 h7
  rcases Bool.eq_false_or_eq_true (decide ((m.length:Int) < 1)) with hb | hb
  ·rw [hb] at h7
   have hc8:m.length < 1:=by have:=of_decide_eq_true hb;omega
   clear hb
   refine St.go h7 ?_;clear h7 a7
   refine so hg4 rfl rfl rfl rfl ?_
   refine so hg4 rfl rfl rfl rfl ?_
   refine so hg4 rfl rfl rfl rfl ?_
   refine so hg4 rfl rfl rfl rfl ?_
   refine sp trivial rfl rfl rfl ?_
   refine St.nil fun a9 h9=>?_
   refine hK6 _ _ ?_
   refine fr_true (t:=20) h9 rfl ?_
   refine wp_seq_k fun K10 hK10=>?_
   refine rg h9 fun ops=>?_;clear h9 a9
   refine sc_2 cf28 hW3 (fF_any (xc:=2) (xp:=-1)) trivial rfl rfl rfl ?_
   clear hW3;intro w11 hW11
   refine sT 0 hW11 rfl rfl infFault rfl rfl rfl ?_
   clear hW11;intro w12 hW12
   refine St.nil fun a13 h13=>?_
   refine hK10 _ _ ?_
   refine wp_ret ?_;with_reducible repeat first | refine of_then_ret ?_ | refine of_block_ret ?_
   have R:modFault m=(2,-1):=if_pos (by omega)
   exact ret_box 0 h13 hW12 rfl rfl rfl Tryz.underlying27 rfl infFault ⟨by show Ending.returned (.agg #[.int .i64 2,.int .i64 (-1)])=_;rw [R],hW12.bel⟩
  rw [hb] at h7
  have hc14:¬ (m.length < 1):=by have:=of_decide_eq_false hb;omega
  clear hb
  refine St.go h7 ?_;clear h7 a7
  refine sfModule0 ⟨_,hg4,rfl,rfl⟩ rfl rfl ?_
  refine sbFuncs 1 hW3 ⟨_,hg4,rfl,rfl⟩ rfl rfl rfl rfl ?_
  refine slFuncs ⟨_,hg4,rfl,rfl⟩ rfl rfl ?_
  refine sgt ⟨_,hg4,rfl,rfl⟩ rfl rfl rfl ?_
  refine spf trivial rfl rfl rfl ?_
  refine St.nil fun a15 h15=>?_
  refine hK6 _ _ ?_
  refine fr_cond (t:=20) h15 rfl (fun hb=>?_) (fun hb=>?_)
  ·have hc16:8 < m.length:=by have:=of_decide_eq_true hb;omega
   clear hb
   refine wp_seq_k fun K17 hK17=>?_
   refine rg h15 fun ops=>?_;clear h15 a15
   refine sc_2 cf28 hW3 (fF_any (xc:=2) (xp:=-1)) trivial rfl rfl rfl ?_
   clear hW3;intro w18 hW18
   refine sT 0 hW18 rfl rfl infFault rfl rfl rfl ?_
   clear hW18;intro w19 hW19
   refine St.nil fun a20 h20=>?_
   refine hK17 _ _ ?_
   refine wp_ret ?_;with_reducible repeat first | refine of_then_ret ?_ | refine of_block_ret ?_
   have R:modFault m=(2,-1):=if_pos (by omega)
   exact ret_box 0 h20 hW19 rfl rfl rfl Tryz.underlying27 rfl infFault ⟨by show Ending.returned (.agg #[.int .i64 2,.int .i64 (-1)])=_;rw [R],hW19.bel⟩
  have hc21:¬ (8 < m.length):=by have:=of_decide_eq_false hb;omega
  clear hb
  refine wp_skip ?_
  refine hK5 _ _ ?_
  refine wp_seq_k fun K22 hK22=>?_
  refine wp_seq_k fun K23 hK23=>?_
  refine rg h15 fun ops=>?_;clear h15 a15
  refine sa trivial rfl rfl ?_
  refine St.nil fun a24 h24=>?_
  refine hK23 _ _ ?_
  refine wp_block ?_
  refine fr_loop (fun r a w'=>∃ q1:Nat,q1≤m.length∧r=m.length - q1∧(∀ (j:Nat) z,j < q1→m[j]?=some z→(MFunc.fault m.length j z).1=0)∧Fr 129 a [(0,.agg #[.slice p m.length c]),(1,.pointer (some ⟨B2,0,none⟩)),(2,.pointer (some ⟨B3,0,none⟩)),(3,.int .i64 (q1:Int))]∧Wd w w' [(B3,#[.int .i64 0,.int .i64 0],27),(B2,#[.slice p m.length c],25)]) (m.length) ⟨0,Nat.zero_le _,rfl,(fun j z hj=>by omega),(h24.keep (h24.keep (h24.keep (h24.keep h24.nil (t:=3) rfl) (t:=2) rfl) (t:=1) rfl) (t:=0) rfl),hW3⟩ ?_
  clear h24 hW3
  rintro r1 a25 w25 ⟨q1,hq1,hr1,hall1,hF25,hW25⟩ KL1 hKL1
  refine wp_seq_k fun K26 hK26=>?_
  refine wp_seq_k fun K27 hK27=>?_
  refine rg hF25 fun ops=>?_;clear hF25 a25
  refine sm trivial rfl rfl ?_
  refine sfModule0 trivial rfl rfl ?_
  refine sbFuncs 1 hW25 trivial rfl rfl rfl rfl ?_
  refine slFuncs trivial rfl rfl ?_
  refine slt trivial rfl rfl rfl ?_
  refine St.nil fun a28 h28=>?_
  refine hK27 _ _ ?_
  refine fr_cond (t:=26) h28 rfl (fun hb=>?_) (fun hb=>?_)
  ·have hlt1:q1 < m.length:=by have:=of_decide_eq_true hb;omega
   clear hb
   obtain ⟨x,hx1⟩:∃ v9,(m)[q1]?=some v9:=⟨_,List.getElem?_eq_getElem hlt1⟩
   obtain ⟨g1,o1,f1,hp1,E1,In1⟩:=func_at hm.out hx1
   replace In1:Hid _:=In1
   replace hp1:Hid _:=hp1
   replace hx1:Hid _:=hx1
   replace E1:Hid _:=E1
   have hs1:Hid x.small:=hms.out.2 _ (List.mem_of_getElem? hx1.out)
   have hxb:=hs1.out.1
   have hrb:=hs1.out.2.2.1.1
   refine wp_skip ?_
   refine hK26 _ _ ?_
   refine wp_seq_k fun K29 hK29=>?_
   refine wp_block ?_
   refine wp_seq_k fun K30 hK30=>?_
   refine rg h28 fun ops=>?_;clear h28 a28
   refine sfModule0 trivial rfl rfl ?_
   refine sbFuncs 1 hW25 trivial rfl rfl rfl rfl ?_
   refine sm trivial rfl rfl ?_
   refine siFuncs hp1.out hlt1 trivial rfl rfl rfl ?_
   refine sSE Tryz.underlying38 rfl (rangeAt_bel E1.out hW25.bel) infFunc trivial rfl rfl ?_
   refine sAFunc hW25 trivial rfl ?_
   clear hW25;intro w31 B31 hW31 hN;clear hN
   refine sT 0 hW31 rfl rfl infFunc rfl rfl rfl ?_
   clear hW31;intro w32 hW32
   refine St.nil fun a33 h33=>?_
   refine hK30 _ _ ?_
   refine wp_seq_k fun K34 hK34=>?_
   refine wp_seq_k fun K35 hK35=>?_
   refine fr_region ?_
   intro ops hops
   have hg3:(ops[3]?).bind (fun o:Oper=>o.dst)=some 37:=hops 3
   clear hops
   refine St.go h33 ?_;clear h33 a33
   refine sfFunc0 trivial rfl rfl ?_
   refine sbInt 0 hW32 trivial rfl rfl rfl rfl ?_
   refine slt trivial rfl rfl rfl ?_
   refine sm trivial rfl rfl ?_
   intro a36 h36
   rcases Bool.eq_false_or_eq_true (decide (x.regs < 0)) with hb | hb
   ·rw [hb] at h36
    have hc37:x.regs < 0:=of_decide_eq_true hb
    clear hb
    refine St.go h36 ?_;clear h36 a36
    refine so hg3 rfl rfl rfl rfl ?_
    refine so hg3 rfl rfl rfl rfl ?_
    refine so hg3 rfl rfl rfl rfl ?_
    refine sp trivial rfl rfl rfl ?_
    refine St.nil fun a38 h38=>?_
    refine hK35 _ _ ?_
    refine fr_true (t:=41) h38 rfl ?_
    refine wp_seq_k fun K39 hK39=>?_
    refine rg h38 fun ops=>?_;clear h38 a38
    refine sm trivial rfl rfl ?_
    refine sc_1 cf29 hW32 (atFunc_any (f:=q1) (by omega)) trivial rfl rfl ?_
    clear hW32;intro w40 hW40
    refine sc_2 cf28 hW40 (fF_any (xc:=1) (xp:=10000 * (q1:Int)+9999)) trivial rfl rfl rfl ?_
    clear hW40;intro w41 hW41
    refine sT 1 hW41 rfl rfl infFault rfl rfl rfl ?_
    clear hW41;intro w42 hW42
    refine St.nil fun a43 h43=>?_
    refine hK39 _ _ ?_
    refine wp_ret ?_;with_reducible repeat first | refine of_then_ret ?_ | refine of_block_ret ?_
    have RM:(MFunc.fault m.length q1 x).1≠0→modFault m=MFunc.fault m.length q1 x:=fun hz=>(if_neg (by omega)).trans (by have h9:=firstF_eq (f:=fun f x=>MFunc.fault m.length f x) (j:=0) hx1.out (fun k y hk hy=>by rw [Nat.zero_add];exact hall1 k y hk hy) (by rw [Nat.zero_add];exact hz);rwa [Nat.zero_add] at h9)
    have RC:x.code q1=1:=by exact if_pos (by omega)
    have EF:MFunc.fault m.length q1 x=(1,10000 * (q1:Int)+9999):=by rw [MFunc.fault_eq,RC,if_neg (by omega)]
    exact ret_box 1 h43 hW42 rfl rfl rfl Tryz.underlying27 rfl infFault ⟨by show Ending.returned (.agg #[.int .i64 1,.int .i64 (10000 * (q1:Int)+9999)])=_;rw [RM (by rw [EF];show _≠_;omega),EF],hW42.bel⟩
   rw [hb] at h36
   have hc44:¬ (x.regs < 0):=of_decide_eq_false hb
   clear hb
   refine St.go h36 ?_;clear h36 a36
   refine sfFunc0 ⟨_,hg3,rfl,rfl⟩ rfl rfl ?_
   refine sbInt 0 hW32 ⟨_,hg3,rfl,rfl⟩ rfl rfl rfl rfl ?_
   refine sgt ⟨_,hg3,rfl,rfl⟩ rfl rfl rfl ?_
   refine spf trivial rfl rfl rfl ?_
   refine St.nil fun a45 h45=>?_
   refine hK35 _ _ ?_
   refine fr_cond (t:=41) h45 rfl (fun hb=>?_) (fun hb=>?_)
   ·have hc46:6 < x.regs:=of_decide_eq_true hb
    clear hb
    refine wp_seq_k fun K47 hK47=>?_
    refine rg h45 fun ops=>?_;clear h45 a45
    refine sm trivial rfl rfl ?_
    refine sc_1 cf29 hW32 (atFunc_any (f:=q1) (by omega)) trivial rfl rfl ?_
    clear hW32;intro w48 hW48
    refine sc_2 cf28 hW48 (fF_any (xc:=1) (xp:=10000 * (q1:Int)+9999)) trivial rfl rfl rfl ?_
    clear hW48;intro w49 hW49
    refine sT 1 hW49 rfl rfl infFault rfl rfl rfl ?_
    clear hW49;intro w50 hW50
    refine St.nil fun a51 h51=>?_
    refine hK47 _ _ ?_
    refine wp_ret ?_;with_reducible repeat first | refine of_then_ret ?_ | refine of_block_ret ?_
    have RM:(MFunc.fault m.length q1 x).1≠0→modFault m=MFunc.fault m.length q1 x:=fun hz=>(if_neg (by omega)).trans (by have h9:=firstF_eq (f:=fun f x=>MFunc.fault m.length f x) (j:=0) hx1.out (fun k y hk hy=>by rw [Nat.zero_add];exact hall1 k y hk hy) (by rw [Nat.zero_add];exact hz);rwa [Nat.zero_add] at h9)
    have RC:x.code q1=1:=by exact if_pos (by omega)
    have EF:MFunc.fault m.length q1 x=(1,10000 * (q1:Int)+9999):=by rw [MFunc.fault_eq,RC,if_neg (by omega)]
    exact ret_box 1 h51 hW50 rfl rfl rfl Tryz.underlying27 rfl infFault ⟨by show Ending.returned (.agg #[.int .i64 1,.int .i64 (10000 * (q1:Int)+9999)])=_;rw [RM (by rw [EF];show _≠_;omega),EF],hW50.bel⟩
   have hc52:¬ (6 < x.regs):=of_decide_eq_false hb
   clear hb
   refine wp_skip ?_
   refine hK34 _ _ ?_
   refine wp_seq_k fun K53 hK53=>?_
   refine wp_seq_k fun K54 hK54=>?_
   refine rg h45 fun ops=>?_;clear h45 a45
   refine sfFunc1 trivial rfl rfl ?_
   refine sbTypes 0 hW32 trivial rfl rfl rfl rfl ?_
   refine sfFunc0 trivial rfl rfl ?_
   refine sbInt 0 hW32 trivial rfl rfl rfl rfl ?_
   refine sc_2 cf30 hW32 (listForm_any (regs:=x.regs) (Lay.below In1.out.params hW32.bel) hs1.out.2.1) trivial rfl rfl rfl ?_
   clear hW32;intro w55 hW55
   refine sa trivial rfl rfl ?_
   refine St.nil fun a56 h56=>?_
   refine hK54 _ _ ?_
   refine wp_seq_k fun K57 hK57=>?_
   refine rg h56 fun ops=>?_;clear h56 a56
   refine sm trivial rfl rfl ?_
   refine sne trivial rfl rfl rfl ?_
   refine St.nil fun a58 h58=>?_
   refine hK57 _ _ ?_
   refine fr_cond (t:=51) h58 rfl (fun hb=>?_) (fun hb=>?_)
   ·have h9:¬ (listC x.regs x.params)=0:=bne_iff_ne.1 hb
    have hc59:¬ (listC x.regs x.params)=0:=h9
    clear h9
    clear hb
    refine wp_seq_k fun K60 hK60=>?_
    refine rg h58 fun ops=>?_;clear h58 a58
    refine sm trivial rfl rfl ?_
    refine sm trivial rfl rfl ?_
    refine sc_1 cf29 hW55 (atFunc_any (f:=q1) (by omega)) trivial rfl rfl ?_
    clear hW55;intro w61 hW61
    refine sc_2 cf28 hW61 (fF_any (xc:=listC x.regs x.params) (xp:=10000 * (q1:Int)+9999)) trivial rfl rfl rfl ?_
    clear hW61;intro w62 hW62
    refine sT 1 hW62 rfl rfl infFault rfl rfl rfl ?_
    clear hW62;intro w63 hW63
    refine St.nil fun a64 h64=>?_
    refine hK60 _ _ ?_
    refine wp_ret ?_;with_reducible repeat first | refine of_then_ret ?_ | refine of_block_ret ?_
    have RM:(MFunc.fault m.length q1 x).1≠0→modFault m=MFunc.fault m.length q1 x:=fun hz=>(if_neg (by omega)).trans (by have h9:=firstF_eq (f:=fun f x=>MFunc.fault m.length f x) (j:=0) hx1.out (fun k y hk hy=>by rw [Nat.zero_add];exact hall1 k y hk hy) (by rw [Nat.zero_add];exact hz);rwa [Nat.zero_add] at h9)
    have RC:x.code q1=listC x.regs x.params:=by exact (if_neg (by omega)).trans (if_pos (by omega))
    have EF:MFunc.fault m.length q1 x=(listC x.regs x.params,10000 * (q1:Int)+9999):=by rw [MFunc.fault_eq,RC,if_neg (by omega)]
    exact ret_box 1 h64 hW63 rfl rfl rfl Tryz.underlying27 rfl infFault ⟨by show Ending.returned (.agg #[.int .i64 (listC x.regs x.params),.int .i64 (10000 * (q1:Int)+9999)])=_;rw [RM (by rw [EF];show _≠_;omega),EF],hW63.bel⟩
   have h9:(listC x.regs x.params)=0:=bne_eq_false_iff_eq.1 hb
   have hc65:Hid ((listC x.regs x.params)=0):=h9
   clear h9
   clear hb
   refine wp_skip ?_
   refine hK53 _ _ ?_
   refine wp_seq_k fun K66 hK66=>?_
   refine wp_seq_k fun K67 hK67=>?_
   refine rg h58 fun ops=>?_;clear h58 a58
   refine sfFunc2 trivial rfl rfl ?_
   refine sbTypes 0 hW55 trivial rfl rfl rfl rfl ?_
   refine sfFunc0 trivial rfl rfl ?_
   refine sbInt 0 hW55 trivial rfl rfl rfl rfl ?_
   refine sc_2 cf30 hW55 (listForm_any (regs:=x.regs) (Lay.below In1.out.results hW55.bel) hs1.out.2.2.1) trivial rfl rfl rfl ?_
   clear hW55;intro w68 hW68
   refine sa trivial rfl rfl ?_
   refine St.nil fun a69 h69=>?_
   refine hK67 _ _ ?_
   refine wp_seq_k fun K70 hK70=>?_
   refine rg h69 fun ops=>?_;clear h69 a69
   refine sm trivial rfl rfl ?_
   refine sne trivial rfl rfl rfl ?_
   refine St.nil fun a71 h71=>?_
   refine hK70 _ _ ?_
   refine fr_cond (t:=62) h71 rfl (fun hb=>?_) (fun hb=>?_)
   ·have h9:¬ (listC x.regs x.results)=0:=bne_iff_ne.1 hb
    have hc72:¬ (listC x.regs x.results)=0:=h9
    clear h9
    clear hb
    refine wp_seq_k fun K73 hK73=>?_
    refine rg h71 fun ops=>?_;clear h71 a71
    refine sm trivial rfl rfl ?_
    refine sm trivial rfl rfl ?_
    refine sc_1 cf29 hW68 (atFunc_any (f:=q1) (by omega)) trivial rfl rfl ?_
    clear hW68;intro w74 hW74
    refine sc_2 cf28 hW74 (fF_any (xc:=listC x.regs x.results) (xp:=10000 * (q1:Int)+9999)) trivial rfl rfl rfl ?_
    clear hW74;intro w75 hW75
    refine sT 1 hW75 rfl rfl infFault rfl rfl rfl ?_
    clear hW75;intro w76 hW76
    refine St.nil fun a77 h77=>?_
    refine hK73 _ _ ?_
    refine wp_ret ?_;with_reducible repeat first | refine of_then_ret ?_ | refine of_block_ret ?_
    have RM:(MFunc.fault m.length q1 x).1≠0→modFault m=MFunc.fault m.length q1 x:=fun hz=>(if_neg (by omega)).trans (by have h9:=firstF_eq (f:=fun f x=>MFunc.fault m.length f x) (j:=0) hx1.out (fun k y hk hy=>by rw [Nat.zero_add];exact hall1 k y hk hy) (by rw [Nat.zero_add];exact hz);rwa [Nat.zero_add] at h9)
    have RC:x.code q1=listC x.regs x.results:=by have:=hc65.out;exact (if_neg (by omega)).trans ((if_neg (by omega)).trans (if_pos (by omega)))
    have EF:MFunc.fault m.length q1 x=(listC x.regs x.results,10000 * (q1:Int)+9999):=by rw [MFunc.fault_eq,RC,if_neg (by omega)]
    exact ret_box 1 h77 hW76 rfl rfl rfl Tryz.underlying27 rfl infFault ⟨by show Ending.returned (.agg #[.int .i64 (listC x.regs x.results),.int .i64 (10000 * (q1:Int)+9999)])=_;rw [RM (by rw [EF];show _≠_;omega),EF],hW76.bel⟩
   have h9:(listC x.regs x.results)=0:=bne_eq_false_iff_eq.1 hb
   have hc78:Hid ((listC x.regs x.results)=0):=h9
   clear h9
   clear hb
   refine wp_skip ?_
   refine hK66 _ _ ?_
   refine wp_seq_k fun K79 hK79=>?_
   refine wp_seq_k fun K80 hK80=>?_
   refine fr_region ?_
   intro ops hops
   have hg4:(ops[4]?).bind (fun o:Oper=>o.dst)=some 71:=hops 4
   clear hops
   refine St.go h71 ?_;clear h71 a71
   refine sfFunc3 trivial rfl rfl ?_
   refine sbBlocks 0 hW68 trivial rfl rfl rfl rfl ?_
   refine slBlocks trivial rfl rfl ?_
   refine slt trivial rfl rfl rfl ?_
   refine sm trivial rfl rfl ?_
   intro a81 h81
   rcases Bool.eq_false_or_eq_true (decide ((x.blocks.length:Int) < 1)) with hb | hb
   ·rw [hb] at h81
    have hc82:x.blocks.length < 1:=by have:=of_decide_eq_true hb;omega
    clear hb
    refine St.go h81 ?_;clear h81 a81
    refine so hg4 rfl rfl rfl rfl ?_
    refine so hg4 rfl rfl rfl rfl ?_
    refine so hg4 rfl rfl rfl rfl ?_
    refine so hg4 rfl rfl rfl rfl ?_
    refine sp trivial rfl rfl rfl ?_
    refine St.nil fun a83 h83=>?_
    refine hK80 _ _ ?_
    refine fr_true (t:=76) h83 rfl ?_
    refine wp_seq_k fun K84 hK84=>?_
    refine rg h83 fun ops=>?_;clear h83 a83
    refine sm trivial rfl rfl ?_
    refine sc_1 cf29 hW68 (atFunc_any (f:=q1) (by omega)) trivial rfl rfl ?_
    clear hW68;intro w85 hW85
    refine sc_2 cf28 hW85 (fF_any (xc:=2) (xp:=10000 * (q1:Int)+9999)) trivial rfl rfl rfl ?_
    clear hW85;intro w86 hW86
    refine sT 1 hW86 rfl rfl infFault rfl rfl rfl ?_
    clear hW86;intro w87 hW87
    refine St.nil fun a88 h88=>?_
    refine hK84 _ _ ?_
    refine wp_ret ?_;with_reducible repeat first | refine of_then_ret ?_ | refine of_block_ret ?_
    have RM:(MFunc.fault m.length q1 x).1≠0→modFault m=MFunc.fault m.length q1 x:=fun hz=>(if_neg (by omega)).trans (by have h9:=firstF_eq (f:=fun f x=>MFunc.fault m.length f x) (j:=0) hx1.out (fun k y hk hy=>by rw [Nat.zero_add];exact hall1 k y hk hy) (by rw [Nat.zero_add];exact hz);rwa [Nat.zero_add] at h9)
    have RC:x.code q1=2:=by have:=hc65.out;have:=hc78.out;exact (if_neg (by omega)).trans ((if_neg (by omega)).trans ((if_neg (by omega)).trans (if_pos (by omega))))
    have EF:MFunc.fault m.length q1 x=(2,10000 * (q1:Int)+9999):=by rw [MFunc.fault_eq,RC,if_neg (by omega)]
    exact ret_box 1 h88 hW87 rfl rfl rfl Tryz.underlying27 rfl infFault ⟨by show Ending.returned (.agg #[.int .i64 2,.int .i64 (10000 * (q1:Int)+9999)])=_;rw [RM (by rw [EF];show _≠_;omega),EF],hW87.bel⟩
   rw [hb] at h81
   have hc89:¬ (x.blocks.length < 1):=by have:=of_decide_eq_false hb;omega
   clear hb
   refine St.go h81 ?_;clear h81 a81
   refine sfFunc3 ⟨_,hg4,rfl,rfl⟩ rfl rfl ?_
   refine sbBlocks 0 hW68 ⟨_,hg4,rfl,rfl⟩ rfl rfl rfl rfl ?_
   refine slBlocks ⟨_,hg4,rfl,rfl⟩ rfl rfl ?_
   refine sgt ⟨_,hg4,rfl,rfl⟩ rfl rfl rfl ?_
   refine spf trivial rfl rfl rfl ?_
   refine St.nil fun a90 h90=>?_
   refine hK80 _ _ ?_
   refine fr_cond (t:=76) h90 rfl (fun hb=>?_) (fun hb=>?_)
   ·have hc91:12 < x.blocks.length:=by have:=of_decide_eq_true hb;omega
    clear hb
    refine wp_seq_k fun K92 hK92=>?_
    refine rg h90 fun ops=>?_;clear h90 a90
    refine sm trivial rfl rfl ?_
    refine sc_1 cf29 hW68 (atFunc_any (f:=q1) (by omega)) trivial rfl rfl ?_
    clear hW68;intro w93 hW93
    refine sc_2 cf28 hW93 (fF_any (xc:=2) (xp:=10000 * (q1:Int)+9999)) trivial rfl rfl rfl ?_
    clear hW93;intro w94 hW94
    refine sT 1 hW94 rfl rfl infFault rfl rfl rfl ?_
    clear hW94;intro w95 hW95
    refine St.nil fun a96 h96=>?_
    refine hK92 _ _ ?_
    refine wp_ret ?_;with_reducible repeat first | refine of_then_ret ?_ | refine of_block_ret ?_
    have RM:(MFunc.fault m.length q1 x).1≠0→modFault m=MFunc.fault m.length q1 x:=fun hz=>(if_neg (by omega)).trans (by have h9:=firstF_eq (f:=fun f x=>MFunc.fault m.length f x) (j:=0) hx1.out (fun k y hk hy=>by rw [Nat.zero_add];exact hall1 k y hk hy) (by rw [Nat.zero_add];exact hz);rwa [Nat.zero_add] at h9)
    have RC:x.code q1=2:=by have:=hc65.out;have:=hc78.out;exact (if_neg (by omega)).trans ((if_neg (by omega)).trans ((if_neg (by omega)).trans (if_pos (by omega))))
    have EF:MFunc.fault m.length q1 x=(2,10000 * (q1:Int)+9999):=by rw [MFunc.fault_eq,RC,if_neg (by omega)]
    exact ret_box 1 h96 hW95 rfl rfl rfl Tryz.underlying27 rfl infFault ⟨by show Ending.returned (.agg #[.int .i64 2,.int .i64 (10000 * (q1:Int)+9999)])=_;rw [RM (by rw [EF];show _≠_;omega),EF],hW95.bel⟩
   have hc97:¬ (12 < x.blocks.length):=by have:=of_decide_eq_false hb;omega
   clear hb
   refine wp_skip ?_
   refine hK79 _ _ ?_
   refine wp_seq_k fun K98 hK98=>?_
   refine wp_seq_k fun K99 hK99=>?_
   refine rg h90 fun ops=>?_;clear h90 a90
   refine sm trivial rfl rfl ?_
   refine seq trivial rfl rfl rfl ?_
   refine St.nil fun a100 h100=>?_
   refine hK99 _ _ ?_
   refine fr_cond (t:=81) h100 rfl (fun hb=>?_) (fun hb=>?_)
   ·have h9:q1=0:=by have h8:=eq_of_beq hb;omega
    have hc101:Hid (q1=0):=h9
    clear h9
    clear hb
    refine wp_seq_k fun K102 hK102=>?_
    refine fr_region ?_
    intro ops hops
    have hg3:(ops[3]?).bind (fun o:Oper=>o.dst)=some 85:=hops 3
    clear hops
    refine St.go h100 ?_;clear h100 a100
    refine sfFunc0 trivial rfl rfl ?_
    refine sbInt 0 hW68 trivial rfl rfl rfl rfl ?_
    refine seq trivial rfl rfl rfl ?_
    refine sm trivial rfl rfl ?_
    intro a103 h103
    rcases Bool.eq_false_or_eq_true (x.regs == 0) with hb | hb
    ·rw [hb] at h103
     have h9:x.regs=0:=eq_of_beq hb
     have hc104:Hid (x.regs=0):=h9
     clear h9
     clear hb
     refine St.go h103 ?_;clear h103 a103
     refine sfFunc1 ⟨_,hg3,rfl,rfl⟩ rfl rfl ?_
     refine sbTypes 0 hW68 ⟨_,hg3,rfl,rfl⟩ rfl rfl rfl rfl ?_
     refine slTypes ⟨_,hg3,rfl,rfl⟩ rfl rfl ?_
     refine seq ⟨_,hg3,rfl,rfl⟩ rfl rfl rfl ?_
     refine sp trivial rfl rfl rfl ?_
     refine sa trivial rfl rfl ?_
     refine St.nil fun a105 h105=>?_
     refine hK102 _ _ ?_
     refine wp_seq_k fun K106 hK106=>?_
     refine wp_seq_k fun K107 hK107=>?_
     refine rg h105 fun ops=>?_;clear h105 a105
     refine sa trivial rfl rfl ?_
     refine St.nil fun a108 h108=>?_
     refine hK107 _ _ ?_
     refine wp_block ?_
     have eqv:plB x 0=((x.params.length:Int) == 0):=by rw [plB_zero];simp [hc104.out]
     have hF109:=h108.cons (t:=7) (v:=.bool (plB x 0)) (by rw [h108.sl 7 _ rfl,eqv])
     clear eqv h108
     refine fr_loop (fun r a w'=>∃ q5:Nat,q5≤x.results.length∧r=x.results.length - q5∧Fr 129 a [(0,.agg #[.slice p m.length c]),(1,.pointer (some ⟨B2,0,none⟩)),(2,.pointer (some ⟨B3,0,none⟩)),(3,.int .i64 (q1:Int)),(4,.pointer (some ⟨B31,0,none⟩)),(5,.int .i64 (listC x.regs x.params)),(6,.int .i64 (listC x.regs x.results)),(7,.bool (plB x q5)),(8,.int .i64 (q5:Int))]∧Wd w w' [(B31,#[.int .i64 x.regs,.slice f1.pP x.params.length f1.cP,.slice f1.pR x.results.length f1.cR,.slice f1.pB x.blocks.length f1.cB],38),(B3,#[.int .i64 0,.int .i64 0],27),(B2,#[.slice p m.length c],25)]) (x.results.length) ⟨0,Nat.zero_le _,rfl,(hF109.keep (hF109.keep (hF109.keep (hF109.keep (hF109.keep (hF109.keep (hF109.keep (hF109.keep (hF109.keep hF109.nil (t:=8) rfl) (t:=7) rfl) (t:=6) rfl) (t:=5) rfl) (t:=4) rfl) (t:=3) rfl) (t:=2) rfl) (t:=1) rfl) (t:=0) rfl),hW68⟩ ?_
     clear hF109 hW68
     rintro r5 a110 w110 ⟨q5,hq5,hr5,hF110,hW110⟩ KL5 hKL5
     refine wp_seq_k fun K111 hK111=>?_
     refine wp_seq_k fun K112 hK112=>?_
     refine rg hF110 fun ops=>?_;clear hF110 a110
     refine sm trivial rfl rfl ?_
     refine sfFunc2 trivial rfl rfl ?_
     refine sbTypes 0 hW110 trivial rfl rfl rfl rfl ?_
     refine slTypes trivial rfl rfl ?_
     refine slt trivial rfl rfl rfl ?_
     refine St.nil fun a113 h113=>?_
     refine hK112 _ _ ?_
     refine fr_cond (t:=95) h113 rfl (fun hb=>?_) (fun hb=>?_)
     ·have hlt5:q5 < x.results.length:=by have:=of_decide_eq_true hb;omega
      clear hb
      obtain ⟨t,hx5⟩:∃ v9,(x.results)[q5]?=some v9:=⟨_,List.getElem?_eq_getElem hlt5⟩
      obtain ⟨g5,o5,pt5,ct5,hp5,E5,In5⟩:=lin_at (types_lin In1.out.results).1 hx5
      replace In5:Hid _:=In5
      replace hp5:Hid _:=hp5
      replace hx5:Hid _:=hx5
      replace E5:Hid _:=E5
      refine wp_skip ?_
      refine hK111 _ _ ?_
      refine wp_seq_k fun K114 hK114=>?_
      refine wp_block ?_
      refine fr_region ?_
      intro ops hops
      have hg1:(ops[1]?).bind (fun o:Oper=>o.dst)=some 99:=hops 1
      clear hops
      refine St.go h113 ?_;clear h113 a113
      refine sm trivial rfl rfl ?_
      refine sm trivial rfl rfl ?_
      intro a115 h115
      rcases Bool.eq_false_or_eq_true (plB x q5) with hb | hb
      ·rw [hb] at h115
       have hc116:plB x q5=true:=hb
       replace hc116:Hid _:=hc116
       clear hb
       refine St.go h115 ?_;clear h115 a115
       refine sfFunc2 ⟨_,hg1,rfl,rfl⟩ rfl rfl ?_
       refine sbTypes 0 hW110 ⟨_,hg1,rfl,rfl⟩ rfl rfl rfl rfl ?_
       refine sm ⟨_,hg1,rfl,rfl⟩ rfl rfl ?_
       refine siTypes hp5.out hlt5 ⟨_,hg1,rfl,rfl⟩ rfl rfl rfl ?_
       refine sfType0 ⟨_,hg1,rfl,rfl⟩ rfl rfl ?_
       refine scInt (bel_cell hW110.bel (E5.out 0 _ rfl)) ⟨_,hg1,rfl,rfl⟩ rfl rfl ?_
       refine seq ⟨_,hg1,rfl,rfl⟩ rfl rfl rfl ?_
       refine sp trivial rfl rfl rfl ?_
       refine sa trivial rfl rfl ?_
       intro a117 h117
       have eqv:plB x (q5+1)=(t.kind == 1):=by rw [plB_succ hx5.out,hc116.out];rfl
       have hF118:=h117.cons (t:=7) (v:=.bool (plB x (q5+1))) (by rw [h117.sl 7 _ rfl,eqv])
       clear eqv h117
       refine wpList_nil ?_
       refine hK114 _ _ ?_
       refine rg hF118 fun ops=>?_;clear hF118 a117
       refine sm trivial rfl rfl ?_
       refine sad (by omega) trivial rfl rfl rfl ?_
       refine sa trivial rfl rfl ?_
       refine St.nil fun a119 h119=>?_
       refine hKL5 _ _ (x.results.length - (q5+1)) (by omega) ⟨q5+1,by omega,rfl,(h119.keep (h119.keep (h119.keep (h119.keep (h119.keep (h119.keep (h119.keep (h119.keep (h119.keep h119.nil (t:=8) rfl) (t:=7) rfl) (t:=6) rfl) (t:=5) rfl) (t:=4) rfl) (t:=3) rfl) (t:=2) rfl) (t:=1) rfl) (t:=0) rfl),hW110⟩
      rw [hb] at h115
      have hc120:plB x q5=false:=hb
      replace hc120:Hid _:=hc120
      clear hb
      refine St.go h115 ?_;clear h115 a115
      refine so hg1 rfl rfl rfl rfl ?_
      refine so hg1 rfl rfl rfl rfl ?_
      refine so hg1 rfl rfl rfl rfl ?_
      refine so hg1 rfl rfl rfl rfl ?_
      refine so hg1 rfl rfl rfl rfl ?_
      refine so hg1 rfl rfl rfl rfl ?_
      refine so hg1 rfl rfl rfl rfl ?_
      refine spf trivial rfl rfl rfl ?_
      refine sa trivial rfl rfl ?_
      intro a121 h121
      have eqv:plB x (q5+1)=false:=by rw [plB_succ hx5.out,hc120.out];rfl
      have hF122:=h121.cons (t:=7) (v:=.bool (plB x (q5+1))) (by rw [h121.sl 7 _ rfl,eqv])
      clear eqv h121
      refine wpList_nil ?_
      refine hK114 _ _ ?_
      refine rg hF122 fun ops=>?_;clear hF122 a121
      refine sm trivial rfl rfl ?_
      refine sad (by omega) trivial rfl rfl rfl ?_
      refine sa trivial rfl rfl ?_
      refine St.nil fun a123 h123=>?_
      refine hKL5 _ _ (x.results.length - (q5+1)) (by omega) ⟨q5+1,by omega,rfl,(h123.keep (h123.keep (h123.keep (h123.keep (h123.keep (h123.keep (h123.keep (h123.keep (h123.keep h123.nil (t:=8) rfl) (t:=7) rfl) (t:=6) rfl) (t:=5) rfl) (t:=4) rfl) (t:=3) rfl) (t:=2) rfl) (t:=1) rfl) (t:=0) rfl),hW110⟩
     have hge5:q5=x.results.length:=by have:=of_decide_eq_false hb;omega
     clear hb
     refine wp_exit ?_
     refine hK106 _ _ ?_
     refine wp_seq_k fun K124 hK124=>?_
     refine rg h113 fun ops=>?_;clear h113 a113
     refine sm trivial rfl rfl ?_
     refine sn trivial rfl rfl ?_
     refine St.nil fun a125 h125=>?_
     refine hK124 _ _ ?_
     refine fr_cond (t:=109) h125 rfl (fun hb=>?_) (fun hb=>?_)
     ·have hb:(plB x q5)=false:=by simpa using hb
      have hc126:plB x q5=false:=hb
      replace hc126:Hid _:=hc126
      clear hb
      have hBG:¬ x.begins:=by rw [← plB_iff,← hge5];rw [hc126.out];decide
      refine wp_seq_k fun K127 hK127=>?_
      refine rg h125 fun ops=>?_;clear h125 a125
      refine sm trivial rfl rfl ?_
      refine sc_1 cf29 hW110 (atFunc_any (f:=q1) (by omega)) trivial rfl rfl ?_
      clear hW110;intro w128 hW128
      refine sc_2 cf28 hW128 (fF_any (xc:=18) (xp:=10000 * (q1:Int)+9999)) trivial rfl rfl rfl ?_
      clear hW128;intro w129 hW129
      refine sT 1 hW129 rfl rfl infFault rfl rfl rfl ?_
      clear hW129;intro w130 hW130
      refine St.nil fun a131 h131=>?_
      refine hK127 _ _ ?_
      refine wp_ret ?_;with_reducible repeat first | refine of_then_ret ?_ | refine of_block_ret ?_
      have RM:(MFunc.fault m.length q1 x).1≠0→modFault m=MFunc.fault m.length q1 x:=fun hz=>(if_neg (by omega)).trans (by have h9:=firstF_eq (f:=fun f x=>MFunc.fault m.length f x) (j:=0) hx1.out (fun k y hk hy=>by rw [Nat.zero_add];exact hall1 k y hk hy) (by rw [Nat.zero_add];exact hz);rwa [Nat.zero_add] at h9)
      have RC:x.code q1=18:=by have:=hc65.out;have:=hc78.out;have:=hc101.out;have:=hc104.out;exact (if_neg (by omega)).trans ((if_neg (by omega)).trans ((if_neg (by omega)).trans ((if_neg (by omega)).trans (if_pos (⟨by omega,hBG⟩)))))
      have EF:MFunc.fault m.length q1 x=(18,10000 * (q1:Int)+9999):=by rw [MFunc.fault_eq,RC,if_neg (by omega)]
      exact ret_box 1 h131 hW130 rfl rfl rfl Tryz.underlying27 rfl infFault ⟨by show Ending.returned (.agg #[.int .i64 18,.int .i64 (10000 * (q1:Int)+9999)])=_;rw [RM (by rw [EF];show _≠_;omega),EF],hW130.bel⟩
     have hb:(plB x q5)=true:=by simpa using hb
     have hc132:plB x q5=true:=hb
     replace hc132:Hid _:=hc132
     clear hb
     have hBG:x.begins:=by rw [← plB_iff,← hge5];exact hc132.out
     refine wp_skip ?_
     refine hK98 _ _ ?_
     refine wp_seq_k fun K133 hK133=>?_
     refine rg h125 fun ops=>?_;clear h125 a125
     refine sa trivial rfl rfl ?_
     refine St.nil fun a134 h134=>?_
     refine hK133 _ _ ?_
     refine wp_block ?_
     refine fr_loop (fun r a w'=>∃ q2:Nat,q2≤x.blocks.length∧r=x.blocks.length - q2∧(∀ (j:Nat) z,j < q2→x.blocks[j]?=some z→(MBlock.fault m.length q1 x j z).1=0)∧Fr 129 a [(0,.agg #[.slice p m.length c]),(1,.pointer (some ⟨B2,0,none⟩)),(2,.pointer (some ⟨B3,0,none⟩)),(3,.int .i64 (q1:Int)),(4,.pointer (some ⟨B31,0,none⟩)),(5,.int .i64 (listC x.regs x.params)),(6,.int .i64 (listC x.regs x.results)),(7,.bool (plB x q5)),(8,.int .i64 (q5:Int)),(9,.int .i64 (q2:Int))]∧Wd w w' [(B31,#[.int .i64 x.regs,.slice f1.pP x.params.length f1.cP,.slice f1.pR x.results.length f1.cR,.slice f1.pB x.blocks.length f1.cB],38),(B3,#[.int .i64 0,.int .i64 0],27),(B2,#[.slice p m.length c],25)]) (x.blocks.length) ⟨0,Nat.zero_le _,rfl,(fun j z hj=>by omega),(h134.keep (h134.keep (h134.keep (h134.keep (h134.keep (h134.keep (h134.keep (h134.keep (h134.keep (h134.keep h134.nil (t:=9) rfl) (t:=8) rfl) (t:=7) rfl) (t:=6) rfl) (t:=5) rfl) (t:=4) rfl) (t:=3) rfl) (t:=2) rfl) (t:=1) rfl) (t:=0) rfl),hW110⟩ ?_
     clear h134 hW110
     rintro r2 a135 w135 ⟨q2,hq2,hr2,hall2,hF135,hW135⟩ KL2 hKL2
     refine wp_seq_k fun K136 hK136=>?_
     refine wp_seq_k fun K137 hK137=>?_
     refine rg hF135 fun ops=>?_;clear hF135 a135
     refine sm trivial rfl rfl ?_
     refine sfFunc3 trivial rfl rfl ?_
     refine sbBlocks 0 hW135 trivial rfl rfl rfl rfl ?_
     refine slBlocks trivial rfl rfl ?_
     refine slt trivial rfl rfl rfl ?_
     refine St.nil fun a138 h138=>?_
     refine hK137 _ _ ?_
     refine fr_cond (t:=117) h138 rfl (fun hb=>?_) (fun hb=>?_)
     ·have hlt2:q2 < x.blocks.length:=by have:=of_decide_eq_true hb;omega
      clear hb
      obtain ⟨y,hx2⟩:∃ v9,(x.blocks)[q2]?=some v9:=⟨_,List.getElem?_eq_getElem hlt2⟩
      obtain ⟨g2,o2,b2,hp2,E2,In2⟩:=block_at In1.out.blocks hx2
      replace In2:Hid _:=In2
      replace hp2:Hid _:=hp2
      replace hx2:Hid _:=hx2
      replace E2:Hid _:=E2
      refine wp_skip ?_
      refine hK136 _ _ ?_
      refine wp_seq_k fun K139 hK139=>?_
      refine wp_block ?_
      refine wp_seq_k fun K140 hK140=>?_
      refine rg h138 fun ops=>?_;clear h138 a138
      refine sS 2 1 Tryz.underlying25 rfl infModule hW135 trivial rfl rfl rfl rfl ?_
      refine sm trivial rfl rfl ?_
      refine sm trivial rfl rfl ?_
      refine sc_3 cf31 hW135 (blockFault_any (c:=c) (Lay.below hm.out hW135.bel) hms.out hx1.out hx2.out) trivial rfl rfl rfl rfl ?_
      clear hW135;intro w141 hW141
      refine sAFault hW141 trivial rfl ?_
      clear hW141;intro w142 B142 hW142 hN;clear hN
      refine sT 0 hW142 rfl rfl infFault rfl rfl rfl ?_
      clear hW142;intro w143 hW143
      refine St.nil fun a144 h144=>?_
      refine hK140 _ _ ?_
      refine wp_seq_k fun K145 hK145=>?_
      refine rg h144 fun ops=>?_;clear h144 a144
      refine sfFault0 trivial rfl rfl ?_
      refine sbInt 0 hW143 trivial rfl rfl rfl rfl ?_
      refine sne trivial rfl rfl rfl ?_
      refine St.nil fun a146 h146=>?_
      refine hK145 _ _ ?_
      refine fr_cond (t:=126) h146 rfl (fun hb=>?_) (fun hb=>?_)
      ·have h9:¬ ((MBlock.fault m.length q1 x q2 y).1)=0:=bne_iff_ne.1 hb
       have hc147:¬ ((MBlock.fault m.length q1 x q2 y).1)=0:=h9
       clear h9
       clear hb
       refine wp_seq_k fun K148 hK148=>?_
       refine rg h146 fun ops=>?_;clear h146 a146
       refine sS 0 2 Tryz.underlying27 rfl infFault hW143 trivial rfl rfl rfl rfl ?_
       refine sT 2 hW143 rfl rfl infFault rfl rfl rfl ?_
       clear hW143;intro w149 hW149
       refine St.nil fun a150 h150=>?_
       refine hK148 _ _ ?_
       refine wp_ret ?_;with_reducible repeat first | refine of_then_ret ?_ | refine of_block_ret ?_
       have RM:(MFunc.fault m.length q1 x).1≠0→modFault m=MFunc.fault m.length q1 x:=fun hz=>(if_neg (by omega)).trans (by have h9:=firstF_eq (f:=fun f x=>MFunc.fault m.length f x) (j:=0) hx1.out (fun k y hk hy=>by rw [Nat.zero_add];exact hall1 k y hk hy) (by rw [Nat.zero_add];exact hz);rwa [Nat.zero_add] at h9)
       have RC:x.code q1=0:=by have:=hc65.out;have:=hc78.out;have:=hc101.out;have:=hc104.out;exact (if_neg (by omega)).trans ((if_neg (by omega)).trans ((if_neg (by omega)).trans ((if_neg (by omega)).trans ((if_neg (fun h9=>h9.2 hBG)).trans (rfl)))))
       have EF:MFunc.fault m.length q1 x=MBlock.fault m.length q1 x q2 y:=by
         rw [MFunc.fault_eq,if_pos RC]
         have h9:=firstF_eq (f:=fun b y=>MBlock.fault m.length q1 x b y) (j:=0) hx2.out (fun k y hk hy=>by rw [Nat.zero_add];exact hall2 k y hk hy) (by rw [Nat.zero_add];exact hc147)
         rwa [Nat.zero_add] at h9
       exact ret_box 2 h150 hW149 rfl rfl rfl Tryz.underlying27 rfl infFault ⟨by show Ending.returned (.agg #[.int .i64 ((MBlock.fault m.length q1 x q2 y).1),.int .i64 ((MBlock.fault m.length q1 x q2 y).2)])=_;rw [RM (by rw [EF];exact hc147),EF],hW149.bel⟩
      have h9:((MBlock.fault m.length q1 x q2 y).1)=0:=bne_eq_false_iff_eq.1 hb
      have hc151:Hid (((MBlock.fault m.length q1 x q2 y).1)=0):=h9
      clear h9
      clear hb
      refine wp_skip ?_
      refine hK139 _ _ ?_
      refine rg h146 fun ops=>?_;clear h146 a146
      refine sm trivial rfl rfl ?_
      refine sad (by omega) trivial rfl rfl rfl ?_
      refine sa trivial rfl rfl ?_
      refine St.nil fun a152 h152=>?_
      refine hKL2 _ _ (x.blocks.length - (q2+1)) (by omega) ⟨q2+1,by omega,rfl,?_,(h152.keep (h152.keep (h152.keep (h152.keep (h152.keep (h152.keep (h152.keep (h152.keep (h152.keep (h152.keep h152.nil (t:=9) rfl) (t:=8) rfl) (t:=7) rfl) (t:=6) rfl) (t:=5) rfl) (t:=4) rfl) (t:=3) rfl) (t:=2) rfl) (t:=1) rfl) (t:=0) rfl),hW143.tail⟩
      ·intro j z hj hz
       by_cases e:j=q2
       · subst e;rw [hx2.out] at hz;cases hz;exact hc151.out
       · exact hall2 j z (by omega) hz
     have hge2:q2=x.blocks.length:=by have:=of_decide_eq_false hb;omega
     clear hb
     have RC:x.code q1=0:=by have:=hc65.out;have:=hc78.out;have:=hc101.out;have:=hc104.out;exact (if_neg (by omega)).trans ((if_neg (by omega)).trans ((if_neg (by omega)).trans ((if_neg (by omega)).trans ((if_neg (fun h9=>h9.2 hBG)).trans (rfl)))))
     have NZ1:(MFunc.fault m.length q1 x).1=0:=by
       rw [MFunc.fault_eq,if_pos RC,firstF_zero (fun k y hy=>by rw [Nat.zero_add];exact hall2 k y (by have:=(List.getElem?_eq_some_iff.1 hy).1;omega) hy)]
     refine wp_exit ?_
     refine hK29 _ _ ?_
     refine rg h138 fun ops=>?_;clear h138 a138
     refine sm trivial rfl rfl ?_
     refine sad (by omega) trivial rfl rfl rfl ?_
     refine sa trivial rfl rfl ?_
     refine St.nil fun a153 h153=>?_
     refine hKL1 _ _ (m.length - (q1+1)) (by omega) ⟨q1+1,by omega,rfl,?_,(h153.keep (h153.keep (h153.keep (h153.keep h153.nil (t:=3) rfl) (t:=2) rfl) (t:=1) rfl) (t:=0) rfl),hW135.tail⟩
     ·intro j z hj hz
      by_cases e:j=q1
      · subst e;rw [hx1.out] at hz;cases hz;exact NZ1
      · exact hall1 j z (by omega) hz
    rw [hb] at h103
    have h9:¬ x.regs=0:=ne_of_beq_false hb
    have hc154:¬ x.regs=0:=h9
    clear h9
    clear hb
    refine St.go h103 ?_;clear h103 a103
    refine so hg3 rfl rfl rfl rfl ?_
    refine so hg3 rfl rfl rfl rfl ?_
    refine so hg3 rfl rfl rfl rfl ?_
    refine so hg3 rfl rfl rfl rfl ?_
    refine spf trivial rfl rfl rfl ?_
    refine sa trivial rfl rfl ?_
    refine St.nil fun a155 h155=>?_
    refine hK102 _ _ ?_
    refine wp_seq_k fun K156 hK156=>?_
    refine wp_seq_k fun K157 hK157=>?_
    refine rg h155 fun ops=>?_;clear h155 a155
    refine sa trivial rfl rfl ?_
    refine St.nil fun a158 h158=>?_
    refine hK157 _ _ ?_
    refine wp_block ?_
    have eqv:plB x 0=false:=by rw [plB_zero];simp [hc154]
    have hF159:=h158.cons (t:=7) (v:=.bool (plB x 0)) (by rw [h158.sl 7 _ rfl,eqv])
    clear eqv h158
    refine fr_loop (fun r a w'=>∃ q5:Nat,q5≤x.results.length∧r=x.results.length - q5∧Fr 129 a [(0,.agg #[.slice p m.length c]),(1,.pointer (some ⟨B2,0,none⟩)),(2,.pointer (some ⟨B3,0,none⟩)),(3,.int .i64 (q1:Int)),(4,.pointer (some ⟨B31,0,none⟩)),(5,.int .i64 (listC x.regs x.params)),(6,.int .i64 (listC x.regs x.results)),(7,.bool (plB x q5)),(8,.int .i64 (q5:Int))]∧Wd w w' [(B31,#[.int .i64 x.regs,.slice f1.pP x.params.length f1.cP,.slice f1.pR x.results.length f1.cR,.slice f1.pB x.blocks.length f1.cB],38),(B3,#[.int .i64 0,.int .i64 0],27),(B2,#[.slice p m.length c],25)]) (x.results.length) ⟨0,Nat.zero_le _,rfl,(hF159.keep (hF159.keep (hF159.keep (hF159.keep (hF159.keep (hF159.keep (hF159.keep (hF159.keep (hF159.keep hF159.nil (t:=8) rfl) (t:=7) rfl) (t:=6) rfl) (t:=5) rfl) (t:=4) rfl) (t:=3) rfl) (t:=2) rfl) (t:=1) rfl) (t:=0) rfl),hW68⟩ ?_
    clear hF159 hW68
    rintro r5 a160 w160 ⟨q5,hq5,hr5,hF160,hW160⟩ KL5 hKL5
    refine wp_seq_k fun K161 hK161=>?_
    refine wp_seq_k fun K162 hK162=>?_
    refine rg hF160 fun ops=>?_;clear hF160 a160
    refine sm trivial rfl rfl ?_
    refine sfFunc2 trivial rfl rfl ?_
    refine sbTypes 0 hW160 trivial rfl rfl rfl rfl ?_
    refine slTypes trivial rfl rfl ?_
    refine slt trivial rfl rfl rfl ?_
    refine St.nil fun a163 h163=>?_
    refine hK162 _ _ ?_
    refine fr_cond (t:=95) h163 rfl (fun hb=>?_) (fun hb=>?_)
    ·have hlt5:q5 < x.results.length:=by have:=of_decide_eq_true hb;omega
     clear hb
     obtain ⟨t,hx5⟩:∃ v9,(x.results)[q5]?=some v9:=⟨_,List.getElem?_eq_getElem hlt5⟩
     obtain ⟨g5,o5,pt5,ct5,hp5,E5,In5⟩:=lin_at (types_lin In1.out.results).1 hx5
     replace In5:Hid _:=In5
     replace hp5:Hid _:=hp5
     replace hx5:Hid _:=hx5
     replace E5:Hid _:=E5
     refine wp_skip ?_
     refine hK161 _ _ ?_
     refine wp_seq_k fun K164 hK164=>?_
     refine wp_block ?_
     refine fr_region ?_
     intro ops hops
     have hg1:(ops[1]?).bind (fun o:Oper=>o.dst)=some 99:=hops 1
     clear hops
     refine St.go h163 ?_;clear h163 a163
     refine sm trivial rfl rfl ?_
     refine sm trivial rfl rfl ?_
     intro a165 h165
     rcases Bool.eq_false_or_eq_true (plB x q5) with hb | hb
     ·rw [hb] at h165
      have hc166:plB x q5=true:=hb
      replace hc166:Hid _:=hc166
      clear hb
      refine St.go h165 ?_;clear h165 a165
      refine sfFunc2 ⟨_,hg1,rfl,rfl⟩ rfl rfl ?_
      refine sbTypes 0 hW160 ⟨_,hg1,rfl,rfl⟩ rfl rfl rfl rfl ?_
      refine sm ⟨_,hg1,rfl,rfl⟩ rfl rfl ?_
      refine siTypes hp5.out hlt5 ⟨_,hg1,rfl,rfl⟩ rfl rfl rfl ?_
      refine sfType0 ⟨_,hg1,rfl,rfl⟩ rfl rfl ?_
      refine scInt (bel_cell hW160.bel (E5.out 0 _ rfl)) ⟨_,hg1,rfl,rfl⟩ rfl rfl ?_
      refine seq ⟨_,hg1,rfl,rfl⟩ rfl rfl rfl ?_
      refine sp trivial rfl rfl rfl ?_
      refine sa trivial rfl rfl ?_
      intro a167 h167
      have eqv:plB x (q5+1)=(t.kind == 1):=by rw [plB_succ hx5.out,hc166.out];rfl
      have hF168:=h167.cons (t:=7) (v:=.bool (plB x (q5+1))) (by rw [h167.sl 7 _ rfl,eqv])
      clear eqv h167
      refine wpList_nil ?_
      refine hK164 _ _ ?_
      refine rg hF168 fun ops=>?_;clear hF168 a167
      refine sm trivial rfl rfl ?_
      refine sad (by omega) trivial rfl rfl rfl ?_
      refine sa trivial rfl rfl ?_
      refine St.nil fun a169 h169=>?_
      refine hKL5 _ _ (x.results.length - (q5+1)) (by omega) ⟨q5+1,by omega,rfl,(h169.keep (h169.keep (h169.keep (h169.keep (h169.keep (h169.keep (h169.keep (h169.keep (h169.keep h169.nil (t:=8) rfl) (t:=7) rfl) (t:=6) rfl) (t:=5) rfl) (t:=4) rfl) (t:=3) rfl) (t:=2) rfl) (t:=1) rfl) (t:=0) rfl),hW160⟩
     rw [hb] at h165
     have hc170:plB x q5=false:=hb
     replace hc170:Hid _:=hc170
     clear hb
     refine St.go h165 ?_;clear h165 a165
     refine so hg1 rfl rfl rfl rfl ?_
     refine so hg1 rfl rfl rfl rfl ?_
     refine so hg1 rfl rfl rfl rfl ?_
     refine so hg1 rfl rfl rfl rfl ?_
     refine so hg1 rfl rfl rfl rfl ?_
     refine so hg1 rfl rfl rfl rfl ?_
     refine so hg1 rfl rfl rfl rfl ?_
     refine spf trivial rfl rfl rfl ?_
     refine sa trivial rfl rfl ?_
     intro a171 h171
     have eqv:plB x (q5+1)=false:=by rw [plB_succ hx5.out,hc170.out];rfl
     have hF172:=h171.cons (t:=7) (v:=.bool (plB x (q5+1))) (by rw [h171.sl 7 _ rfl,eqv])
     clear eqv h171
     refine wpList_nil ?_
     refine hK164 _ _ ?_
     refine rg hF172 fun ops=>?_;clear hF172 a171
     refine sm trivial rfl rfl ?_
     refine sad (by omega) trivial rfl rfl rfl ?_
     refine sa trivial rfl rfl ?_
     refine St.nil fun a173 h173=>?_
     refine hKL5 _ _ (x.results.length - (q5+1)) (by omega) ⟨q5+1,by omega,rfl,(h173.keep (h173.keep (h173.keep (h173.keep (h173.keep (h173.keep (h173.keep (h173.keep (h173.keep h173.nil (t:=8) rfl) (t:=7) rfl) (t:=6) rfl) (t:=5) rfl) (t:=4) rfl) (t:=3) rfl) (t:=2) rfl) (t:=1) rfl) (t:=0) rfl),hW160⟩
    have hge5:q5=x.results.length:=by have:=of_decide_eq_false hb;omega
    clear hb
    refine wp_exit ?_
    refine hK156 _ _ ?_
    refine wp_seq_k fun K174 hK174=>?_
    refine rg h163 fun ops=>?_;clear h163 a163
    refine sm trivial rfl rfl ?_
    refine sn trivial rfl rfl ?_
    refine St.nil fun a175 h175=>?_
    refine hK174 _ _ ?_
    refine fr_cond (t:=109) h175 rfl (fun hb=>?_) (fun hb=>?_)
    ·have hb:(plB x q5)=false:=by simpa using hb
     have hc176:plB x q5=false:=hb
     replace hc176:Hid _:=hc176
     clear hb
     have hBG:¬ x.begins:=by rw [← plB_iff,← hge5];rw [hc176.out];decide
     refine wp_seq_k fun K177 hK177=>?_
     refine rg h175 fun ops=>?_;clear h175 a175
     refine sm trivial rfl rfl ?_
     refine sc_1 cf29 hW160 (atFunc_any (f:=q1) (by omega)) trivial rfl rfl ?_
     clear hW160;intro w178 hW178
     refine sc_2 cf28 hW178 (fF_any (xc:=18) (xp:=10000 * (q1:Int)+9999)) trivial rfl rfl rfl ?_
     clear hW178;intro w179 hW179
     refine sT 1 hW179 rfl rfl infFault rfl rfl rfl ?_
     clear hW179;intro w180 hW180
     refine St.nil fun a181 h181=>?_
     refine hK177 _ _ ?_
     refine wp_ret ?_;with_reducible repeat first | refine of_then_ret ?_ | refine of_block_ret ?_
     have RM:(MFunc.fault m.length q1 x).1≠0→modFault m=MFunc.fault m.length q1 x:=fun hz=>(if_neg (by omega)).trans (by have h9:=firstF_eq (f:=fun f x=>MFunc.fault m.length f x) (j:=0) hx1.out (fun k y hk hy=>by rw [Nat.zero_add];exact hall1 k y hk hy) (by rw [Nat.zero_add];exact hz);rwa [Nat.zero_add] at h9)
     have RC:x.code q1=18:=by have:=hc65.out;have:=hc78.out;have:=hc101.out;exact (if_neg (by omega)).trans ((if_neg (by omega)).trans ((if_neg (by omega)).trans ((if_neg (by omega)).trans (if_pos (⟨by omega,hBG⟩)))))
     have EF:MFunc.fault m.length q1 x=(18,10000 * (q1:Int)+9999):=by rw [MFunc.fault_eq,RC,if_neg (by omega)]
     exact ret_box 1 h181 hW180 rfl rfl rfl Tryz.underlying27 rfl infFault ⟨by show Ending.returned (.agg #[.int .i64 18,.int .i64 (10000 * (q1:Int)+9999)])=_;rw [RM (by rw [EF];show _≠_;omega),EF],hW180.bel⟩
    have hb:(plB x q5)=true:=by simpa using hb
    have hc182:plB x q5=true:=hb
    replace hc182:Hid _:=hc182
    clear hb
    have hBG:x.begins:=by rw [← plB_iff,← hge5];exact hc182.out
    refine wp_skip ?_
    refine hK98 _ _ ?_
    refine wp_seq_k fun K183 hK183=>?_
    refine rg h175 fun ops=>?_;clear h175 a175
    refine sa trivial rfl rfl ?_
    refine St.nil fun a184 h184=>?_
    refine hK183 _ _ ?_
    refine wp_block ?_
    refine fr_loop (fun r a w'=>∃ q2:Nat,q2≤x.blocks.length∧r=x.blocks.length - q2∧(∀ (j:Nat) z,j < q2→x.blocks[j]?=some z→(MBlock.fault m.length q1 x j z).1=0)∧Fr 129 a [(0,.agg #[.slice p m.length c]),(1,.pointer (some ⟨B2,0,none⟩)),(2,.pointer (some ⟨B3,0,none⟩)),(3,.int .i64 (q1:Int)),(4,.pointer (some ⟨B31,0,none⟩)),(5,.int .i64 (listC x.regs x.params)),(6,.int .i64 (listC x.regs x.results)),(7,.bool (plB x q5)),(8,.int .i64 (q5:Int)),(9,.int .i64 (q2:Int))]∧Wd w w' [(B31,#[.int .i64 x.regs,.slice f1.pP x.params.length f1.cP,.slice f1.pR x.results.length f1.cR,.slice f1.pB x.blocks.length f1.cB],38),(B3,#[.int .i64 0,.int .i64 0],27),(B2,#[.slice p m.length c],25)]) (x.blocks.length) ⟨0,Nat.zero_le _,rfl,(fun j z hj=>by omega),(h184.keep (h184.keep (h184.keep (h184.keep (h184.keep (h184.keep (h184.keep (h184.keep (h184.keep (h184.keep h184.nil (t:=9) rfl) (t:=8) rfl) (t:=7) rfl) (t:=6) rfl) (t:=5) rfl) (t:=4) rfl) (t:=3) rfl) (t:=2) rfl) (t:=1) rfl) (t:=0) rfl),hW160⟩ ?_
    clear h184 hW160
    rintro r2 a185 w185 ⟨q2,hq2,hr2,hall2,hF185,hW185⟩ KL2 hKL2
    refine wp_seq_k fun K186 hK186=>?_
    refine wp_seq_k fun K187 hK187=>?_
    refine rg hF185 fun ops=>?_;clear hF185 a185
    refine sm trivial rfl rfl ?_
    refine sfFunc3 trivial rfl rfl ?_
    refine sbBlocks 0 hW185 trivial rfl rfl rfl rfl ?_
    refine slBlocks trivial rfl rfl ?_
    refine slt trivial rfl rfl rfl ?_
    refine St.nil fun a188 h188=>?_
    refine hK187 _ _ ?_
    refine fr_cond (t:=117) h188 rfl (fun hb=>?_) (fun hb=>?_)
    ·have hlt2:q2 < x.blocks.length:=by have:=of_decide_eq_true hb;omega
     clear hb
     obtain ⟨y,hx2⟩:∃ v9,(x.blocks)[q2]?=some v9:=⟨_,List.getElem?_eq_getElem hlt2⟩
     obtain ⟨g2,o2,b2,hp2,E2,In2⟩:=block_at In1.out.blocks hx2
     replace In2:Hid _:=In2
     replace hp2:Hid _:=hp2
     replace hx2:Hid _:=hx2
     replace E2:Hid _:=E2
     refine wp_skip ?_
     refine hK186 _ _ ?_
     refine wp_seq_k fun K189 hK189=>?_
     refine wp_block ?_
     refine wp_seq_k fun K190 hK190=>?_
     refine rg h188 fun ops=>?_;clear h188 a188
     refine sS 2 1 Tryz.underlying25 rfl infModule hW185 trivial rfl rfl rfl rfl ?_
     refine sm trivial rfl rfl ?_
     refine sm trivial rfl rfl ?_
     refine sc_3 cf31 hW185 (blockFault_any (c:=c) (Lay.below hm.out hW185.bel) hms.out hx1.out hx2.out) trivial rfl rfl rfl rfl ?_
     clear hW185;intro w191 hW191
     refine sAFault hW191 trivial rfl ?_
     clear hW191;intro w192 B192 hW192 hN;clear hN
     refine sT 0 hW192 rfl rfl infFault rfl rfl rfl ?_
     clear hW192;intro w193 hW193
     refine St.nil fun a194 h194=>?_
     refine hK190 _ _ ?_
     refine wp_seq_k fun K195 hK195=>?_
     refine rg h194 fun ops=>?_;clear h194 a194
     refine sfFault0 trivial rfl rfl ?_
     refine sbInt 0 hW193 trivial rfl rfl rfl rfl ?_
     refine sne trivial rfl rfl rfl ?_
     refine St.nil fun a196 h196=>?_
     refine hK195 _ _ ?_
     refine fr_cond (t:=126) h196 rfl (fun hb=>?_) (fun hb=>?_)
     ·have h9:¬ ((MBlock.fault m.length q1 x q2 y).1)=0:=bne_iff_ne.1 hb
      have hc197:¬ ((MBlock.fault m.length q1 x q2 y).1)=0:=h9
      clear h9
      clear hb
      refine wp_seq_k fun K198 hK198=>?_
      refine rg h196 fun ops=>?_;clear h196 a196
      refine sS 0 2 Tryz.underlying27 rfl infFault hW193 trivial rfl rfl rfl rfl ?_
      refine sT 2 hW193 rfl rfl infFault rfl rfl rfl ?_
      clear hW193;intro w199 hW199
      refine St.nil fun a200 h200=>?_
      refine hK198 _ _ ?_
      refine wp_ret ?_;with_reducible repeat first | refine of_then_ret ?_ | refine of_block_ret ?_
      have RM:(MFunc.fault m.length q1 x).1≠0→modFault m=MFunc.fault m.length q1 x:=fun hz=>(if_neg (by omega)).trans (by have h9:=firstF_eq (f:=fun f x=>MFunc.fault m.length f x) (j:=0) hx1.out (fun k y hk hy=>by rw [Nat.zero_add];exact hall1 k y hk hy) (by rw [Nat.zero_add];exact hz);rwa [Nat.zero_add] at h9)
      have RC:x.code q1=0:=by have:=hc65.out;have:=hc78.out;have:=hc101.out;exact (if_neg (by omega)).trans ((if_neg (by omega)).trans ((if_neg (by omega)).trans ((if_neg (by omega)).trans ((if_neg (fun h9=>h9.2 hBG)).trans (rfl)))))
      have EF:MFunc.fault m.length q1 x=MBlock.fault m.length q1 x q2 y:=by
        rw [MFunc.fault_eq,if_pos RC]
        have h9:=firstF_eq (f:=fun b y=>MBlock.fault m.length q1 x b y) (j:=0) hx2.out (fun k y hk hy=>by rw [Nat.zero_add];exact hall2 k y hk hy) (by rw [Nat.zero_add];exact hc197)
        rwa [Nat.zero_add] at h9
      exact ret_box 2 h200 hW199 rfl rfl rfl Tryz.underlying27 rfl infFault ⟨by show Ending.returned (.agg #[.int .i64 ((MBlock.fault m.length q1 x q2 y).1),.int .i64 ((MBlock.fault m.length q1 x q2 y).2)])=_;rw [RM (by rw [EF];exact hc197),EF],hW199.bel⟩
     have h9:((MBlock.fault m.length q1 x q2 y).1)=0:=bne_eq_false_iff_eq.1 hb
     have hc201:Hid (((MBlock.fault m.length q1 x q2 y).1)=0):=h9
     clear h9
     clear hb
     refine wp_skip ?_
     refine hK189 _ _ ?_
     refine rg h196 fun ops=>?_;clear h196 a196
     refine sm trivial rfl rfl ?_
     refine sad (by omega) trivial rfl rfl rfl ?_
     refine sa trivial rfl rfl ?_
     refine St.nil fun a202 h202=>?_
     refine hKL2 _ _ (x.blocks.length - (q2+1)) (by omega) ⟨q2+1,by omega,rfl,?_,(h202.keep (h202.keep (h202.keep (h202.keep (h202.keep (h202.keep (h202.keep (h202.keep (h202.keep (h202.keep h202.nil (t:=9) rfl) (t:=8) rfl) (t:=7) rfl) (t:=6) rfl) (t:=5) rfl) (t:=4) rfl) (t:=3) rfl) (t:=2) rfl) (t:=1) rfl) (t:=0) rfl),hW193.tail⟩
     ·intro j z hj hz
      by_cases e:j=q2
      · subst e;rw [hx2.out] at hz;cases hz;exact hc201.out
      · exact hall2 j z (by omega) hz
    have hge2:q2=x.blocks.length:=by have:=of_decide_eq_false hb;omega
    clear hb
    have RC:x.code q1=0:=by have:=hc65.out;have:=hc78.out;have:=hc101.out;exact (if_neg (by omega)).trans ((if_neg (by omega)).trans ((if_neg (by omega)).trans ((if_neg (by omega)).trans ((if_neg (fun h9=>h9.2 hBG)).trans (rfl)))))
    have NZ1:(MFunc.fault m.length q1 x).1=0:=by
      rw [MFunc.fault_eq,if_pos RC,firstF_zero (fun k y hy=>by rw [Nat.zero_add];exact hall2 k y (by have:=(List.getElem?_eq_some_iff.1 hy).1;omega) hy)]
    refine wp_exit ?_
    refine hK29 _ _ ?_
    refine rg h188 fun ops=>?_;clear h188 a188
    refine sm trivial rfl rfl ?_
    refine sad (by omega) trivial rfl rfl rfl ?_
    refine sa trivial rfl rfl ?_
    refine St.nil fun a203 h203=>?_
    refine hKL1 _ _ (m.length - (q1+1)) (by omega) ⟨q1+1,by omega,rfl,?_,(h203.keep (h203.keep (h203.keep (h203.keep h203.nil (t:=3) rfl) (t:=2) rfl) (t:=1) rfl) (t:=0) rfl),hW185.tail⟩
    ·intro j z hj hz
     by_cases e:j=q1
     · subst e;rw [hx1.out] at hz;cases hz;exact NZ1
     · exact hall1 j z (by omega) hz
   have h9:¬ q1=0:=by have h8:=ne_of_beq_false hb;omega
   have hc204:¬ q1=0:=h9
   clear h9
   clear hb
   refine wp_skip ?_
   refine hK98 _ _ ?_
   refine wp_seq_k fun K205 hK205=>?_
   refine rg h100 fun ops=>?_;clear h100 a100
   refine sa trivial rfl rfl ?_
   refine St.nil fun a206 h206=>?_
   refine hK205 _ _ ?_
   refine wp_block ?_
   refine fr_loop (fun r a w'=>∃ q2:Nat,q2≤x.blocks.length∧r=x.blocks.length - q2∧(∀ (j:Nat) z,j < q2→x.blocks[j]?=some z→(MBlock.fault m.length q1 x j z).1=0)∧Fr 129 a [(0,.agg #[.slice p m.length c]),(1,.pointer (some ⟨B2,0,none⟩)),(2,.pointer (some ⟨B3,0,none⟩)),(3,.int .i64 (q1:Int)),(4,.pointer (some ⟨B31,0,none⟩)),(5,.int .i64 (listC x.regs x.params)),(6,.int .i64 (listC x.regs x.results)),(9,.int .i64 (q2:Int))]∧Wd w w' [(B31,#[.int .i64 x.regs,.slice f1.pP x.params.length f1.cP,.slice f1.pR x.results.length f1.cR,.slice f1.pB x.blocks.length f1.cB],38),(B3,#[.int .i64 0,.int .i64 0],27),(B2,#[.slice p m.length c],25)]) (x.blocks.length) ⟨0,Nat.zero_le _,rfl,(fun j z hj=>by omega),(h206.keep (h206.keep (h206.keep (h206.keep (h206.keep (h206.keep (h206.keep (h206.keep h206.nil (t:=9) rfl) (t:=6) rfl) (t:=5) rfl) (t:=4) rfl) (t:=3) rfl) (t:=2) rfl) (t:=1) rfl) (t:=0) rfl),hW68⟩ ?_
   clear h206 hW68
   rintro r2 a207 w207 ⟨q2,hq2,hr2,hall2,hF207,hW207⟩ KL2 hKL2
   refine wp_seq_k fun K208 hK208=>?_
   refine wp_seq_k fun K209 hK209=>?_
   refine rg hF207 fun ops=>?_;clear hF207 a207
   refine sm trivial rfl rfl ?_
   refine sfFunc3 trivial rfl rfl ?_
   refine sbBlocks 0 hW207 trivial rfl rfl rfl rfl ?_
   refine slBlocks trivial rfl rfl ?_
   refine slt trivial rfl rfl rfl ?_
   refine St.nil fun a210 h210=>?_
   refine hK209 _ _ ?_
   refine fr_cond (t:=117) h210 rfl (fun hb=>?_) (fun hb=>?_)
   ·have hlt2:q2 < x.blocks.length:=by have:=of_decide_eq_true hb;omega
    clear hb
    obtain ⟨y,hx2⟩:∃ v9,(x.blocks)[q2]?=some v9:=⟨_,List.getElem?_eq_getElem hlt2⟩
    obtain ⟨g2,o2,b2,hp2,E2,In2⟩:=block_at In1.out.blocks hx2
    replace In2:Hid _:=In2
    replace hp2:Hid _:=hp2
    replace hx2:Hid _:=hx2
    replace E2:Hid _:=E2
    refine wp_skip ?_
    refine hK208 _ _ ?_
    refine wp_seq_k fun K211 hK211=>?_
    refine wp_block ?_
    refine wp_seq_k fun K212 hK212=>?_
    refine rg h210 fun ops=>?_;clear h210 a210
    refine sS 2 1 Tryz.underlying25 rfl infModule hW207 trivial rfl rfl rfl rfl ?_
    refine sm trivial rfl rfl ?_
    refine sm trivial rfl rfl ?_
    refine sc_3 cf31 hW207 (blockFault_any (c:=c) (Lay.below hm.out hW207.bel) hms.out hx1.out hx2.out) trivial rfl rfl rfl rfl ?_
    clear hW207;intro w213 hW213
    refine sAFault hW213 trivial rfl ?_
    clear hW213;intro w214 B214 hW214 hN;clear hN
    refine sT 0 hW214 rfl rfl infFault rfl rfl rfl ?_
    clear hW214;intro w215 hW215
    refine St.nil fun a216 h216=>?_
    refine hK212 _ _ ?_
    refine wp_seq_k fun K217 hK217=>?_
    refine rg h216 fun ops=>?_;clear h216 a216
    refine sfFault0 trivial rfl rfl ?_
    refine sbInt 0 hW215 trivial rfl rfl rfl rfl ?_
    refine sne trivial rfl rfl rfl ?_
    refine St.nil fun a218 h218=>?_
    refine hK217 _ _ ?_
    refine fr_cond (t:=126) h218 rfl (fun hb=>?_) (fun hb=>?_)
    ·have h9:¬ ((MBlock.fault m.length q1 x q2 y).1)=0:=bne_iff_ne.1 hb
     have hc219:¬ ((MBlock.fault m.length q1 x q2 y).1)=0:=h9
     clear h9
     clear hb
     refine wp_seq_k fun K220 hK220=>?_
     refine rg h218 fun ops=>?_;clear h218 a218
     refine sS 0 2 Tryz.underlying27 rfl infFault hW215 trivial rfl rfl rfl rfl ?_
     refine sT 2 hW215 rfl rfl infFault rfl rfl rfl ?_
     clear hW215;intro w221 hW221
     refine St.nil fun a222 h222=>?_
     refine hK220 _ _ ?_
     refine wp_ret ?_;with_reducible repeat first | refine of_then_ret ?_ | refine of_block_ret ?_
     have RM:(MFunc.fault m.length q1 x).1≠0→modFault m=MFunc.fault m.length q1 x:=fun hz=>(if_neg (by omega)).trans (by have h9:=firstF_eq (f:=fun f x=>MFunc.fault m.length f x) (j:=0) hx1.out (fun k y hk hy=>by rw [Nat.zero_add];exact hall1 k y hk hy) (by rw [Nat.zero_add];exact hz);rwa [Nat.zero_add] at h9)
     have RC:x.code q1=0:=by have:=hc65.out;have:=hc78.out;exact (if_neg (by omega)).trans ((if_neg (by omega)).trans ((if_neg (by omega)).trans ((if_neg (by omega)).trans ((if_neg (by omega)).trans (rfl)))))
     have EF:MFunc.fault m.length q1 x=MBlock.fault m.length q1 x q2 y:=by
       rw [MFunc.fault_eq,if_pos RC]
       have h9:=firstF_eq (f:=fun b y=>MBlock.fault m.length q1 x b y) (j:=0) hx2.out (fun k y hk hy=>by rw [Nat.zero_add];exact hall2 k y hk hy) (by rw [Nat.zero_add];exact hc219)
       rwa [Nat.zero_add] at h9
     exact ret_box 2 h222 hW221 rfl rfl rfl Tryz.underlying27 rfl infFault ⟨by show Ending.returned (.agg #[.int .i64 ((MBlock.fault m.length q1 x q2 y).1),.int .i64 ((MBlock.fault m.length q1 x q2 y).2)])=_;rw [RM (by rw [EF];exact hc219),EF],hW221.bel⟩
    have h9:((MBlock.fault m.length q1 x q2 y).1)=0:=bne_eq_false_iff_eq.1 hb
    have hc223:Hid (((MBlock.fault m.length q1 x q2 y).1)=0):=h9
    clear h9
    clear hb
    refine wp_skip ?_
    refine hK211 _ _ ?_
    refine rg h218 fun ops=>?_;clear h218 a218
    refine sm trivial rfl rfl ?_
    refine sad (by omega) trivial rfl rfl rfl ?_
    refine sa trivial rfl rfl ?_
    refine St.nil fun a224 h224=>?_
    refine hKL2 _ _ (x.blocks.length - (q2+1)) (by omega) ⟨q2+1,by omega,rfl,?_,(h224.keep (h224.keep (h224.keep (h224.keep (h224.keep (h224.keep (h224.keep (h224.keep h224.nil (t:=9) rfl) (t:=6) rfl) (t:=5) rfl) (t:=4) rfl) (t:=3) rfl) (t:=2) rfl) (t:=1) rfl) (t:=0) rfl),hW215.tail⟩
    ·intro j z hj hz
     by_cases e:j=q2
     · subst e;rw [hx2.out] at hz;cases hz;exact hc223.out
     · exact hall2 j z (by omega) hz
   have hge2:q2=x.blocks.length:=by have:=of_decide_eq_false hb;omega
   clear hb
   have RC:x.code q1=0:=by have:=hc65.out;have:=hc78.out;exact (if_neg (by omega)).trans ((if_neg (by omega)).trans ((if_neg (by omega)).trans ((if_neg (by omega)).trans ((if_neg (by omega)).trans (rfl)))))
   have NZ1:(MFunc.fault m.length q1 x).1=0:=by
     rw [MFunc.fault_eq,if_pos RC,firstF_zero (fun k y hy=>by rw [Nat.zero_add];exact hall2 k y (by have:=(List.getElem?_eq_some_iff.1 hy).1;omega) hy)]
   refine wp_exit ?_
   refine hK29 _ _ ?_
   refine rg h210 fun ops=>?_;clear h210 a210
   refine sm trivial rfl rfl ?_
   refine sad (by omega) trivial rfl rfl rfl ?_
   refine sa trivial rfl rfl ?_
   refine St.nil fun a225 h225=>?_
   refine hKL1 _ _ (m.length - (q1+1)) (by omega) ⟨q1+1,by omega,rfl,?_,(h225.keep (h225.keep (h225.keep (h225.keep h225.nil (t:=3) rfl) (t:=2) rfl) (t:=1) rfl) (t:=0) rfl),hW207.tail⟩
   ·intro j z hj hz
    by_cases e:j=q1
    · subst e;rw [hx1.out] at hz;cases hz;exact NZ1
    · exact hall1 j z (by omega) hz
  have hge1:q1=m.length:=by have:=of_decide_eq_false hb;omega
  clear hb
  refine wp_exit ?_
  refine hK22 _ _ ?_
  refine wp_seq_k fun K226 hK226=>?_
  refine rg h28 fun ops=>?_;clear h28 a28
  intro a227 h227
  refine fr_pure (t:=128) (v:=.agg #[.int .i64 0,.int .i64 0]) (w':=w25) h227 rfl rfl rfl (fun K hK=>?_) ?_
  ·go_simp
   exact hK
  clear h227;intro a228 hF228
  refine St.go hF228 ?_;clear hF228 a228
  refine sT 0 hW25 rfl rfl infFault rfl rfl rfl ?_
  clear hW25;intro w229 hW229
  refine St.nil fun a230 h230=>?_
  refine hK226 _ _ ?_
  refine wp_ret ?_;with_reducible repeat first | refine of_then_ret ?_ | refine of_block_ret ?_
  have R:modFault m=(0,0):=(if_neg (by omega)).trans (firstF_zero (fun k x hx=>by rw [Nat.zero_add];exact hall1 k x (by have:=(List.getElem?_eq_some_iff.1 hx).1;omega) hx))
  exact ret_box 0 h230 hW229 rfl rfl rfl Tryz.underlying27 rfl infFault ⟨by show Ending.returned (.agg #[.int .i64 0,.int .i64 0])=_;rw [R],hW229.bel⟩
theorem sameBlock_any {n : Nat} {x y : MBlock n} {b d : BP} {w : World} (hx0 : BIn w All x b) (hy0 : BIn w All y d) (hs0 : x.small) :
    Rd Tryz.prog 26 #[.agg #[.int .i64 x.regs,.slice b.pP x.params.length b.cP,.slice b.pC x.code.length b.cC,.int .i64 x.fin.op,.int .i64 x.fin.a,.int .i64 x.fin.yes.block,.slice b.e.pYR x.fin.yes.regs.length b.e.cYR,.slice b.e.pYA x.fin.yes.args.length b.e.cYA,.int .i64 x.fin.no.block,.slice b.e.pNR x.fin.no.regs.length b.e.cNR,.slice b.e.pNA x.fin.no.args.length b.e.cNA,.slice b.e.pA x.fin.args.length b.e.cA],.agg #[.int .i64 y.regs,.slice d.pP y.params.length d.cP,.slice d.pC y.code.length d.cC,.int .i64 y.fin.op,.int .i64 y.fin.a,.int .i64 y.fin.yes.block,.slice d.e.pYR y.fin.yes.regs.length d.e.cYR,.slice d.e.pYA y.fin.yes.args.length d.e.cYA,.int .i64 y.fin.no.block,.slice d.e.pNR y.fin.no.regs.length d.e.cNR,.slice d.e.pNA y.fin.no.args.length d.e.cNA,.slice d.e.pA y.fin.args.length d.e.cA]] w (.bool (bdec (x=y))):=by
  have hcl:=hs0.1
  have hx:Hid _:=hx0
  have hy:Hid _:=hy0
  have hs:Hid _:=hs0
  clear hx0 hy0 hs0
  refine fr_enter (n:=90) Tryz.func26 rfl rfl rfl ?_
  intro a hF
  have hW:=Wd.start w
  replace hF:Fr 90 a [(0,.agg #[.int .i64 x.regs,.slice b.pP x.params.length b.cP,.slice b.pC x.code.length b.cC,.int .i64 x.fin.op,.int .i64 x.fin.a,.int .i64 x.fin.yes.block,.slice b.e.pYR x.fin.yes.regs.length b.e.cYR,.slice b.e.pYA x.fin.yes.args.length b.e.cYA,.int .i64 x.fin.no.block,.slice b.e.pNR x.fin.no.regs.length b.e.cNR,.slice b.e.pNA x.fin.no.args.length b.e.cNA,.slice b.e.pA x.fin.args.length b.e.cA]),(1,.agg #[.int .i64 y.regs,.slice d.pP y.params.length d.cP,.slice d.pC y.code.length d.cC,.int .i64 y.fin.op,.int .i64 y.fin.a,.int .i64 y.fin.yes.block,.slice d.e.pYR y.fin.yes.regs.length d.e.cYR,.slice d.e.pYA y.fin.yes.args.length d.e.cYA,.int .i64 y.fin.no.block,.slice d.e.pNR y.fin.no.regs.length d.e.cNR,.slice d.e.pNA y.fin.no.args.length d.e.cNA,.slice d.e.pA y.fin.args.length d.e.cA])]:=hF
  refine wp_seq_k fun K1 hK1=>?_
  refine rg hF fun ops=>?_;clear hF a
  refine sB hW trivial rfl rfl ?_
  clear hW;intro w2 B2 hW2 hN;clear hN
  refine sB hW2 trivial rfl rfl ?_
  clear hW2;intro w3 B3 hW3 hN;clear hN
  refine sa trivial rfl rfl ?_
  refine St.nil fun a4 h4=>?_
  refine hK1 _ _ ?_
  refine wp_seq_k fun K5 hK5=>?_
  refine wp_seq_k fun K6 hK6=>?_
  refine fr_region ?_
  intro ops hops
  have hg5:(ops[5]?).bind (fun o:Oper=>o.dst)=some 11:=hops 5
  have hg13:(ops[13]?).bind (fun o:Oper=>o.dst)=some 19:=hops 13
  clear hops
  refine St.go h4 ?_;clear h4 a4
  refine sfBlock0 trivial rfl rfl ?_
  refine sbInt 1 hW3 trivial rfl rfl rfl rfl ?_
  refine sfBlock0 trivial rfl rfl ?_
  refine sbInt 0 hW3 trivial rfl rfl rfl rfl ?_
  refine sne trivial rfl rfl rfl ?_
  refine sm trivial rfl rfl ?_
  intro a7 h7
  rcases Bool.eq_false_or_eq_true (x.regs != y.regs) with hb | hb
  ·rw [hb] at h7
   have h9:¬ x.regs=y.regs:=bne_iff_ne.1 hb
   have hc8:¬ x.regs=y.regs:=h9
   clear h9
   clear hb
   refine St.go h7 ?_;clear h7 a7
   refine so hg5 rfl rfl rfl rfl ?_
   refine so hg5 rfl rfl rfl rfl ?_
   refine so hg5 rfl rfl rfl rfl ?_
   refine so hg5 rfl rfl rfl rfl ?_
   refine so hg5 rfl rfl rfl rfl ?_
   refine so hg5 rfl rfl rfl rfl ?_
   refine sp trivial rfl rfl rfl ?_
   refine sm trivial rfl rfl ?_
   refine so hg13 rfl rfl rfl rfl ?_
   refine so hg13 rfl rfl rfl rfl ?_
   refine so hg13 rfl rfl rfl rfl ?_
   refine so hg13 rfl rfl rfl rfl ?_
   refine so hg13 rfl rfl rfl rfl ?_
   refine so hg13 rfl rfl rfl rfl ?_
   refine so hg13 rfl rfl rfl rfl ?_
   refine sp trivial rfl rfl rfl ?_
   refine St.nil fun a9 h9=>?_
   refine hK6 _ _ ?_
   refine fr_true (t:=27) h9 rfl ?_
   refine wp_seq_k fun K10 hK10=>?_
   refine rg h9 fun ops=>?_;clear h9 a9
   refine sa trivial rfl rfl ?_
   refine St.nil fun a11 h11=>?_
   refine hK10 _ _ ?_
   refine wp_ret ?_;with_reducible repeat first | refine of_then_ret ?_ | refine of_block_ret ?_
   have R:¬ x=y:=fun e=>hc8 (by rw [e])
   exact ret_tmp (t:=4) h11 rfl rfl ⟨by rw [bdec_false R],hW3.bel⟩
  rw [hb] at h7
  have h9:x.regs=y.regs:=bne_eq_false_iff_eq.1 hb
  have hc12:Hid (x.regs=y.regs):=h9
  clear h9
  clear hb
  refine St.go h7 ?_;clear h7 a7
  refine sfBlock1 ⟨_,hg5,rfl,rfl⟩ rfl rfl ?_
  refine sbTypes 1 hW3 ⟨_,hg5,rfl,rfl⟩ rfl rfl rfl rfl ?_
  refine sfBlock1 ⟨_,hg5,rfl,rfl⟩ rfl rfl ?_
  refine sbTypes 0 hW3 ⟨_,hg5,rfl,rfl⟩ rfl rfl rfl rfl ?_
  refine sc_2 cf25 hW3 (sameTypes_any (Lay.below hx.out.params hW3.bel) (Lay.below hy.out.params hW3.bel) hs.out.2.1) ⟨_,hg5,rfl,rfl⟩ rfl rfl rfl ?_
  clear hW3;intro w13 hW13
  refine sn ⟨_,hg5,rfl,rfl⟩ rfl rfl ?_
  refine spf trivial rfl rfl rfl ?_
  refine sm trivial rfl rfl ?_
  intro a14 h14
  rcases Bool.eq_false_or_eq_true (!(bdec (x.params=y.params))) with hb | hb
  ·rw [hb] at h14
   have hb:(bdec (x.params=y.params))=false:=by simpa using hb
   have hc15:¬ (x.params=y.params):=fun h=>by rw [bdec_true h] at hb;cases hb
   clear hb
   refine St.go h14 ?_;clear h14 a14
   refine so hg13 rfl rfl rfl rfl ?_
   refine so hg13 rfl rfl rfl rfl ?_
   refine so hg13 rfl rfl rfl rfl ?_
   refine so hg13 rfl rfl rfl rfl ?_
   refine so hg13 rfl rfl rfl rfl ?_
   refine so hg13 rfl rfl rfl rfl ?_
   refine so hg13 rfl rfl rfl rfl ?_
   refine sp trivial rfl rfl rfl ?_
   refine St.nil fun a16 h16=>?_
   refine hK6 _ _ ?_
   refine fr_true (t:=27) h16 rfl ?_
   refine wp_seq_k fun K17 hK17=>?_
   refine rg h16 fun ops=>?_;clear h16 a16
   refine sa trivial rfl rfl ?_
   refine St.nil fun a18 h18=>?_
   refine hK17 _ _ ?_
   refine wp_ret ?_;with_reducible repeat first | refine of_then_ret ?_ | refine of_block_ret ?_
   have R:¬ x=y:=fun e=>hc15 (by rw [e])
   exact ret_tmp (t:=4) h18 rfl rfl ⟨by rw [bdec_false R],hW13.bel⟩
  rw [hb] at h14
  have hb:(bdec (x.params=y.params))=true:=by simpa using hb
  have hc19:(x.params=y.params):=bdec_iff.1 hb
  clear hb
  refine St.go h14 ?_;clear h14 a14
  refine sfBlock2 ⟨_,hg13,rfl,rfl⟩ rfl rfl ?_
  refine sbInss 1 hW13 ⟨_,hg13,rfl,rfl⟩ rfl rfl rfl rfl ?_
  refine slInss ⟨_,hg13,rfl,rfl⟩ rfl rfl ?_
  refine sfBlock2 ⟨_,hg13,rfl,rfl⟩ rfl rfl ?_
  refine sbInss 0 hW13 ⟨_,hg13,rfl,rfl⟩ rfl rfl rfl rfl ?_
  refine slInss ⟨_,hg13,rfl,rfl⟩ rfl rfl ?_
  refine sne ⟨_,hg13,rfl,rfl⟩ rfl rfl rfl ?_
  refine spf trivial rfl rfl rfl ?_
  refine St.nil fun a20 h20=>?_
  refine hK6 _ _ ?_
  refine fr_cond (t:=27) h20 rfl (fun hb=>?_) (fun hb=>?_)
  ·have h9:¬ x.code.length=y.code.length:=by have h8:=bne_iff_ne.1 hb;omega
   have hlen:¬ x.code.length=y.code.length:=h9
   clear h9
   clear hb
   refine wp_seq_k fun K21 hK21=>?_
   refine rg h20 fun ops=>?_;clear h20 a20
   refine sa trivial rfl rfl ?_
   refine St.nil fun a22 h22=>?_
   refine hK21 _ _ ?_
   refine wp_ret ?_;with_reducible repeat first | refine of_then_ret ?_ | refine of_block_ret ?_
   have R:¬ x=y:=fun e=>hlen (by rw [e])
   exact ret_tmp (t:=4) h22 rfl rfl ⟨by rw [bdec_false R],hW13.bel⟩
  have h9:x.code.length=y.code.length:=by have h8:=bne_eq_false_iff_eq.1 hb;omega
  have hlen:Hid (x.code.length=y.code.length):=h9
  clear h9
  clear hb
  refine wp_skip ?_
  refine hK5 _ _ ?_
  refine wp_seq_k fun K23 hK23=>?_
  refine wp_seq_k fun K24 hK24=>?_
  refine rg h20 fun ops=>?_;clear h20 a20
  refine sa trivial rfl rfl ?_
  refine St.nil fun a25 h25=>?_
  refine hK24 _ _ ?_
  refine wp_block ?_
  refine fr_loop (fun r a w'=>∃ q:Nat,q≤x.code.length∧r=x.code.length - q∧(∀ j,j < q→x.code[j]?=y.code[j]?)∧Fr 90 a [(1,.agg #[.int .i64 y.regs,.slice d.pP y.params.length d.cP,.slice d.pC y.code.length d.cC,.int .i64 y.fin.op,.int .i64 y.fin.a,.int .i64 y.fin.yes.block,.slice d.e.pYR y.fin.yes.regs.length d.e.cYR,.slice d.e.pYA y.fin.yes.args.length d.e.cYA,.int .i64 y.fin.no.block,.slice d.e.pNR y.fin.no.regs.length d.e.cNR,.slice d.e.pNA y.fin.no.args.length d.e.cNA,.slice d.e.pA y.fin.args.length d.e.cA]),(0,.agg #[.int .i64 x.regs,.slice b.pP x.params.length b.cP,.slice b.pC x.code.length b.cC,.int .i64 x.fin.op,.int .i64 x.fin.a,.int .i64 x.fin.yes.block,.slice b.e.pYR x.fin.yes.regs.length b.e.cYR,.slice b.e.pYA x.fin.yes.args.length b.e.cYA,.int .i64 x.fin.no.block,.slice b.e.pNR x.fin.no.regs.length b.e.cNR,.slice b.e.pNA x.fin.no.args.length b.e.cNA,.slice b.e.pA x.fin.args.length b.e.cA]),(2,.pointer (some ⟨B2,0,none⟩)),(3,.pointer (some ⟨B3,0,none⟩)),(4,.bool false),(5,.int .i64 (q:Int))]∧Wd w w' [(B3,#[.int .i64 y.regs,.slice d.pP y.params.length d.cP,.slice d.pC y.code.length d.cC,.int .i64 y.fin.op,.int .i64 y.fin.a,.int .i64 y.fin.yes.block,.slice d.e.pYR y.fin.yes.regs.length d.e.cYR,.slice d.e.pYA y.fin.yes.args.length d.e.cYA,.int .i64 y.fin.no.block,.slice d.e.pNR y.fin.no.regs.length d.e.cNR,.slice d.e.pNA y.fin.no.args.length d.e.cNA,.slice d.e.pA y.fin.args.length d.e.cA],48),(B2,#[.int .i64 x.regs,.slice b.pP x.params.length b.cP,.slice b.pC x.code.length b.cC,.int .i64 x.fin.op,.int .i64 x.fin.a,.int .i64 x.fin.yes.block,.slice b.e.pYR x.fin.yes.regs.length b.e.cYR,.slice b.e.pYA x.fin.yes.args.length b.e.cYA,.int .i64 x.fin.no.block,.slice b.e.pNR x.fin.no.regs.length b.e.cNR,.slice b.e.pNA x.fin.no.args.length b.e.cNA,.slice b.e.pA x.fin.args.length b.e.cA],48)]) (x.code.length) ⟨0,Nat.zero_le _,rfl,(fun j hj=>by omega),(h25.keep (h25.keep (h25.keep (h25.keep (h25.keep (h25.keep h25.nil (t:=5) rfl) (t:=4) rfl) (t:=3) rfl) (t:=2) rfl) (t:=0) rfl) (t:=1) rfl),hW13⟩ ?_
  clear h25 hW13
  rintro r a26 w26 ⟨q,hq,hr,hall,hF26,hW26⟩ KL hKL
  refine wp_seq_k fun K27 hK27=>?_
  refine wp_seq_k fun K28 hK28=>?_
  refine rg hF26 fun ops=>?_;clear hF26 a26
  refine sm trivial rfl rfl ?_
  refine sfBlock2 trivial rfl rfl ?_
  refine sbInss 1 hW26 trivial rfl rfl rfl rfl ?_
  refine slInss trivial rfl rfl ?_
  refine slt trivial rfl rfl rfl ?_
  refine St.nil fun a29 h29=>?_
  refine hK28 _ _ ?_
  refine fr_cond (t:=32) h29 rfl (fun hb=>?_) (fun hb=>?_)
  ·have hlt1:q < x.code.length:=by have:=of_decide_eq_true hb;omega
   have hlt2:q < y.code.length:=by have:=hlen.out;omega
   clear hb
   obtain ⟨z,hx1⟩:∃ v9,(x.code)[q]?=some v9:=⟨_,List.getElem?_eq_getElem hlt1⟩
   obtain ⟨g1,o1,i1,hp1,E1,In1⟩:=ins_at hx.out.code hx1
   replace In1:Hid _:=In1
   replace hp1:Hid _:=hp1
   replace hx1:Hid _:=hx1
   replace E1:Hid _:=E1
   obtain ⟨u,hx2⟩:∃ v9,(y.code)[q]?=some v9:=⟨_,List.getElem?_eq_getElem hlt2⟩
   obtain ⟨g2,o2,i2,hp2,E2,In2⟩:=ins_at hy.out.code hx2
   replace In2:Hid _:=In2
   replace hp2:Hid _:=hp2
   replace hx2:Hid _:=hx2
   replace E2:Hid _:=E2
   refine wp_skip ?_
   refine hK27 _ _ ?_
   refine wp_seq_k fun K30 hK30=>?_
   refine wp_block ?_
   refine wp_seq_k fun K31 hK31=>?_
   have hF32:Fr 90 a29 [(1,.agg #[.int .i64 y.regs,.slice d.pP y.params.length d.cP,.slice d.pC y.code.length d.cC,.int .i64 y.fin.op,.int .i64 y.fin.a,.int .i64 y.fin.yes.block,.slice d.e.pYR y.fin.yes.regs.length d.e.cYR,.slice d.e.pYA y.fin.yes.args.length d.e.cYA,.int .i64 y.fin.no.block,.slice d.e.pNR y.fin.no.regs.length d.e.cNR,.slice d.e.pNA y.fin.no.args.length d.e.cNA,.slice d.e.pA y.fin.args.length d.e.cA]),(0,.agg #[.int .i64 x.regs,.slice b.pP x.params.length b.cP,.slice b.pC x.code.length b.cC,.int .i64 x.fin.op,.int .i64 x.fin.a,.int .i64 x.fin.yes.block,.slice b.e.pYR x.fin.yes.regs.length b.e.cYR,.slice b.e.pYA x.fin.yes.args.length b.e.cYA,.int .i64 x.fin.no.block,.slice b.e.pNR x.fin.no.regs.length b.e.cNR,.slice b.e.pNA x.fin.no.args.length b.e.cNA,.slice b.e.pA x.fin.args.length b.e.cA]),(2,.pointer (some ⟨B2,0,none⟩)),(3,.pointer (some ⟨B3,0,none⟩)),(4,.bool false),(5,.int .i64 (q:Int))]:=(h29.keep (h29.keep (h29.keep (h29.keep (h29.keep (h29.keep h29.nil (t:=5) rfl) (t:=4) rfl) (t:=3) rfl) (t:=2) rfl) (t:=0) rfl) (t:=1) rfl)
   have ho2:a29.tmps.getD 2 undef=.pointer (some ⟨B2,0,none⟩):=h29.sl 2 _ rfl
   have ho5:a29.tmps.getD 5 undef=.int .i64 (q:Int):=h29.sl 5 _ rfl
   have ho3:a29.tmps.getD 3 undef=.pointer (some ⟨B3,0,none⟩):=h29.sl 3 _ rfl
   refine fr_draw_k 12 ([(2,fun v _=>v=.pointer (some ⟨B2,0,none⟩)),(5,fun v _=>v=.int .i64 (q:Int)),(3,fun v _=>v=.pointer (some ⟨B3,0,none⟩)),(35,fun v _=>v=.pointer (some ⟨B2,2,none⟩)),(36,fun v _=>v=.slice b.pC x.code.length b.cC),(37,fun v _=>v=.int .i64 (q:Int)),(38,fun v _=>v=.pointer (some ⟨g1,o1+q * 8,none⟩)),(39,fun v _=>v=.agg #[.int .i64 z.op,.int .i64 z.a,.int .i64 z.b,.int .i64 z.c,.int .i64 z.k,.int .i64 z.n,.slice i1.pR z.regs.length i1.cR,.slice i1.pA z.args.length i1.cA]),(40,fun v _=>v=.pointer (some ⟨B3,2,none⟩)),(41,fun v _=>v=.slice d.pC y.code.length d.cC),(42,fun v _=>v=.int .i64 (q:Int)),(43,fun v _=>v=.pointer (some ⟨g2,o2+q * 8,none⟩)),(44,fun v _=>v=.agg #[.int .i64 u.op,.int .i64 u.a,.int .i64 u.b,.int .i64 u.c,.int .i64 u.k,.int .i64 u.n,.slice i2.pR u.regs.length i2.cR,.slice i2.pA u.args.length i2.cA]),(45,fun v _=>v=.bool (bdec (z=u))),(46,fun v _=>v=.bool (!(bdec (z=u))))]:PTab) (fun w'=>Wd w w' [(B3,#[.int .i64 y.regs,.slice d.pP y.params.length d.cP,.slice d.pC y.code.length d.cC,.int .i64 y.fin.op,.int .i64 y.fin.a,.int .i64 y.fin.yes.block,.slice d.e.pYR y.fin.yes.regs.length d.e.cYR,.slice d.e.pYA y.fin.yes.args.length d.e.cYA,.int .i64 y.fin.no.block,.slice d.e.pNR y.fin.no.regs.length d.e.cNR,.slice d.e.pNA y.fin.no.args.length d.e.cNA,.slice d.e.pA y.fin.args.length d.e.cA],48),(B2,#[.int .i64 x.regs,.slice b.pP x.params.length b.cP,.slice b.pC x.code.length b.cC,.int .i64 x.fin.op,.int .i64 x.fin.a,.int .i64 x.fin.yes.block,.slice b.e.pYR x.fin.yes.regs.length b.e.cYR,.slice b.e.pYA x.fin.yes.args.length b.e.cYA,.int .i64 x.fin.no.block,.slice b.e.pNR x.fin.no.regs.length b.e.cNR,.slice b.e.pNA x.fin.no.args.length b.e.cNA,.slice b.e.pA x.fin.args.length b.e.cA],48)]∧Below w26.heap.size w26 w') (fun w w'=>Below w.heap.size w w') (outs:=[2,5,3]) (gs:=[]) (bs:=[true,true,true,true,true,true,true,true,true,true,true,true]) (by kernel_rfl) hF32 rfl (by kernel_rfl) (by kernel_rfl) ?hR ?hG ⟨hW26.drewN 1,drewN_below (m:=1) (Below.refl _ _)⟩ ⟨ho2,ho5,ho3,trivial⟩ ?hA ?hend
   case hR=>exact ⟨fun _ _ _ _ h=>h,fun _ _ _ _ h=>h,fun _ _ _ _ h=>h,fun _ _ _ _ h=>h,fun _ _ _ _ h=>h,fun _ _ _ _ h=>h,fun _ _ _ _ h=>h,fun _ _ _ _ h=>h,fun _ _ _ _ h=>h,fun _ _ _ _ h=>h,fun _ _ _ _ h=>h,fun _ _ _ _ h=>h,fun _ _ _ _ h=>h,fun _ _ _ _ h=>h,fun _ _ _ _ h=>h,trivial⟩
   case hG=>exact trivial
   case hA =>
    refine ⟨fun a w hW hk K hK=>?_,?_⟩
    · obtain ⟨k0,-⟩:=hk
      have k0:a.tmps.getD 2 undef=.pointer (some ⟨B2,0,none⟩):=k0
      go_simp
      exact hK _ _ (Below.refl _ _) hW rfl
    refine ⟨fun a w hW hk K hK=>?_,?_⟩
    · obtain ⟨k0,-⟩:=hk
      have k0:a.tmps.getD 35 undef=.pointer (some ⟨B2,2,none⟩):=k0
      have c2:w.cell? ⟨B2,2,none⟩=some (.slice b.pC x.code.length b.cC):=cellOf (hW.1.get 1 rfl) 2 _ rfl
      go_simp
      exact hK _ _ (Below.refl _ _) hW rfl
    refine ⟨fun a w hW hk K hK=>?_,?_⟩
    · obtain ⟨k0,-⟩:=hk
      have k0:a.tmps.getD 5 undef=.int .i64 (q:Int):=k0
      go_simp
      exact hK _ _ (Below.refl _ _) hW rfl
    refine ⟨fun a w hW hk K hK=>?_,?_⟩
    · obtain ⟨k0,k1,-⟩:=hk
      have k0:a.tmps.getD 36 undef=.slice b.pC x.code.length b.cC:=k0
      have k1:a.tmps.getD 37 undef=.int .i64 (q:Int):=k1
      have hpq:=hp1.out
      have hk0:(0:Int)≤q:=by omega
      have hk1:(q:Int) < (x.code.length:Int):=by omega
      go_simp
      exact hK _ _ (Below.refl _ _) hW rfl
    refine ⟨fun a w hW hk K hK=>?_,?_⟩
    · obtain ⟨k0,-⟩:=hk
      have k0:a.tmps.getD 38 undef=.pointer (some ⟨g1,o1+q * 8,none⟩):=k0
      have d0:w.cell? ⟨g1,o1+q * 8,none⟩=some (.int .i64 z.op):=bel_cell hW.1.bel (E1.out 0 _ rfl)
      have d1:w.cell? ⟨g1,o1+q * 8+1,none⟩=some (.int .i64 z.a):=bel_cell hW.1.bel (E1.out 1 _ rfl)
      have d2:w.cell? ⟨g1,o1+q * 8+2,none⟩=some (.int .i64 z.b):=bel_cell hW.1.bel (E1.out 2 _ rfl)
      have d3:w.cell? ⟨g1,o1+q * 8+3,none⟩=some (.int .i64 z.c):=bel_cell hW.1.bel (E1.out 3 _ rfl)
      have d4:w.cell? ⟨g1,o1+q * 8+4,none⟩=some (.int .i64 z.k):=bel_cell hW.1.bel (E1.out 4 _ rfl)
      have d5:w.cell? ⟨g1,o1+q * 8+5,none⟩=some (.int .i64 z.n):=bel_cell hW.1.bel (E1.out 5 _ rfl)
      have d6:w.cell? ⟨g1,o1+q * 8+6,none⟩=some (.slice i1.pR z.regs.length i1.cR):=bel_cell hW.1.bel (E1.out 6 _ rfl)
      have d7:w.cell? ⟨g1,o1+q * 8+7,none⟩=some (.slice i1.pA z.args.length i1.cA):=bel_cell hW.1.bel (E1.out 7 _ rfl)
      go_simp
      exact hK _ _ (Below.refl _ _) hW rfl
    refine ⟨fun a w hW hk K hK=>?_,?_⟩
    · obtain ⟨k0,-⟩:=hk
      have k0:a.tmps.getD 3 undef=.pointer (some ⟨B3,0,none⟩):=k0
      go_simp
      exact hK _ _ (Below.refl _ _) hW rfl
    refine ⟨fun a w hW hk K hK=>?_,?_⟩
    · obtain ⟨k0,-⟩:=hk
      have k0:a.tmps.getD 40 undef=.pointer (some ⟨B3,2,none⟩):=k0
      have c2:w.cell? ⟨B3,2,none⟩=some (.slice d.pC y.code.length d.cC):=cellOf (hW.1.get 0 rfl) 2 _ rfl
      go_simp
      exact hK _ _ (Below.refl _ _) hW rfl
    refine ⟨fun a w hW hk K hK=>?_,?_⟩
    · obtain ⟨k0,-⟩:=hk
      have k0:a.tmps.getD 5 undef=.int .i64 (q:Int):=k0
      go_simp
      exact hK _ _ (Below.refl _ _) hW rfl
    refine ⟨fun a w hW hk K hK=>?_,?_⟩
    · obtain ⟨k0,k1,-⟩:=hk
      have k0:a.tmps.getD 41 undef=.slice d.pC y.code.length d.cC:=k0
      have k1:a.tmps.getD 42 undef=.int .i64 (q:Int):=k1
      have hpq:=hp2.out
      have hk0:(0:Int)≤q:=by omega
      have hk1:(q:Int) < (y.code.length:Int):=by omega
      go_simp
      exact hK _ _ (Below.refl _ _) hW rfl
    refine ⟨fun a w hW hk K hK=>?_,?_⟩
    · obtain ⟨k0,-⟩:=hk
      have k0:a.tmps.getD 43 undef=.pointer (some ⟨g2,o2+q * 8,none⟩):=k0
      have d0:w.cell? ⟨g2,o2+q * 8,none⟩=some (.int .i64 u.op):=bel_cell hW.1.bel (E2.out 0 _ rfl)
      have d1:w.cell? ⟨g2,o2+q * 8+1,none⟩=some (.int .i64 u.a):=bel_cell hW.1.bel (E2.out 1 _ rfl)
      have d2:w.cell? ⟨g2,o2+q * 8+2,none⟩=some (.int .i64 u.b):=bel_cell hW.1.bel (E2.out 2 _ rfl)
      have d3:w.cell? ⟨g2,o2+q * 8+3,none⟩=some (.int .i64 u.c):=bel_cell hW.1.bel (E2.out 3 _ rfl)
      have d4:w.cell? ⟨g2,o2+q * 8+4,none⟩=some (.int .i64 u.k):=bel_cell hW.1.bel (E2.out 4 _ rfl)
      have d5:w.cell? ⟨g2,o2+q * 8+5,none⟩=some (.int .i64 u.n):=bel_cell hW.1.bel (E2.out 5 _ rfl)
      have d6:w.cell? ⟨g2,o2+q * 8+6,none⟩=some (.slice i2.pR u.regs.length i2.cR):=bel_cell hW.1.bel (E2.out 6 _ rfl)
      have d7:w.cell? ⟨g2,o2+q * 8+7,none⟩=some (.slice i2.pA u.args.length i2.cA):=bel_cell hW.1.bel (E2.out 7 _ rfl)
      go_simp
      exact hK _ _ (Below.refl _ _) hW rfl
    refine ⟨fun a w hW hk K hK=>?_,?_⟩
    · obtain ⟨k0,k1,-⟩:=hk
      have k0:a.tmps.getD 39 undef=.agg #[.int .i64 z.op,.int .i64 z.a,.int .i64 z.b,.int .i64 z.c,.int .i64 z.k,.int .i64 z.n,.slice i1.pR z.regs.length i1.cR,.slice i1.pA z.args.length i1.cA]:=k0
      have k1:a.tmps.getD 44 undef=.agg #[.int .i64 u.op,.int .i64 u.a,.int .i64 u.b,.int .i64 u.c,.int .i64 u.k,.int .i64 u.n,.slice i2.pR u.regs.length i2.cR,.slice i2.pA u.args.length i2.cA]:=k1
      have hC:Rd Tryz.prog 51 #[.agg #[.int .i64 z.op,.int .i64 z.a,.int .i64 z.b,.int .i64 z.c,.int .i64 z.k,.int .i64 z.n,.slice i1.pR z.regs.length i1.cR,.slice i1.pA z.args.length i1.cA],.agg #[.int .i64 u.op,.int .i64 u.a,.int .i64 u.b,.int .i64 u.c,.int .i64 u.k,.int .i64 u.n,.slice i2.pR u.regs.length i2.cR,.slice i2.pA u.args.length i2.cA]] w (.bool (bdec (z=u))):=sameIns_any (In1.out.below hW.1.bel) (In2.out.below hW.1.bel) (hs.out.2.2.2 _ (List.mem_of_getElem? hx1.out))
      go_simp
      refine hC.mono ?_
      rintro e w9 ⟨rfl,hb⟩
      exact hK _ _ hb ⟨hW.1.below hb,Below.andThen hW.2 hb⟩ rfl
    refine ⟨fun a w hW hk K hK=>?_,?_⟩
    · obtain ⟨k0,-⟩:=hk
      have k0:a.tmps.getD 45 undef=.bool (bdec (z=u)):=k0
      go_simp
      exact hK _ _ (Below.refl _ _) hW rfl
    trivial
   case hend =>
    intro ops a33 w33 hWD hE hFD
    have hd46:a33.tmps.getD 46 undef=.bool (!(bdec (z=u))):=hE 46 rfl
    have hF33:Fr 90 a33 [(46,.bool (!(bdec (z=u)))),(1,.agg #[.int .i64 y.regs,.slice d.pP y.params.length d.cP,.slice d.pC y.code.length d.cC,.int .i64 y.fin.op,.int .i64 y.fin.a,.int .i64 y.fin.yes.block,.slice d.e.pYR y.fin.yes.regs.length d.e.cYR,.slice d.e.pYA y.fin.yes.args.length d.e.cYA,.int .i64 y.fin.no.block,.slice d.e.pNR y.fin.no.regs.length d.e.cNR,.slice d.e.pNA y.fin.no.args.length d.e.cNA,.slice d.e.pA y.fin.args.length d.e.cA]),(0,.agg #[.int .i64 x.regs,.slice b.pP x.params.length b.cP,.slice b.pC x.code.length b.cC,.int .i64 x.fin.op,.int .i64 x.fin.a,.int .i64 x.fin.yes.block,.slice b.e.pYR x.fin.yes.regs.length b.e.cYR,.slice b.e.pYA x.fin.yes.args.length b.e.cYA,.int .i64 x.fin.no.block,.slice b.e.pNR x.fin.no.regs.length b.e.cNR,.slice b.e.pNA x.fin.no.args.length b.e.cNA,.slice b.e.pA x.fin.args.length b.e.cA]),(2,.pointer (some ⟨B2,0,none⟩)),(3,.pointer (some ⟨B3,0,none⟩)),(4,.bool false),(5,.int .i64 (q:Int))]:=(hFD.cons hd46)
    clear hd46
    have hW33:Wd w w33 [(B3,#[.int .i64 y.regs,.slice d.pP y.params.length d.cP,.slice d.pC y.code.length d.cC,.int .i64 y.fin.op,.int .i64 y.fin.a,.int .i64 y.fin.yes.block,.slice d.e.pYR y.fin.yes.regs.length d.e.cYR,.slice d.e.pYA y.fin.yes.args.length d.e.cYA,.int .i64 y.fin.no.block,.slice d.e.pNR y.fin.no.regs.length d.e.cNR,.slice d.e.pNA y.fin.no.args.length d.e.cNA,.slice d.e.pA y.fin.args.length d.e.cA],48),(B2,#[.int .i64 x.regs,.slice b.pP x.params.length b.cP,.slice b.pC x.code.length b.cC,.int .i64 x.fin.op,.int .i64 x.fin.a,.int .i64 x.fin.yes.block,.slice b.e.pYR x.fin.yes.regs.length b.e.cYR,.slice b.e.pYA x.fin.yes.args.length b.e.cYA,.int .i64 x.fin.no.block,.slice b.e.pNR x.fin.no.regs.length b.e.cNR,.slice b.e.pNA x.fin.no.args.length b.e.cNA,.slice b.e.pA x.fin.args.length b.e.cA],48)]:=hWD.1
    clear hFD hWD hE hF32 h29
    clear hW26
    refine wpList_nil ?_
    refine hK31 _ _ ?_
    refine fr_cond (t:=46) hF33 rfl (fun hb=>?_) (fun hb=>?_)
    ·have hb:(bdec (z=u))=false:=by simpa using hb
     have hel:¬ (z=u):=fun h=>by rw [bdec_true h] at hb;cases hb
     clear hb
     refine wp_seq_k fun K34 hK34=>?_
     refine rg hF33 fun ops=>?_;clear hF33 a33
     refine sa trivial rfl rfl ?_
     refine St.nil fun a35 h35=>?_
     refine hK34 _ _ ?_
     refine wp_ret ?_;with_reducible repeat first | refine of_then_ret ?_ | refine of_block_ret ?_
     have R:¬ x=y:=by
       intro e
       have h1:=hx1.out
       rw [e,hx2.out] at h1
       exact hel (Option.some.inj h1).symm
     exact ret_tmp (t:=4) h35 rfl rfl ⟨by rw [bdec_false R],hW33.bel⟩
    have hb:(bdec (z=u))=true:=by simpa using hb
    have hel:(z=u):=bdec_iff.1 hb
    clear hb
    refine wp_skip ?_
    refine hK30 _ _ ?_
    refine rg hF33 fun ops=>?_;clear hF33 a33
    refine sm trivial rfl rfl ?_
    refine sad (by omega) trivial rfl rfl rfl ?_
    refine sa trivial rfl rfl ?_
    refine St.nil fun a36 h36=>?_
    refine hKL _ _ (x.code.length - (q+1)) (by omega) ⟨q+1,by omega,rfl,?_,(h36.keep (h36.keep (h36.keep (h36.keep (h36.keep (h36.keep h36.nil (t:=5) rfl) (t:=4) rfl) (t:=3) rfl) (t:=2) rfl) (t:=0) rfl) (t:=1) rfl),hW33⟩
    ·intro j hj
     by_cases e:j=q
     · subst e;rw [hx1.out,hx2.out,hel]
     · exact hall j (by omega)
  have hge:q=x.code.length:=by have:=of_decide_eq_false hb;omega
  clear hb
  refine wp_exit ?_
  refine hK23 _ _ ?_
  refine wp_seq_k fun K37 hK37=>?_
  refine fr_region ?_
  intro ops hops
  have hg7:(ops[7]?).bind (fun o:Oper=>o.dst)=some 54:=hops 7
  have hg16:(ops[16]?).bind (fun o:Oper=>o.dst)=some 63:=hops 16
  have hg25:(ops[25]?).bind (fun o:Oper=>o.dst)=some 72:=hops 25
  have hg34:(ops[34]?).bind (fun o:Oper=>o.dst)=some 81:=hops 34
  clear hops
  refine St.go h29 ?_;clear h29 a29
  refine sfBlock3 trivial rfl rfl ?_
  refine sfEnd0 trivial rfl rfl ?_
  refine sbInt 1 hW26 trivial rfl rfl rfl rfl ?_
  refine sfBlock3 trivial rfl rfl ?_
  refine sfEnd0 trivial rfl rfl ?_
  refine sbInt 0 hW26 trivial rfl rfl rfl rfl ?_
  refine seq trivial rfl rfl rfl ?_
  refine sm trivial rfl rfl ?_
  intro a38 h38
  rcases Bool.eq_false_or_eq_true (x.fin.op == y.fin.op) with hb | hb
  ·rw [hb] at h38
   have h9:x.fin.op=y.fin.op:=eq_of_beq hb
   have hc39:Hid (x.fin.op=y.fin.op):=h9
   clear h9
   clear hb
   refine St.go h38 ?_;clear h38 a38
   refine sfBlock3 ⟨_,hg7,rfl,rfl⟩ rfl rfl ?_
   refine sfEnd1 ⟨_,hg7,rfl,rfl⟩ rfl rfl ?_
   refine sbInt 1 hW26 ⟨_,hg7,rfl,rfl⟩ rfl rfl rfl rfl ?_
   refine sfBlock3 ⟨_,hg7,rfl,rfl⟩ rfl rfl ?_
   refine sfEnd1 ⟨_,hg7,rfl,rfl⟩ rfl rfl ?_
   refine sbInt 0 hW26 ⟨_,hg7,rfl,rfl⟩ rfl rfl rfl rfl ?_
   refine seq ⟨_,hg7,rfl,rfl⟩ rfl rfl rfl ?_
   refine sp trivial rfl rfl rfl ?_
   refine sm trivial rfl rfl ?_
   intro a40 h40
   rcases Bool.eq_false_or_eq_true (x.fin.a == y.fin.a) with hb | hb
   ·rw [hb] at h40
    have h9:x.fin.a=y.fin.a:=eq_of_beq hb
    have hc41:Hid (x.fin.a=y.fin.a):=h9
    clear h9
    clear hb
    refine St.go h40 ?_;clear h40 a40
    refine sfBlock3 ⟨_,hg16,rfl,rfl⟩ rfl rfl ?_
    refine sfEnd2 ⟨_,hg16,rfl,rfl⟩ rfl rfl ?_
    refine sS 1 3 Tryz.underlying44 rfl infTo hW26 ⟨_,hg16,rfl,rfl⟩ rfl rfl rfl rfl ?_
    refine sfBlock3 ⟨_,hg16,rfl,rfl⟩ rfl rfl ?_
    refine sfEnd2 ⟨_,hg16,rfl,rfl⟩ rfl rfl ?_
    refine sS 0 3 Tryz.underlying44 rfl infTo hW26 ⟨_,hg16,rfl,rfl⟩ rfl rfl rfl rfl ?_
    refine sc_2 cf52 hW26 (sameTo_any (hx.out.fin.yes.below hW26.bel) (hy.out.fin.yes.below hW26.bel) hs.out.2.2.1.1) ⟨_,hg16,rfl,rfl⟩ rfl rfl rfl ?_
    clear hW26;intro w42 hW42
    refine sp trivial rfl rfl rfl ?_
    refine sm trivial rfl rfl ?_
    intro a43 h43
    rcases Bool.eq_false_or_eq_true (bdec (x.fin.yes=y.fin.yes)) with hb | hb
    ·rw [hb] at h43
     have hc44:(x.fin.yes=y.fin.yes):=bdec_iff.1 hb
     clear hb
     refine St.go h43 ?_;clear h43 a43
     refine sfBlock3 ⟨_,hg25,rfl,rfl⟩ rfl rfl ?_
     refine sfEnd3 ⟨_,hg25,rfl,rfl⟩ rfl rfl ?_
     refine sS 1 3 Tryz.underlying44 rfl infTo hW42 ⟨_,hg25,rfl,rfl⟩ rfl rfl rfl rfl ?_
     refine sfBlock3 ⟨_,hg25,rfl,rfl⟩ rfl rfl ?_
     refine sfEnd3 ⟨_,hg25,rfl,rfl⟩ rfl rfl ?_
     refine sS 0 3 Tryz.underlying44 rfl infTo hW42 ⟨_,hg25,rfl,rfl⟩ rfl rfl rfl rfl ?_
     refine sc_2 cf52 hW42 (sameTo_any (hx.out.fin.no.below hW42.bel) (hy.out.fin.no.below hW42.bel) hs.out.2.2.1.2.1) ⟨_,hg25,rfl,rfl⟩ rfl rfl rfl ?_
     clear hW42;intro w45 hW45
     refine sp trivial rfl rfl rfl ?_
     refine sm trivial rfl rfl ?_
     intro a46 h46
     rcases Bool.eq_false_or_eq_true (bdec (x.fin.no=y.fin.no)) with hb | hb
     ·rw [hb] at h46
      have hc47:(x.fin.no=y.fin.no):=bdec_iff.1 hb
      clear hb
      refine St.go h46 ?_;clear h46 a46
      refine sfBlock3 ⟨_,hg34,rfl,rfl⟩ rfl rfl ?_
      refine sfEnd4 ⟨_,hg34,rfl,rfl⟩ rfl rfl ?_
      refine sbInts 1 hW45 ⟨_,hg34,rfl,rfl⟩ rfl rfl rfl rfl ?_
      refine sfBlock3 ⟨_,hg34,rfl,rfl⟩ rfl rfl ?_
      refine sfEnd4 ⟨_,hg34,rfl,rfl⟩ rfl rfl ?_
      refine sbInts 0 hW45 ⟨_,hg34,rfl,rfl⟩ rfl rfl rfl rfl ?_
      refine sc_2 cf53 hW45 (sameInts_any x.fin.args y.fin.args b.e.pA d.e.pA b.e.cA d.e.cA w45 (Lay.below hx.out.fin.args hW45.bel) (Lay.below hy.out.fin.args hW45.bel) (by have:=hs.out.2.2.1.2.2;omega)) ⟨_,hg34,rfl,rfl⟩ rfl rfl rfl ?_
      clear hW45;intro w48 hW48
      refine sp trivial rfl rfl rfl ?_
      refine sa trivial rfl rfl ?_
      refine St.nil fun a49 h49=>?_
      refine hK37 _ _ ?_
      refine wp_ret ?_;with_reducible repeat first | refine of_then_ret ?_ | refine of_block_ret ?_
      have RC:x.code=y.code:=by
        have:=hlen.out
        refine List.ext_getElem? fun i=>?_
        by_cases hi:i < q
        · exact hall i hi
        · rw [List.getElem?_eq_none (by omega),List.getElem?_eq_none (by omega)]
      have R:x.fin.args=y.fin.args ↔ x=y:=⟨fun h=>MBlock.eq_of hc12.out hc19 RC (MEnd.eq_of hc39.out hc41.out hc44 hc47 h),fun e=>by rw [e]⟩
      exact ret_tmp (t:=4) h49 rfl rfl ⟨by rw [bdec_congr R],hW48.bel⟩
     rw [hb] at h46
     have hc50:¬ (x.fin.no=y.fin.no):=fun h=>by rw [bdec_true h] at hb;cases hb
     clear hb
     refine St.go h46 ?_;clear h46 a46
     refine so hg34 rfl rfl rfl rfl ?_
     refine so hg34 rfl rfl rfl rfl ?_
     refine so hg34 rfl rfl rfl rfl ?_
     refine so hg34 rfl rfl rfl rfl ?_
     refine so hg34 rfl rfl rfl rfl ?_
     refine so hg34 rfl rfl rfl rfl ?_
     refine so hg34 rfl rfl rfl rfl ?_
     refine spf trivial rfl rfl rfl ?_
     refine sa trivial rfl rfl ?_
     refine St.nil fun a51 h51=>?_
     refine hK37 _ _ ?_
     refine wp_ret ?_;with_reducible repeat first | refine of_then_ret ?_ | refine of_block_ret ?_
     have R:¬ x=y:=fun e=>hc50 (by rw [e])
     exact ret_tmp (t:=4) h51 rfl rfl ⟨by rw [bdec_false R],hW45.bel⟩
    rw [hb] at h43
    have hc52:¬ (x.fin.yes=y.fin.yes):=fun h=>by rw [bdec_true h] at hb;cases hb
    clear hb
    refine St.go h43 ?_;clear h43 a43
    refine so hg25 rfl rfl rfl rfl ?_
    refine so hg25 rfl rfl rfl rfl ?_
    refine so hg25 rfl rfl rfl rfl ?_
    refine so hg25 rfl rfl rfl rfl ?_
    refine so hg25 rfl rfl rfl rfl ?_
    refine so hg25 rfl rfl rfl rfl ?_
    refine so hg25 rfl rfl rfl rfl ?_
    refine spf trivial rfl rfl rfl ?_
    refine sm trivial rfl rfl ?_
    refine so hg34 rfl rfl rfl rfl ?_
    refine so hg34 rfl rfl rfl rfl ?_
    refine so hg34 rfl rfl rfl rfl ?_
    refine so hg34 rfl rfl rfl rfl ?_
    refine so hg34 rfl rfl rfl rfl ?_
    refine so hg34 rfl rfl rfl rfl ?_
    refine so hg34 rfl rfl rfl rfl ?_
    refine spf trivial rfl rfl rfl ?_
    refine sa trivial rfl rfl ?_
    refine St.nil fun a53 h53=>?_
    refine hK37 _ _ ?_
    refine wp_ret ?_;with_reducible repeat first | refine of_then_ret ?_ | refine of_block_ret ?_
    have R:¬ x=y:=fun e=>hc52 (by rw [e])
    exact ret_tmp (t:=4) h53 rfl rfl ⟨by rw [bdec_false R],hW42.bel⟩
   rw [hb] at h40
   have h9:¬ x.fin.a=y.fin.a:=ne_of_beq_false hb
   have hc54:¬ x.fin.a=y.fin.a:=h9
   clear h9
   clear hb
   refine St.go h40 ?_;clear h40 a40
   refine so hg16 rfl rfl rfl rfl ?_
   refine so hg16 rfl rfl rfl rfl ?_
   refine so hg16 rfl rfl rfl rfl ?_
   refine so hg16 rfl rfl rfl rfl ?_
   refine so hg16 rfl rfl rfl rfl ?_
   refine so hg16 rfl rfl rfl rfl ?_
   refine so hg16 rfl rfl rfl rfl ?_
   refine spf trivial rfl rfl rfl ?_
   refine sm trivial rfl rfl ?_
   refine so hg25 rfl rfl rfl rfl ?_
   refine so hg25 rfl rfl rfl rfl ?_
   refine so hg25 rfl rfl rfl rfl ?_
   refine so hg25 rfl rfl rfl rfl ?_
   refine so hg25 rfl rfl rfl rfl ?_
   refine so hg25 rfl rfl rfl rfl ?_
   refine so hg25 rfl rfl rfl rfl ?_
   refine spf trivial rfl rfl rfl ?_
   refine sm trivial rfl rfl ?_
   refine so hg34 rfl rfl rfl rfl ?_
   refine so hg34 rfl rfl rfl rfl ?_
   refine so hg34 rfl rfl rfl rfl ?_
   refine so hg34 rfl rfl rfl rfl ?_
   refine so hg34 rfl rfl rfl rfl ?_
   refine so hg34 rfl rfl rfl rfl ?_
   refine so hg34 rfl rfl rfl rfl ?_
   refine spf trivial rfl rfl rfl ?_
   refine sa trivial rfl rfl ?_
   refine St.nil fun a55 h55=>?_
   refine hK37 _ _ ?_
   refine wp_ret ?_;with_reducible repeat first | refine of_then_ret ?_ | refine of_block_ret ?_
   have R:¬ x=y:=fun e=>hc54 (by rw [e])
   exact ret_tmp (t:=4) h55 rfl rfl ⟨by rw [bdec_false R],hW26.bel⟩
  rw [hb] at h38
  have h9:¬ x.fin.op=y.fin.op:=ne_of_beq_false hb
  have hc56:¬ x.fin.op=y.fin.op:=h9
  clear h9
  clear hb
  refine St.go h38 ?_;clear h38 a38
  refine so hg7 rfl rfl rfl rfl ?_
  refine so hg7 rfl rfl rfl rfl ?_
  refine so hg7 rfl rfl rfl rfl ?_
  refine so hg7 rfl rfl rfl rfl ?_
  refine so hg7 rfl rfl rfl rfl ?_
  refine so hg7 rfl rfl rfl rfl ?_
  refine so hg7 rfl rfl rfl rfl ?_
  refine spf trivial rfl rfl rfl ?_
  refine sm trivial rfl rfl ?_
  refine so hg16 rfl rfl rfl rfl ?_
  refine so hg16 rfl rfl rfl rfl ?_
  refine so hg16 rfl rfl rfl rfl ?_
  refine so hg16 rfl rfl rfl rfl ?_
  refine so hg16 rfl rfl rfl rfl ?_
  refine so hg16 rfl rfl rfl rfl ?_
  refine so hg16 rfl rfl rfl rfl ?_
  refine spf trivial rfl rfl rfl ?_
  refine sm trivial rfl rfl ?_
  refine so hg25 rfl rfl rfl rfl ?_
  refine so hg25 rfl rfl rfl rfl ?_
  refine so hg25 rfl rfl rfl rfl ?_
  refine so hg25 rfl rfl rfl rfl ?_
  refine so hg25 rfl rfl rfl rfl ?_
  refine so hg25 rfl rfl rfl rfl ?_
  refine so hg25 rfl rfl rfl rfl ?_
  refine spf trivial rfl rfl rfl ?_
  refine sm trivial rfl rfl ?_
  refine so hg34 rfl rfl rfl rfl ?_
  refine so hg34 rfl rfl rfl rfl ?_
  refine so hg34 rfl rfl rfl rfl ?_
  refine so hg34 rfl rfl rfl rfl ?_
  refine so hg34 rfl rfl rfl rfl ?_
  refine so hg34 rfl rfl rfl rfl ?_
  refine so hg34 rfl rfl rfl rfl ?_
  refine spf trivial rfl rfl rfl ?_
  refine sa trivial rfl rfl ?_
  refine St.nil fun a57 h57=>?_
  refine hK37 _ _ ?_
  refine wp_ret ?_;with_reducible repeat first | refine of_then_ret ?_ | refine of_block_ret ?_
  have R:¬ x=y:=fun e=>hc56 (by rw [e])
  exact ret_tmp (t:=4) h57 rfl rfl ⟨by rw [bdec_false R],hW26.bel⟩
end Go.Proofs.YtjodmledadbgeacGreatDoor
namespace Go.Proofs.YtjodmledadbgeacGreatDoor
open Go.RowKit
set_option linter.unusedVariables false
section
variable {P : Program} {Q : Exit → Act → World → Prop}
def waits1 (o : Oper) (j : Nat) : Bool := o.after.any fun e => Region.binds .any e && e.on == j
theorem waits1_at {o : Oper} {j : Nat} (h : waits1 o j = true) : ∃ e ∈ o.after, Region.binds .any e = true ∧ e.on = j := by
  obtain ⟨q,hq,he⟩:=Array.any_eq_true.1 h
  simp only [Bool.and_eq_true,beq_iff_eq] at he
  exact ⟨_,Array.getElem_mem hq,he.1,he.2⟩
end
end Go.Proofs.YtjodmledadbgeacGreatDoor
namespace Go.Proofs.YtjodmledadbgeacGreatDoor
open Go.ChangeShapes Go.WideShapes Go.ChangeAt Go.RowKit
set_option linter.unusedVariables false
def Keep1 (B : Nat) (w w' : World) : Prop := ∀ k, k ≠ B → w'.heap[k]? = w.heap[k]?
theorem keep1_setCells (w : World) (B j : Nat) (vs : List Value) : Keep1 B w (w.setCells B j vs) := fun k hk => setCells_other hk vs j w
end Go.Proofs.YtjodmledadbgeacGreatDoor
namespace Go.Proofs.YtjodmledadbgeacGreatDoor
open Go.RowKit
set_option linter.unusedVariables false
theorem blk_setCells {B : Nat} {t : TypeId} : ∀ (vs : List Value) (w : World) (c : Array Value) (j : Nat), Blk w B c t → j + vs.length ≤ c.size → Blk (w.setCells B j vs) B (spliced c j vs) t
  | [],w,c,j,h,hs=>by
    have:spliced c j []=c:=by unfold spliced;simp
    rw [this];exact h
  | v::vs,w,c,j,h,hs=>by
    have:=blk_setCells vs (w.setCell ⟨B,j,none⟩ v) (c.setIfInBounds j v) (j+1) (blockSet h j v) (by simp at hs ⊢;omega)
    rw [spliced_cons _ _ _ _ hs] at this
    exact this
theorem below_setCells {B b : Nat} (hb : B ≤ b) : ∀ (vs : List Value) (w w0 : World) (j : Nat), Below B w0 w → Below B w0 (w.setCells b j vs)
  | [],w,w0,j,h=>h
  | v::vs,w,w0,j,h=>below_setCells hb vs _ _ _ (h.setCell hb v)
end Go.Proofs.YtjodmledadbgeacGreatDoor
namespace Go.Proofs.YtjodmledadbgeacGreatDoor
open Go.RowKit
set_option linter.unusedSimpArgs false
set_option linter.unusedVariables false
section
variable {P : Program} {Q : Exit → Act → World → Prop}
def Closed (l : List Oper) (S : Nat → Bool) : Prop := ∀ (j : Nat) (o : Oper), l[j]? = some o → S j = true → ∀ e ∈ o.after, Region.binds .any e = true → S e.on = true
def Deps (o : Oper) (S : Nat → Bool) : Prop := ∀ e ∈ o.after, Region.binds .any e = true → S e.on = true
theorem Deps.at {o : Oper} {S : Nat → Bool} (h : Deps o S) (j : Nat) (hw : waits1 o j = true) : S j = true := by
  obtain ⟨e,he,hb,rfl⟩:=waits1_at hw
  exact h e he hb
def plus (i : Nat) (S : Nat → Bool) : Nat → Bool := fun j => j == i || S j
def StepsOk (P : Program) (l : List Oper) (I : (Nat → Bool) → Act → World → Prop) : Nat → List Oper → Prop
  | _,[]=>True
  | i,o::r=>(∀ (S:Nat→Bool) (a:Act) (w:World),S i=false→Deps o S→Closed l S→I S a w→∀ K:Act→World→Prop,(∀ a' w',I (plus i S) a' w'→K a' w')→o.wp P a w K (fun _ _ _=>False))∧StepsOk P l I (i+1) r
theorem steps_at {l : List Oper} {I : (Nat → Bool) → Act → World → Prop} : ∀ (r : List Oper) (k i : Nat) (o : Oper), StepsOk P l I k r → r[i]? = some o →
    ∀ (S:Nat→Bool) (a:Act) (w:World),S (k+i)=false→Deps o S→Closed l S→I S a w→∀ K:Act→World→Prop,(∀ a' w',I (plus (k+i) S) a' w'→K a' w')→o.wp P a w K (fun _ _ _=>False)
  | [],_,_,_,_,h=>by simp at h
  | x::r,k,0,o,h,ho=>by simp at ho;subst ho;exact h.1
  | x::r,k,i+1,o,h,ho=>by
    simp at ho
    have:=steps_at r (k+1) i o h.2 ho
    rwa [show k+1+i=k+(i+1) by omega] at this
theorem wpAny_inv {l : List Oper} (hb : backB 0 l = true) (hg : (l.all fun o => o.guard.isNone) = true) (I : (Nat → Bool) → Act → World → Prop) (hst : StepsOk P l I 0 l)
    (hend:∀ S a w,(∀ j,j < l.length→S j=true)→I S a w→Q .normal a w) :
    ∀ (fuel:Nat) (listed:Array Bool) (a:Act) (w:World),listed.size=l.length→(listed.toList.filter (· == false)).length≤fuel→Closed l (fun j=>listed.getD j false)→I (fun j=>listed.getD j false) a w →
      wpAny P .any l.toArray Q fuel listed a w:=by
  have fin:∀ (listed:Array Bool) (a:Act) (w:World),listed.size=l.length→Region.ready .any l.toArray listed=[]→I (fun j=>listed.getD j false) a w→Q .normal a w:=by
    intro listed a w hs hr hI
    refine hend _ a w ?_ hI
    intro j
    induction j using Nat.strongRecOn with
    | _ j ih =>
      intro hj
      cases hc:listed.getD j false with
      | true=>rfl
      | false =>
        exfalso
        have hj':j < listed.size:=by omega
        have hnt:listed.getD j true=false:=by simp [Array.getD,hj'] at hc ⊢;exact hc
        have:j ∈ Region.ready .any l.toArray listed:=ready_mem.2 ⟨by simpa using hj,hnt,l[j],by simp [hj],fun e he hbd=>by
          have:=back_at l 0 j l[j] hb (by simp [hj]) e he hbd
          exact ih e.on (by omega) (by omega)⟩
        rw [hr] at this;cases this
  intro fuel
  induction fuel with
  | zero =>
    intro listed a w hs hf hcl hI
    have hr:Region.ready .any l.toArray listed=[]:=by
      rw [List.eq_nil_iff_forall_not_mem]
      intro i hi
      obtain ⟨h1,h2,_⟩:=ready_mem.1 hi
      have hlt:i < l.length:=by simpa using h1
      have:listed[i]'(by omega)=false:=by
        simp [Array.getD,show i < listed.size by omega] at h2;exact h2
      have hm:false ∈ listed.toList.filter (· == false):=List.mem_filter.2 ⟨by rw [← this];simp,by simp⟩
      have:=List.length_pos_of_mem hm
      omega
    exact ⟨hr,fin listed a w hs hr hI⟩
  | succ fuel ih =>
    intro listed a w hs hf hcl hI
    refine ⟨fun hr=>fin listed a w hs hr hI,fun i hi=>?_⟩
    obtain ⟨h1,h2,o,ho,hdep⟩:=ready_mem.1 hi
    have hlt:i < l.length:=by simpa using h1
    have hil:i < listed.size:=by omega
    have hun':listed[i]=false:=by simp [Array.getD,hil] at h2;exact h2
    have hun:listed.getD i false=false:=by simp [Array.getD,hil,hun']
    have hlen:((listed.setIfInBounds i true).toList.filter (· == false)).length≤fuel:=by
      have h3:=filter_set listed.toList i (by simpa using hil) (by simpa using hun')
      rw [Array.toList_setIfInBounds]
      omega
    have hfun:(fun j=>(listed.setIfInBounds i true).getD j false)=plus i (fun j=>listed.getD j false):=by
      funext j
      unfold plus
      by_cases e:j=i
      · subst e;simp [Array.getD,hil]
      · have hne:i≠j:=fun x=>e x.symm
        rw [Array.getD_eq_getD_getElem?,Array.getElem?_setIfInBounds_ne hne,← Array.getD_eq_getD_getElem?]
        simp [e]
    unfold wpOp
    rw [ho]
    simp only
    have hgo:o.guard=none:=by
      have:=List.all_eq_true.1 hg o (List.mem_of_getElem? (by simpa using ho))
      simpa using this
    have hw:Region.wanted o (yielded l.toArray a.tmps)=true:=by unfold Region.wanted;rw [hgo]
    rw [hw,if_pos rfl]
    have hst':=steps_at l 0 i o hst (by simpa using ho) (fun j=>listed.getD j false) a w (by rw [Nat.zero_add];exact hun) hdep hcl hI
    rw [Nat.zero_add] at hst'
    refine .inl (wpq (fun a' w' hh=>hh) (hst' _ fun a' w' hI'=>?_))
    refine ih _ _ _ (by simpa using hs) hlen ?_ (by rw [hfun];exact hI')
    rw [hfun]
    intro j oj hj hS e he hbd
    unfold plus at hS ⊢
    by_cases e':j=i
    · subst e'
      have hjo:some oj=some o:=by rw [← hj];simpa using ho
      cases hjo
      have:=hdep e he hbd
      simp [this]
    · have:(j == i)=false:=by simpa using e'
      rw [this,Bool.false_or] at hS
      have:=hcl j oj hj hS e he hbd
      simp only at this
      simp [this]
theorem draw_inv {id : Nat} {l : List Oper} {a : Act} {w : World} (I : (Nat → Bool) → Act → World → Prop) (hm : P.follows .mixedOrders = true) (hB : (backB 0 l && (l.all fun o => o.guard.isNone)) = true) (h0 : I (fun _ => false) a w.drew) (hst : StepsOk P l I 0 l)
    (hend:∀ S a w,(∀ j,j < l.length→S j=true)→I S a w→Q .normal a w):(Code.region id l.toArray true).wp P Q a w:=by
  rw [Bool.and_eq_true] at hB
  have e0:(fun j=>(Array.replicate l.length false).getD j false)=fun _=>false:=by
    funext j
    rw [Array.getD_eq_getD_getElem?,Array.getElem?_replicate]
    split <;> rfl
  have key:=wpAny_inv (Q:=Q) hB.1 hB.2 I hst hend l.length (Array.replicate l.length false) a w.drew (by simp) (Nat.le_trans (List.length_filter_le _ _) (by simp)) (by rw [e0];intro j o _ h;cases h) (by rw [e0];exact h0)
  refine wp_region_any hm ?_
  simpa using key
end
structure DI (n : Nat) (a0 : Act) (w00 : World) (ds : List Tmp) (Ti : List (Nat × Tmp)) (Ai : List (Nat × Tmp × Nat × TypeId)) (Oi : List (Nat × Tmp × Nat × TypeId)) (M : List (Tmp × Value)) (C : List (Tmp × List Value)) (S : Nat → Bool) (a : Act) (w : World) : Prop where
  size:a.tmps.size=n
  defers:a.defers=[]
  outer:∀ t,ds.contains t=false→a.tmps.getD t undef=a0.tmps.getD t undef
  bel:Below w00.heap.size w00 w
  vals:∀ x ∈ Ti,S x.1=true→∀ v,M.lookup x.2=some v→a.tmps.getD x.2 undef=v
  new:∀ x ∈ Ai,S x.1=true→∃ B,a.tmps.getD x.2.1 undef=.pointer (some ⟨B,0,none⟩)∧w00.heap.size≤B∧∃ c,Blk w B c x.2.2.2∧c.size=x.2.2.1
  ne:∀ x ∈ Ai,∀ y ∈ Ai,x.2.1≠y.2.1→S x.1=true→S y.1=true→a.tmps.getD x.2.1 undef≠a.tmps.getD y.2.1 undef
  did:∀ x ∈ Oi,S x.1=true→∀ c,C.lookup x.2.1=some c→∃ B,a.tmps.getD x.2.1 undef=.pointer (some ⟨B,0,none⟩)∧Blk w B c.toArray x.2.2.2
def diB (l : List Oper) (n : Nat) (Ti : List (Nat × Tmp)) (Ai Oi : List (Nat × Tmp × Nat × TypeId)) : Bool :=
  (nodupB (Ti.map (·.1)) && nodupB (Ai.map (·.1)) && nodupB (Oi.map (·.1))) && (nodupB (Ti.map (·.2)++Ai.map (·.2.1)) && nodupB (Oi.map (·.2.1)) && ((Ti.map (·.2)++Ai.map (·.2.1)).all fun t=>decide (t < n) && (dstsOf l).contains t) &&
  (Oi.all fun x=>Ai.any fun y=>y.2.1 == x.2.1 && y.2.2.1 == x.2.2.1 && y.2.2.2 == x.2.2.2 && (match l[x.1]? with | some o=>waits1 o y.1 | none=>false)))
theorem nodupB_mem {l1 l2 : List Tmp} : ∀ {t : Tmp}, nodupB (l1 ++ l2) = true → t ∈ l1 → t ∈ l2 → False := by
  induction l1 with
  | nil=>intro t _ h;cases h
  | cons x r ih =>
    intro t h h1 h2
    simp only [List.cons_append,nodupB,Bool.and_eq_true,Bool.not_eq_true'] at h
    rcases List.mem_cons.1 h1 with rfl | h1
    · have:=h.1
      simp at this
      exact this.2 h2
    · exact ih h.2 h1 h2
theorem nodupB_map {α : Type} {f : α → Tmp} : ∀ {l : List α}, nodupB (l.map f) = true → ∀ x ∈ l, ∀ y ∈ l, f x = f y → x = y
  | [],_,_,h,_,_,_=>by cases h
  | z::r,h,x,hx,y,hy,e=>by
    simp only [List.map_cons,nodupB,Bool.and_eq_true,Bool.not_eq_true'] at h
    have hz:∀ u ∈ r,f u≠f z:=fun u hu e=>by
      have:=h.1
      simp at this
      exact this u hu e
    rcases List.mem_cons.1 hx with h1 | h1
    · rcases List.mem_cons.1 hy with h2 | h2
      · rw [h1,h2]
      · exact absurd e.symm (h1 ▸ hz y h2)
    · rcases List.mem_cons.1 hy with h2 | h2
      · exact absurd e (h2 ▸ hz x h1)
      · exact nodupB_map h.2 x h1 y h2 e
theorem nodupB_right {l1 l2 : List Tmp} (h : nodupB (l1 ++ l2) = true) : nodupB l2 = true := by
  induction l1 with
  | nil=>exact h
  | cons x r ih =>
    simp only [List.cons_append,nodupB,Bool.and_eq_true,Bool.not_eq_true'] at h
    exact ih h.2
section
variable {n i : Nat} {a0 a : Act} {w00 w w' : World} {l : List Oper} {Ti : List (Nat × Tmp)} {Ai Oi : List (Nat × Tmp × Nat × TypeId)} {M : List (Tmp × Value)} {C : List (Tmp × List Value)} {S : Nat → Bool} {t : Tmp} {v : Value} {s : Nat} {ty : TypeId}
theorem put_at {u : Tmp} (h : t < a.tmps.size) : (a.put (some t) v).tmps.getD u undef = if u = t then v else a.tmps.getD u undef := by
  by_cases e:u=t
  · subst e;simp [Act.put,Array.getD,h]
  · rw [if_neg e]
    have hne:t≠u:=fun x=>e x.symm
    rw [Array.getD_eq_getD_getElem?,Array.getD_eq_getD_getElem?]
    simp only [Act.put]
    rw [Array.getElem?_setIfInBounds_ne hne]
theorem plus_of {j : Nat} (hne : j ≠ i) (h : plus i S j = true) : S j = true := by
  have:(j == i)=false:=by simpa using hne
  unfold plus at h
  rwa [this,Bool.false_or] at h
theorem DI.pure (hB : diB l n Ti Ai Oi = true) (hI : DI n a0 w00 (dstsOf l) Ti Ai Oi M C S a w) (hi : (i, t) ∈ Ti) (hv : M.lookup t = some v) (hS : S i = false) (hb : Below w.heap.size w w')
    (hiA:(Ai.all fun x=>x.1 != i)=true) (hiO:(Oi.all fun x=>x.1 != i)=true):DI n a0 w00 (dstsOf l) Ti Ai Oi M C (plus i S) (a.put (some t) v) w':=by
  simp only [diB,Bool.and_eq_true] at hB
  obtain ⟨hix,⟨⟨hnd,hndO⟩,hall⟩,hO⟩:=hB
  have htT:t ∈ Ti.map (·.2):=List.mem_map.2 ⟨(i,t),hi,rfl⟩
  have h9:=List.all_eq_true.1 hall t (List.mem_append_left _ htT)
  simp only [Bool.and_eq_true,decide_eq_true_eq] at h9
  have htn:t < a.tmps.size:=by rw [hI.size];exact h9.1
  have hneA:∀ x ∈ Ai,x.2.1≠t:=fun x hx e=>nodupB_mem hnd htT (e ▸ List.mem_map.2 ⟨x,hx,rfl⟩)
  have hneO:∀ x ∈ Oi,x.2.1≠t:=fun x hx e=>by
    obtain ⟨y,hy,hh⟩:=List.any_eq_true.1 (List.all_eq_true.1 hO x hx)
    simp only [Bool.and_eq_true,beq_iff_eq] at hh
    exact hneA y hy (hh.1.1.1.trans e)
  have hA:∀ x ∈ Ai,plus i S x.1=true→S x.1=true:=fun x hx h=>plus_of (by have:=List.all_eq_true.1 hiA x hx;simpa using this) h
  have hO':∀ x ∈ Oi,plus i S x.1=true→S x.1=true:=fun x hx h=>plus_of (by have:=List.all_eq_true.1 hiO x hx;simpa using this) h
  refine ⟨by rw [← hI.size];simp [Act.put],hI.defers,fun u hu=>?_,Below.andThen hI.bel hb,fun x hx hs u hu=>?_,fun x hx hs=>?_,fun x hx y hy hxy hs1 hs2=>?_,fun x hx hs c hc=>?_⟩
  · have:u≠t:=fun e=>by subst e;rw [h9.2] at hu;cases hu
    rw [put_at htn,if_neg this];exact hI.outer u hu
  · rw [put_at htn]
    by_cases e:x.2=t
    · rw [if_pos e];rw [e,hv] at hu;exact Option.some.inj hu
    · rw [if_neg e]
      refine hI.vals x hx (plus_of (fun e2=>e ?_) hs) u hu
      exact congrArg (·.2) (nodupB_map (f:=fun x:Nat × Tmp=>x.1) hix.1.1 x hx (i,t) hi e2)
  · obtain ⟨B,h1,h2,c,h3,h4⟩:=hI.new x hx (hA x hx hs)
    exact ⟨B,by rw [put_at htn,if_neg (hneA x hx)];exact h1,h2,c,h3.below hb,h4⟩
  · rw [put_at htn,if_neg (hneA x hx),put_at htn,if_neg (hneA y hy)]
    exact hI.ne x hx y hy hxy (hA x hx hs1) (hA y hy hs2)
  · obtain ⟨B,h1,h2⟩:=hI.did x hx (hO' x hx hs) c hc
    exact ⟨B,by rw [put_at htn,if_neg (hneO x hx)];exact h1,h2.below hb⟩
theorem DI.alloc (hB : diB l n Ti Ai Oi = true) (hI : DI n a0 w00 (dstsOf l) Ti Ai Oi M C S a w) (hi : (i, t, s, ty) ∈ Ai) {c : Array Value} (hc : c.size = s) (hS : S i = false) (hcl : Closed l S)
    (hiT:(Ti.all fun x=>x.1 != i)=true) (hiO:(Oi.all fun x=>x.1 != i)=true):DI n a0 w00 (dstsOf l) Ti Ai Oi M C (plus i S) (a.put (some t) (.pointer (some ⟨w.heap.size,0,none⟩))) (w.alloc (.cells c ty)):=by
  simp only [diB,Bool.and_eq_true] at hB
  obtain ⟨hix,⟨⟨hnd,hndO⟩,hall⟩,hO⟩:=hB
  have hb:Below w.heap.size w (w.alloc (.cells c ty)):=bel1 w _
  have htA:t ∈ Ai.map (·.2.1):=List.mem_map.2 ⟨(i,t,s,ty),hi,rfl⟩
  have h9:=List.all_eq_true.1 hall t (List.mem_append_right _ htA)
  simp only [Bool.and_eq_true,decide_eq_true_eq] at h9
  have htn:t < a.tmps.size:=by rw [hI.size];exact h9.1
  have hneT:∀ x ∈ Ti,x.2≠t:=fun x hx e=>nodupB_mem hnd (e ▸ List.mem_map.2 ⟨x,hx,rfl⟩) htA
  have one:∀ x ∈ Ai,x.2.1=t→x=(i,t,s,ty):=fun x hx e=>nodupB_map (f:=fun x:Nat × Tmp × Nat × TypeId=>x.2.1) (nodupB_right hnd) x hx _ hi e
  have old:∀ x ∈ Ai,x.2.1≠t→plus i S x.1=true→S x.1=true:=fun x hx hne h=>plus_of (fun e=>hne (congrArg (·.2.1) (nodupB_map (f:=fun x:Nat × Tmp × Nat × TypeId=>x.1) hix.1.2 x hx _ hi e))) h
  refine ⟨by rw [← hI.size];simp [Act.put],hI.defers,fun u hu=>?_,Below.andThen hI.bel hb,fun x hx hs u hu=>?_,fun x hx hs=>?_,fun x hx y hy hxy hs1 hs2=>?_,fun x hx hs c' hc'=>?_⟩
  · have:u≠t:=fun e=>by subst e;rw [h9.2] at hu;cases hu
    rw [put_at htn,if_neg this];exact hI.outer u hu
  · rw [put_at htn,if_neg (hneT x hx)]
    exact hI.vals x hx (plus_of (by have:=List.all_eq_true.1 hiT x hx;simpa using this) hs) u hu
  · by_cases e:x.2.1=t
    · rw [one x hx e]
      exact ⟨w.heap.size,by rw [put_at htn,if_pos rfl],hI.bel.size,c,Blk.new w c ty,hc⟩
    · obtain ⟨B,h1,h2,c',h3,h4⟩:=hI.new x hx (old x hx e hs)
      exact ⟨B,by rw [put_at htn,if_neg e];exact h1,h2,c',h3.below hb,h4⟩
  · have lt:∀ x ∈ Ai,x.2.1≠t→plus i S x.1=true→a.tmps.getD x.2.1 undef≠.pointer (some ⟨w.heap.size,0,none⟩):=fun x hx e hs h=>by
      obtain ⟨B,h1,h2,c',h3,h4⟩:=hI.new x hx (old x hx e hs)
      rw [h1] at h
      simp at h
      have:=h3.lt
      omega
    by_cases e1:x.2.1=t
    · by_cases e2:y.2.1=t
      · exact absurd (e1.trans e2.symm) hxy
      · rw [put_at htn,if_pos e1,put_at htn,if_neg e2]
        exact fun h=>lt y hy e2 hs2 h.symm
    · by_cases e2:y.2.1=t
      · rw [put_at htn,if_neg e1,put_at htn,if_pos e2]
        exact lt x hx e1 hs1
      · rw [put_at htn,if_neg e1,put_at htn,if_neg e2]
        exact hI.ne x hx y hy hxy (old x hx e1 hs1) (old y hy e2 hs2)
  · have hs':S x.1=true:=plus_of (by have:=List.all_eq_true.1 hiO x hx;simpa using this) hs
    have hne:x.2.1≠t:=fun e=>by
      obtain ⟨y,hy,hh⟩:=List.any_eq_true.1 (List.all_eq_true.1 hO x hx)
      simp only [Bool.and_eq_true,beq_iff_eq] at hh
      have hyt:=one y hy (hh.1.1.1.trans e)
      cases ho:l[x.1]? with
      | none=>rw [ho] at hh;simp at hh
      | some o =>
        rw [ho] at hh
        have:=Deps.at (hcl x.1 o ho hs') y.1 hh.2
        rw [hyt] at this
        simp only at this
        rw [hS] at this
        cases this
    obtain ⟨B,h1,h2⟩:=hI.did x hx hs' c' hc'
    exact ⟨B,by rw [put_at htn,if_neg hne];exact h1,h2.below hb⟩
theorem DI.box (hI : DI n a0 w00 (dstsOf l) Ti Ai Oi M C S a w) (hi : (i, t, s, ty) ∈ Ai) (hs : S i = true) : ∃ B, a.tmps.getD t undef = .pointer (some ⟨B, 0, none⟩) ∧ w00.heap.size ≤ B ∧ ∃ c, Blk w B c ty ∧ c.size = s := hI.new _ hi hs
theorem blk_all {w : World} {B : Nat} {c : Array Value} {ty : TypeId} {cs : List Value} (h : Blk w B c ty) (hs : c.size = cs.length) : Blk (w.setCells B 0 cs) B cs.toArray ty := by
  have:=blk_setCells cs w c 0 h (by omega)
  have e:spliced c 0 cs=cs.toArray:=by
    unfold spliced
    have h9:c.toList.drop (0+cs.length)=[]:=List.drop_of_length_le (by simp [hs])
    rw [h9];simp
  rwa [e] at this
theorem DI.store (hB : diB l n Ti Ai Oi = true) (hI : DI n a0 w00 (dstsOf l) Ti Ai Oi M C S a w) (hi : (i, t, s, ty) ∈ Oi) {B j : Nat} {c : Array Value} {cs : List Value} (hj : (j, t, s, ty) ∈ Ai) (hsj : S j = true) (hv : a.tmps.getD t undef = .pointer (some ⟨B, 0, none⟩)) (hBk : Blk w B c ty) (hcs : c.size = s) (hlo : w00.heap.size ≤ B) (hC : C.lookup t = some cs) (hln : cs.length = s) (hS : S i = false) (hcl : Closed l S)
    (hiT:(Ti.all fun x=>x.1 != i)=true) (hiA:(Ai.all fun x=>x.1 != i)=true):DI n a0 w00 (dstsOf l) Ti Ai Oi M C (plus i S) a (w.setCells B 0 cs):=by
  simp only [diB,Bool.and_eq_true] at hB
  obtain ⟨hix,⟨⟨hnd,hndO⟩,hall⟩,hO⟩:=hB
  have hk:=keep1_setCells w B 0 cs
  have hnew:=blk_all (cs:=cs) hBk (by omega)
  have hA:∀ x ∈ Ai,plus i S x.1=true→S x.1=true:=fun x hx h=>plus_of (by have:=List.all_eq_true.1 hiA x hx;simpa using this) h
  refine ⟨hI.size,hI.defers,hI.outer,below_setCells hlo cs w w00 0 hI.bel,fun x hx hs u hu=>?_,fun x hx hs=>?_,fun x hx y hy hxy hs1 hs2=>hI.ne x hx y hy hxy (hA x hx hs1) (hA y hy hs2),fun x hx hs c' hc'=>?_⟩
  · exact hI.vals x hx (plus_of (by have:=List.all_eq_true.1 hiT x hx;simpa using this) hs) u hu
  · obtain ⟨B',h1,h2,c',h3,h4⟩:=hI.new x hx (hA x hx hs)
    by_cases e:B'=B
    · subst e
      have:some (Obj.cells c' x.2.2.2 (0,0))=some (Obj.cells c ty (0,0)):=by rw [← h3,← hBk]
      simp at this
      obtain ⟨rfl,hty⟩:=this
      exact ⟨B',h1,h2,_,by rw [hty];exact hnew,by simp;omega⟩
    · exact ⟨B',h1,h2,c',(hk B' e).trans h3,h4⟩
  · by_cases e:x.2.1=t
    · have hx':=nodupB_map (f:=fun x:Nat × Tmp × Nat × TypeId=>x.2.1) hndO x hx _ hi e
      subst hx'
      simp only at hc' ⊢
      rw [hC] at hc'
      cases hc'
      exact ⟨B,hv,hnew⟩
    · have hs':S x.1=true:=plus_of (fun e'=>e (congrArg (·.2.1) (nodupB_map (f:=fun x:Nat × Tmp × Nat × TypeId=>x.1) hix.2 x hx _ hi e'))) hs
      obtain ⟨B',h1,h2⟩:=hI.did x hx hs' c' hc'
      have hne:B'≠B:=fun e'=>by
        obtain ⟨y,hy,hh⟩:=List.any_eq_true.1 (List.all_eq_true.1 hO x hx)
        simp only [Bool.and_eq_true,beq_iff_eq] at hh
        cases ho:l[x.1]? with
        | none=>rw [ho] at hh;simp at hh
        | some o =>
          rw [ho] at hh
          exact hI.ne y hy _ hj (by rw [hh.1.1.1];exact e) (Deps.at (hcl x.1 o ho hs') y.1 hh.2) hsj (by rw [hh.1.1.1,h1,e'];exact hv.symm)
      exact ⟨B',h1,(hk B' hne).trans h2⟩
theorem DI.full (hI : DI n a0 w00 (dstsOf l) Ti Ai Oi M C S a w) {i j : Nat} {cs : List Value} (hj : (j, t, s, ty) ∈ Ai) (hsj : S j = true) (hi : (i, t, s, ty) ∈ Oi) (hsi : S i = true) (hC : C.lookup t = some cs) :
    ∃ B,a.tmps.getD t undef=.pointer (some ⟨B,0,none⟩)∧w00.heap.size≤B∧Blk w B cs.toArray ty:=by
  obtain ⟨B,h1,h2⟩:=hI.did _ hi hsi cs hC
  obtain ⟨B',h3,h4,_⟩:=hI.new _ hj hsj
  simp only at h1 h3
  rw [h1] at h3
  simp at h3
  subst h3
  exact ⟨B,h1,h4,h2⟩
theorem fr_outer {L : List (Tmp × Value)} (hF : Fr n a0 L) (hL : (L.all fun p => !(dstsOf l).contains p.1) = true) (hI : DI n a0 w00 (dstsOf l) Ti Ai Oi M C S a w) : Fr n a L := by
  refine ⟨hI.size,hI.defers,fun t v hl=>?_⟩
  have hmem:∃ p ∈ L,p.1=t:=by
    clear hL hF
    induction L with
    | nil=>simp at hl
    | cons x r ih =>
      by_cases e:t=x.1
      · exact ⟨x,by simp,e.symm⟩
      · have e':(t == x.1)=false:=beq_false_of_ne e
        rw [List.lookup_cons,e'] at hl
        obtain ⟨p,hp,he⟩:=ih hl
        exact ⟨p,by simp [hp],he⟩
  obtain ⟨p,hp,rfl⟩:=hmem
  have hn:=List.all_eq_true.1 hL p hp
  rw [hI.outer p.1 (by simpa using hn)]
  exact hF.sl _ _ hl
theorem fr_draw3 {P : Program} {Q : Exit → Act → World → Prop} {id : Nat} {L : List (Tmp × Value)} (Ti : List (Nat × Tmp)) (Ai Oi : List (Nat × Tmp × Nat × TypeId)) (M : List (Tmp × Value)) (C : List (Tmp × List Value))
    (hm:P.follows .mixedOrders=true) (hF:Fr n a L) (hL:(L.all fun p=>!(dstsOf l).contains p.1)=true) (hB:((backB 0 l && (l.all fun o=>o.guard.isNone)) && diB l n Ti Ai Oi)=true)
    (hst:diB l n Ti Ai Oi=true→StepsOk P l (DI n a w (dstsOf l) Ti Ai Oi M C) 0 l)
    (hend:∀ S a' w',(∀ j,j < l.length→S j=true)→DI n a w (dstsOf l) Ti Ai Oi M C S a' w'→Fr n a' L→Q .normal a' w'):(Code.region id l.toArray true).wp P Q a w:=by
  rw [Bool.and_eq_true] at hB
  refine draw_inv (DI n a w (dstsOf l) Ti Ai Oi M C) hm hB.1 ?_ (hst hB.2) (fun S a' w' hS hI=>hend S a' w' hS hI ?_)
  · exact ⟨hF.size,hF.defers,fun _ _=>rfl,drewN_below (m:=1) (Below.refl _ _),fun _ _ h=>(by cases h),fun _ _ h=>(by cases h),fun _ _ _ _ _ h=>(by cases h),fun _ _ h=>(by cases h)⟩
  · exact fr_outer hF hL hI
theorem wp_fill {Q : Exit → Act → World → Prop} {K : Act → World → Prop} {B : Nat} {c : Array Value} {bt ty2 ty3 : TypeId} {cells : List Value} {x y : Tmp} {pos : String} {aft : Array Edge} (hB : Blk w B c bt)
    (hx:a.tmps.getD x undef=.pointer (some ⟨B,0,none⟩)) (hy:a.tmps.getD y undef=.agg cells.toArray) (hi:(Tryz.prog.info? ty2).map (·.size)=some cells.length) (h1:cells.all (·.oneCell')=true) (hs:cells.length=c.size)
    (hK:K a (w.setCells B 0 cells)):Oper.wp Tryz.prog ⟨none,.store ty2 (.tmp x) (.tmp y),ty3,pos,aft,none⟩ a w K Q:=by
  have e:a.eval (.tmp x)=.pointer (some ⟨B,0,none⟩):=hx
  have e2:a.eval (.tmp y)=.agg cells.toArray:=hy
  have:=run_storeAt_mid (P:=Tryz.prog) w B 0 ty2 cells.toArray (by simpa using thereOf hB 0 cells.length (by omega)) (by simpa using hi) (by simpa using h1)
  unfold Oper.wp execOp
  simp only [e,e2,Sem.run_bind,this,Result.andThen_ok,Sem.run_pure]
  rw [Oper.upon_skip];simpa [Act.put] using hK
theorem Wd.add2 {w0 : World} {Bs : List (Nat × Array Value × TypeId)} (h : Wd w0 w Bs) (h0 : Wd w0 w00 Bs) {B B' : Nat} {c c' : Array Value} {t t' : TypeId} (hb : Blk w B c t) (hb' : Blk w B' c' t') (hne : B ≠ B') (hB : w00.heap.size ≤ B) (hB' : w00.heap.size ≤ B') :
    Wd w0 w ((B,c,t)::(B',c',t')::Bs):=by
  have h1:=h.add hb' h0 hB'
  have h2:=h.add hb h0 hB
  refine ⟨h.bel,fun i x hx=>?_,fun i x hx=>?_,fun i j x y hx hy e=>?_⟩
  · cases i with
    | zero=>simp at hx;subst hx;exact hb
    | succ i=>exact h1.blk i x (by simpa using hx)
  · cases i with
    | zero=>exact h2.new 0 x (by simpa using hx)
    | succ i=>exact h1.new i x (by simpa using hx)
  · have key:∀ (k:Nat) (z:Nat × Array Value × TypeId),((B',c',t')::Bs)[k]?=some z→z.1≠B:=fun k z hz e=>by
      cases k with
      | zero=>simp at hz;subst hz;exact hne e.symm
      | succ k =>
        have:=h2.nd (k+1) 0 z (B,c,t) (by simpa using hz) (by simp) e
        omega
    cases i with
    | zero =>
      cases j with
      | zero=>rfl
      | succ j=>simp at hx;subst hx;exact absurd e.symm (key j y (by simpa using hy))
    | succ i =>
      cases j with
      | zero=>simp at hy;subst hy;exact absurd e (key i x (by simpa using hx))
      | succ j=>rw [h1.nd i j x y (by simpa using hx) (by simpa using hy) e]
end
end Go.Proofs.YtjodmledadbgeacGreatDoor
namespace Go.Proofs.YtjodmledadbgeacGreatDoor
open Go.ChangeShapes Go.WideShapes Go.ChangeAt Go.RowKit
set_option linter.unusedSimpArgs false
set_option linter.unusedVariables false
theorem sameModule_any {n : Nat} {m k : List (MFunc n)} {p p2 : Option Addr} {c d : Nat} {w : World} (hm0 : (modL n).In w All m [.slice p m.length c]) (hk0 : (modL n).In w All k [.slice p2 k.length d]) (hs0 : msmall m) :
    Rd Tryz.prog 8 #[.agg #[.slice p m.length c],.agg #[.slice p2 k.length d]] w (.bool (bdec (m=k))):=by
  have hm:Hid _:=hm0
  have hk:Hid _:=hk0
  have hs:Hid _:=hs0
  have hcl:=hs0.1
  clear hm0 hk0 hs0
  refine fr_enter (n:=82) Tryz.func8 rfl rfl rfl ?_
  intro a hF
  have hW:=Wd.start w
  replace hF:Fr 82 a [(0,.agg #[.slice p m.length c]),(1,.agg #[.slice p2 k.length d])]:=hF
  refine wp_seq_k fun K1 hK1=>?_
  refine rg hF fun ops=>?_;clear hF a
  refine sB hW trivial rfl rfl ?_
  clear hW;intro w2 B2 hW2 hN;clear hN
  refine sB hW2 trivial rfl rfl ?_
  clear hW2;intro w3 B3 hW3 hN;clear hN
  refine sa trivial rfl rfl ?_
  refine St.nil fun a4 h4=>?_
  refine hK1 _ _ ?_
  refine wp_seq_k fun K5 hK5=>?_
  refine wp_seq_k fun K6 hK6=>?_
  refine rg h4 fun ops=>?_;clear h4 a4
  refine sfModule0 trivial rfl rfl ?_
  refine sbFuncs 1 hW3 trivial rfl rfl rfl rfl ?_
  refine slFuncs trivial rfl rfl ?_
  refine sfModule0 trivial rfl rfl ?_
  refine sbFuncs 0 hW3 trivial rfl rfl rfl rfl ?_
  refine slFuncs trivial rfl rfl ?_
  refine sne trivial rfl rfl rfl ?_
  refine St.nil fun a7 h7=>?_
  refine hK6 _ _ ?_
  refine fr_cond (t:=15) h7 rfl (fun hb=>?_) (fun hb=>?_)
  ·have h9:¬ m.length=k.length:=by have h8:=bne_iff_ne.1 hb;omega
   have hlen:¬ m.length=k.length:=h9
   clear h9
   clear hb
   refine wp_seq_k fun K8 hK8=>?_
   refine rg h7 fun ops=>?_;clear h7 a7
   refine sa trivial rfl rfl ?_
   refine St.nil fun a9 h9=>?_
   refine hK8 _ _ ?_
   refine wp_ret ?_;with_reducible repeat first | refine of_then_ret ?_ | refine of_block_ret ?_
   have R:¬ m=k:=fun e=>hlen (by rw [e])
   exact ret_tmp (t:=4) h9 rfl rfl ⟨by rw [bdec_false R],hW3.bel⟩
  have h9:m.length=k.length:=by have h8:=bne_eq_false_iff_eq.1 hb;omega
  have hlen:Hid (m.length=k.length):=h9
  clear h9
  clear hb
  refine wp_skip ?_
  refine hK5 _ _ ?_
  refine wp_seq_k fun K10 hK10=>?_
  refine wp_seq_k fun K11 hK11=>?_
  refine rg h7 fun ops=>?_;clear h7 a7
  refine sa trivial rfl rfl ?_
  refine St.nil fun a12 h12=>?_
  refine hK11 _ _ ?_
  refine wp_block ?_
  refine fr_loop (fun r a w'=>∃ q:Nat,q≤m.length∧r=m.length - q∧(∀ j,j < q→m[j]?=k[j]?)∧Fr 82 a [(1,.agg #[.slice p2 k.length d]),(0,.agg #[.slice p m.length c]),(2,.pointer (some ⟨B2,0,none⟩)),(3,.pointer (some ⟨B3,0,none⟩)),(4,.bool false),(5,.int .i64 (q:Int))]∧Wd w w' [(B3,#[.slice p2 k.length d],25),(B2,#[.slice p m.length c],25)]) (m.length) ⟨0,Nat.zero_le _,rfl,(fun j hj=>by omega),(h12.keep (h12.keep (h12.keep (h12.keep (h12.keep (h12.keep h12.nil (t:=5) rfl) (t:=4) rfl) (t:=3) rfl) (t:=2) rfl) (t:=0) rfl) (t:=1) rfl),hW3⟩ ?_
  clear h12 hW3
  rintro r a13 w13 ⟨q,hq,hr,hall,hF13,hW13⟩ KL hKL
  refine wp_seq_k fun K14 hK14=>?_
  refine wp_seq_k fun K15 hK15=>?_
  refine rg hF13 fun ops=>?_;clear hF13 a13
  refine sm trivial rfl rfl ?_
  refine sfModule0 trivial rfl rfl ?_
  refine sbFuncs 1 hW13 trivial rfl rfl rfl rfl ?_
  refine slFuncs trivial rfl rfl ?_
  refine slt trivial rfl rfl rfl ?_
  refine St.nil fun a16 h16=>?_
  refine hK15 _ _ ?_
  refine fr_cond (t:=20) h16 rfl (fun hb=>?_) (fun hb=>?_)
  ·have hlt1:q < m.length:=by have:=of_decide_eq_true hb;omega
   have hlt2:q < k.length:=by have:=hlen.out;omega
   clear hb
   obtain ⟨x,hx1⟩:∃ v9,(m)[q]?=some v9:=⟨_,List.getElem?_eq_getElem hlt1⟩
   obtain ⟨g1,o1,f1,hp1,E1,In1⟩:=func_at hm.out hx1
   replace In1:Hid _:=In1
   replace hp1:Hid _:=hp1
   replace hx1:Hid _:=hx1
   replace E1:Hid _:=E1
   obtain ⟨y,hx2⟩:∃ v9,(k)[q]?=some v9:=⟨_,List.getElem?_eq_getElem hlt2⟩
   obtain ⟨g2,o2,f2,hp2,E2,In2⟩:=func_at hk.out hx2
   replace In2:Hid _:=In2
   replace hp2:Hid _:=hp2
   replace hx2:Hid _:=hx2
   replace E2:Hid _:=E2
   have hs1:Hid _:=hs.out.2 x (List.mem_of_getElem? hx1.out)
   have hbl:=hs1.out.1
   refine wp_skip ?_
   refine hK14 _ _ ?_
   refine wp_seq_k fun K17 hK17=>?_
   refine wp_block ?_
   refine wp_seq_k fun K18 hK18=>?_
   have hF19:Fr 82 a16 [(1,.agg #[.slice p2 k.length d]),(0,.agg #[.slice p m.length c]),(2,.pointer (some ⟨B2,0,none⟩)),(3,.pointer (some ⟨B3,0,none⟩)),(4,.bool false),(5,.int .i64 (q:Int))]:=(h16.keep (h16.keep (h16.keep (h16.keep (h16.keep (h16.keep h16.nil (t:=5) rfl) (t:=4) rfl) (t:=3) rfl) (t:=2) rfl) (t:=0) rfl) (t:=1) rfl)
   have ho2:a16.tmps.getD 2 undef=.pointer (some ⟨B2,0,none⟩):=h16.sl 2 _ rfl
   have ho5:a16.tmps.getD 5 undef=.int .i64 (q:Int):=h16.sl 5 _ rfl
   have ho3:a16.tmps.getD 3 undef=.pointer (some ⟨B3,0,none⟩):=h16.sl 3 _ rfl
   refine fr_draw3 [(0,23),(1,24),(2,25),(3,26),(4,27),(5,28),(6,29),(7,30),(8,31),(9,32)] [(10,6,4,38),(11,7,4,38)] [(12,6,4,38),(13,7,4,38)] [(23,.pointer (some ⟨B2,0,none⟩)),(24,.slice p m.length c),(25,.int .i64 (q:Int)),(26,.pointer (some ⟨g1,o1+q * 4,none⟩)),(27,.agg #[.int .i64 x.regs,.slice f1.pP x.params.length f1.cP,.slice f1.pR x.results.length f1.cR,.slice f1.pB x.blocks.length f1.cB]),(28,.pointer (some ⟨B3,0,none⟩)),(29,.slice p2 k.length d),(30,.int .i64 (q:Int)),(31,.pointer (some ⟨g2,o2+q * 4,none⟩)),(32,.agg #[.int .i64 y.regs,.slice f2.pP y.params.length f2.cP,.slice f2.pR y.results.length f2.cR,.slice f2.pB y.blocks.length f2.cB])] [(6,[.int .i64 x.regs,.slice f1.pP x.params.length f1.cP,.slice f1.pR x.results.length f1.cR,.slice f1.pB x.blocks.length f1.cB]),(7,[.int .i64 y.regs,.slice f2.pP y.params.length f2.cP,.slice f2.pR y.results.length f2.cR,.slice f2.pB y.blocks.length f2.cB])] (by kernel_rfl) hF19 (by kernel_rfl) (by kernel_rfl) (fun hDB=>?hst) ?hend
   case hst =>
    refine ⟨fun S a1 w1 hS hd hcl hI K hK=>?_,?_⟩
    · have hWd:=hW13.below hI.bel
      have k0:a1.tmps.getD 2 undef=.pointer (some ⟨B2,0,none⟩):=(hI.outer 2 (by kernel_rfl)).trans ho2
      go_simp
      exact hK _ _ (DI.pure hDB hI (i:=0) (t:=23) (by decide) rfl hS (Below.refl _ _) (by kernel_rfl) (by kernel_rfl))
    refine ⟨fun S a1 w1 hS hd hcl hI K hK=>?_,?_⟩
    · have hWd:=hW13.below hI.bel
      have k0:a1.tmps.getD 23 undef=.pointer (some ⟨B2,0,none⟩):=hI.vals (0,23) (by decide) (hd.at 0 (by kernel_rfl)) _ rfl
      have c0:w1.cell? ⟨B2,0,none⟩=some (.slice p m.length c):=cellOf (hWd.get 1 rfl) 0 _ rfl
      go_simp
      exact hK _ _ (DI.pure hDB hI (i:=1) (t:=24) (by decide) rfl hS (Below.refl _ _) (by kernel_rfl) (by kernel_rfl))
    refine ⟨fun S a1 w1 hS hd hcl hI K hK=>?_,?_⟩
    · have hWd:=hW13.below hI.bel
      have k0:a1.tmps.getD 5 undef=.int .i64 (q:Int):=(hI.outer 5 (by kernel_rfl)).trans ho5
      go_simp
      exact hK _ _ (DI.pure hDB hI (i:=2) (t:=25) (by decide) rfl hS (Below.refl _ _) (by kernel_rfl) (by kernel_rfl))
    refine ⟨fun S a1 w1 hS hd hcl hI K hK=>?_,?_⟩
    · have hWd:=hW13.below hI.bel
      have k0:a1.tmps.getD 24 undef=.slice p m.length c:=hI.vals (1,24) (by decide) (hd.at 1 (by kernel_rfl)) _ rfl
      have k1:a1.tmps.getD 25 undef=.int .i64 (q:Int):=hI.vals (2,25) (by decide) (hd.at 2 (by kernel_rfl)) _ rfl
      have hpq:=hp1.out
      have hk0:(0:Int)≤q:=by omega
      have hk1:(q:Int) < (m.length:Int):=by omega
      go_simp
      exact hK _ _ (DI.pure hDB hI (i:=3) (t:=26) (by decide) rfl hS (Below.refl _ _) (by kernel_rfl) (by kernel_rfl))
    refine ⟨fun S a1 w1 hS hd hcl hI K hK=>?_,?_⟩
    · have hWd:=hW13.below hI.bel
      have k0:a1.tmps.getD 26 undef=.pointer (some ⟨g1,o1+q * 4,none⟩):=hI.vals (3,26) (by decide) (hd.at 3 (by kernel_rfl)) _ rfl
      have d0:w1.cell? ⟨g1,o1+q * 4,none⟩=some (.int .i64 x.regs):=bel_cell hWd.bel (E1.out 0 _ rfl)
      have d1:w1.cell? ⟨g1,o1+q * 4+1,none⟩=some (.slice f1.pP x.params.length f1.cP):=bel_cell hWd.bel (E1.out 1 _ rfl)
      have d2:w1.cell? ⟨g1,o1+q * 4+2,none⟩=some (.slice f1.pR x.results.length f1.cR):=bel_cell hWd.bel (E1.out 2 _ rfl)
      have d3:w1.cell? ⟨g1,o1+q * 4+3,none⟩=some (.slice f1.pB x.blocks.length f1.cB):=bel_cell hWd.bel (E1.out 3 _ rfl)
      go_simp
      exact hK _ _ (DI.pure hDB hI (i:=4) (t:=27) (by decide) rfl hS (Below.refl _ _) (by kernel_rfl) (by kernel_rfl))
    refine ⟨fun S a1 w1 hS hd hcl hI K hK=>?_,?_⟩
    · have hWd:=hW13.below hI.bel
      have k0:a1.tmps.getD 3 undef=.pointer (some ⟨B3,0,none⟩):=(hI.outer 3 (by kernel_rfl)).trans ho3
      go_simp
      exact hK _ _ (DI.pure hDB hI (i:=5) (t:=28) (by decide) rfl hS (Below.refl _ _) (by kernel_rfl) (by kernel_rfl))
    refine ⟨fun S a1 w1 hS hd hcl hI K hK=>?_,?_⟩
    · have hWd:=hW13.below hI.bel
      have k0:a1.tmps.getD 28 undef=.pointer (some ⟨B3,0,none⟩):=hI.vals (5,28) (by decide) (hd.at 5 (by kernel_rfl)) _ rfl
      have c0:w1.cell? ⟨B3,0,none⟩=some (.slice p2 k.length d):=cellOf (hWd.get 0 rfl) 0 _ rfl
      go_simp
      exact hK _ _ (DI.pure hDB hI (i:=6) (t:=29) (by decide) rfl hS (Below.refl _ _) (by kernel_rfl) (by kernel_rfl))
    refine ⟨fun S a1 w1 hS hd hcl hI K hK=>?_,?_⟩
    · have hWd:=hW13.below hI.bel
      have k0:a1.tmps.getD 5 undef=.int .i64 (q:Int):=(hI.outer 5 (by kernel_rfl)).trans ho5
      go_simp
      exact hK _ _ (DI.pure hDB hI (i:=7) (t:=30) (by decide) rfl hS (Below.refl _ _) (by kernel_rfl) (by kernel_rfl))
    refine ⟨fun S a1 w1 hS hd hcl hI K hK=>?_,?_⟩
    · have hWd:=hW13.below hI.bel
      have k0:a1.tmps.getD 29 undef=.slice p2 k.length d:=hI.vals (6,29) (by decide) (hd.at 6 (by kernel_rfl)) _ rfl
      have k1:a1.tmps.getD 30 undef=.int .i64 (q:Int):=hI.vals (7,30) (by decide) (hd.at 7 (by kernel_rfl)) _ rfl
      have hpq:=hp2.out
      have hk0:(0:Int)≤q:=by omega
      have hk1:(q:Int) < (k.length:Int):=by omega
      go_simp
      exact hK _ _ (DI.pure hDB hI (i:=8) (t:=31) (by decide) rfl hS (Below.refl _ _) (by kernel_rfl) (by kernel_rfl))
    refine ⟨fun S a1 w1 hS hd hcl hI K hK=>?_,?_⟩
    · have hWd:=hW13.below hI.bel
      have k0:a1.tmps.getD 31 undef=.pointer (some ⟨g2,o2+q * 4,none⟩):=hI.vals (8,31) (by decide) (hd.at 8 (by kernel_rfl)) _ rfl
      have d0:w1.cell? ⟨g2,o2+q * 4,none⟩=some (.int .i64 y.regs):=bel_cell hWd.bel (E2.out 0 _ rfl)
      have d1:w1.cell? ⟨g2,o2+q * 4+1,none⟩=some (.slice f2.pP y.params.length f2.cP):=bel_cell hWd.bel (E2.out 1 _ rfl)
      have d2:w1.cell? ⟨g2,o2+q * 4+2,none⟩=some (.slice f2.pR y.results.length f2.cR):=bel_cell hWd.bel (E2.out 2 _ rfl)
      have d3:w1.cell? ⟨g2,o2+q * 4+3,none⟩=some (.slice f2.pB y.blocks.length f2.cB):=bel_cell hWd.bel (E2.out 3 _ rfl)
      go_simp
      exact hK _ _ (DI.pure hDB hI (i:=9) (t:=32) (by decide) rfl hS (Below.refl _ _) (by kernel_rfl) (by kernel_rfl))
    refine ⟨fun S a1 w1 hS hd hcl hI K hK=>?_,?_⟩
    · go_simp
      exact hK _ _ (DI.alloc hDB hI (i:=10) (t:=6) (s:=4) (ty:=38) (by decide) rfl hS hcl (by kernel_rfl) (by kernel_rfl))
    refine ⟨fun S a1 w1 hS hd hcl hI K hK=>?_,?_⟩
    · go_simp
      exact hK _ _ (DI.alloc hDB hI (i:=11) (t:=7) (s:=4) (ty:=38) (by decide) rfl hS hcl (by kernel_rfl) (by kernel_rfl))
    refine ⟨fun S a1 w1 hS hd hcl hI K hK=>?_,?_⟩
    · have k0:a1.tmps.getD 27 undef=.agg #[.int .i64 x.regs,.slice f1.pP x.params.length f1.cP,.slice f1.pR x.results.length f1.cR,.slice f1.pB x.blocks.length f1.cB]:=hI.vals (4,27) (by decide) (hd.at 4 (by kernel_rfl)) _ rfl
      obtain ⟨B,kB,hlo,c0,hBk,hcs⟩:=hI.box (i:=10) (t:=6) (s:=4) (ty:=38) (by decide) (hd.at 10 (by kernel_rfl))
      exact wp_fill hBk kB k0 infFunc rfl hcs.symm (hK _ _ (DI.store hDB hI (i:=12) (t:=6) (s:=4) (ty:=38) (j:=10) (by decide) (by decide) (hd.at 10 (by kernel_rfl)) kB hBk hcs hlo rfl rfl hS hcl (by kernel_rfl) (by kernel_rfl)))
    refine ⟨fun S a1 w1 hS hd hcl hI K hK=>?_,?_⟩
    · have k0:a1.tmps.getD 32 undef=.agg #[.int .i64 y.regs,.slice f2.pP y.params.length f2.cP,.slice f2.pR y.results.length f2.cR,.slice f2.pB y.blocks.length f2.cB]:=hI.vals (9,32) (by decide) (hd.at 9 (by kernel_rfl)) _ rfl
      obtain ⟨B,kB,hlo,c0,hBk,hcs⟩:=hI.box (i:=11) (t:=7) (s:=4) (ty:=38) (by decide) (hd.at 11 (by kernel_rfl))
      exact wp_fill hBk kB k0 infFunc rfl hcs.symm (hK _ _ (DI.store hDB hI (i:=13) (t:=7) (s:=4) (ty:=38) (j:=11) (by decide) (by decide) (hd.at 11 (by kernel_rfl)) kB hBk hcs hlo rfl rfl hS hcl (by kernel_rfl) (by kernel_rfl)))
    trivial
   case hend =>
    intro S a20 w20 hS hD hFD
    obtain ⟨BD6,hd6,hBl6,hBk6⟩:=hD.full (j:=10) (i:=12) (t:=6) (s:=4) (ty:=38) (by decide) (hS _ (by decide)) (by decide) (hS _ (by decide)) rfl
    obtain ⟨BD7,hd7,hBl7,hBk7⟩:=hD.full (j:=11) (i:=13) (t:=7) (s:=4) (ty:=38) (by decide) (hS _ (by decide)) (by decide) (hS _ (by decide)) rfl
    have hF20:Fr 82 a20 [(7,.pointer (some ⟨BD7,0,none⟩)),(6,.pointer (some ⟨BD6,0,none⟩)),(1,.agg #[.slice p2 k.length d]),(0,.agg #[.slice p m.length c]),(2,.pointer (some ⟨B2,0,none⟩)),(3,.pointer (some ⟨B3,0,none⟩)),(4,.bool false),(5,.int .i64 (q:Int))]:=((hFD.cons hd6).cons hd7)
    have hnB:BD6≠BD7:=fun e=>hD.ne (10,6,4,38) (by decide) (11,7,4,38) (by decide) (by decide) (hS _ (by decide)) (hS _ (by decide)) (by rw [hd6,hd7,e])
    have hW20:Wd w w20 [(BD6,#[.int .i64 x.regs,.slice f1.pP x.params.length f1.cP,.slice f1.pR x.results.length f1.cR,.slice f1.pB x.blocks.length f1.cB],38),(BD7,#[.int .i64 y.regs,.slice f2.pP y.params.length f2.cP,.slice f2.pR y.results.length f2.cR,.slice f2.pB y.blocks.length f2.cB],38),(B3,#[.slice p2 k.length d],25),(B2,#[.slice p m.length c],25)]:=Wd.add2 (hW13.below hD.bel) hW13 hBk6 hBk7 hnB hBl6 hBl7
    clear hS hD hFD hnB hW13 hd6 hd7
    clear hBl6 hBk6 hBl7 hBk7
    refine hK18 _ _ ?_
    refine wp_seq_k fun K21 hK21=>?_
    refine wp_seq_k fun K22 hK22=>?_
    refine fr_region ?_
    intro ops hops
    have hg5:(ops[5]?).bind (fun o:Oper=>o.dst)=some 38:=hops 5
    have hg13:(ops[13]?).bind (fun o:Oper=>o.dst)=some 46:=hops 13
    have hg21:(ops[21]?).bind (fun o:Oper=>o.dst)=some 54:=hops 21
    clear hops
    refine St.go hF20 ?_;clear hF20 a20
    refine sfFunc0 trivial rfl rfl ?_
    refine sbInt 0 hW20 trivial rfl rfl rfl rfl ?_
    refine sfFunc0 trivial rfl rfl ?_
    refine sbInt 1 hW20 trivial rfl rfl rfl rfl ?_
    refine sne trivial rfl rfl rfl ?_
    refine sm trivial rfl rfl ?_
    intro a23 h23
    rcases Bool.eq_false_or_eq_true (x.regs != y.regs) with hb | hb
    ·rw [hb] at h23
     have h9:¬ x.regs=y.regs:=bne_iff_ne.1 hb
     have hc24:¬ x.regs=y.regs:=h9
     clear h9
     clear hb
     refine St.go h23 ?_;clear h23 a23
     refine so hg5 rfl rfl rfl rfl ?_
     refine so hg5 rfl rfl rfl rfl ?_
     refine so hg5 rfl rfl rfl rfl ?_
     refine so hg5 rfl rfl rfl rfl ?_
     refine so hg5 rfl rfl rfl rfl ?_
     refine so hg5 rfl rfl rfl rfl ?_
     refine sp trivial rfl rfl rfl ?_
     refine sm trivial rfl rfl ?_
     refine so hg13 rfl rfl rfl rfl ?_
     refine so hg13 rfl rfl rfl rfl ?_
     refine so hg13 rfl rfl rfl rfl ?_
     refine so hg13 rfl rfl rfl rfl ?_
     refine so hg13 rfl rfl rfl rfl ?_
     refine so hg13 rfl rfl rfl rfl ?_
     refine sp trivial rfl rfl rfl ?_
     refine sm trivial rfl rfl ?_
     refine so hg21 rfl rfl rfl rfl ?_
     refine so hg21 rfl rfl rfl rfl ?_
     refine so hg21 rfl rfl rfl rfl ?_
     refine so hg21 rfl rfl rfl rfl ?_
     refine so hg21 rfl rfl rfl rfl ?_
     refine so hg21 rfl rfl rfl rfl ?_
     refine so hg21 rfl rfl rfl rfl ?_
     refine sp trivial rfl rfl rfl ?_
     refine St.nil fun a25 h25=>?_
     refine hK22 _ _ ?_
     refine fr_true (t:=62) h25 rfl ?_
     refine wp_seq_k fun K26 hK26=>?_
     refine rg h25 fun ops=>?_;clear h25 a25
     refine sa trivial rfl rfl ?_
     refine St.nil fun a27 h27=>?_
     refine hK26 _ _ ?_
     refine wp_ret ?_;with_reducible repeat first | refine of_then_ret ?_ | refine of_block_ret ?_
     have RX:¬ x=y:=by
       intro e
       first
         | exact hlb (by rw [e])
         | exact hc24 (by rw [e])
     have R:¬ m=k:=by
       intro e
       have h1:=hx1.out
       rw [e,hx2.out] at h1
       exact RX (Option.some.inj h1).symm
     exact ret_tmp (t:=4) h27 rfl rfl ⟨by rw [bdec_false R],hW20.bel⟩
    rw [hb] at h23
    have h9:x.regs=y.regs:=bne_eq_false_iff_eq.1 hb
    have hc28:Hid (x.regs=y.regs):=h9
    clear h9
    clear hb
    refine St.go h23 ?_;clear h23 a23
    refine sfFunc1 ⟨_,hg5,rfl,rfl⟩ rfl rfl ?_
    refine sbTypes 0 hW20 ⟨_,hg5,rfl,rfl⟩ rfl rfl rfl rfl ?_
    refine sfFunc1 ⟨_,hg5,rfl,rfl⟩ rfl rfl ?_
    refine sbTypes 1 hW20 ⟨_,hg5,rfl,rfl⟩ rfl rfl rfl rfl ?_
    refine sc_2 cf25 hW20 (sameTypes_any (Lay.below In1.out.params hW20.bel) (Lay.below In2.out.params hW20.bel) hs1.out.2.1) ⟨_,hg5,rfl,rfl⟩ rfl rfl rfl ?_
    clear hW20;intro w29 hW29
    refine sn ⟨_,hg5,rfl,rfl⟩ rfl rfl ?_
    refine spf trivial rfl rfl rfl ?_
    refine sm trivial rfl rfl ?_
    intro a30 h30
    rcases Bool.eq_false_or_eq_true (!(bdec (x.params=y.params))) with hb | hb
    ·rw [hb] at h30
     have hb:(bdec (x.params=y.params))=false:=by simpa using hb
     have hc31:¬ (x.params=y.params):=fun h=>by rw [bdec_true h] at hb;cases hb
     clear hb
     refine St.go h30 ?_;clear h30 a30
     refine so hg13 rfl rfl rfl rfl ?_
     refine so hg13 rfl rfl rfl rfl ?_
     refine so hg13 rfl rfl rfl rfl ?_
     refine so hg13 rfl rfl rfl rfl ?_
     refine so hg13 rfl rfl rfl rfl ?_
     refine so hg13 rfl rfl rfl rfl ?_
     refine sp trivial rfl rfl rfl ?_
     refine sm trivial rfl rfl ?_
     refine so hg21 rfl rfl rfl rfl ?_
     refine so hg21 rfl rfl rfl rfl ?_
     refine so hg21 rfl rfl rfl rfl ?_
     refine so hg21 rfl rfl rfl rfl ?_
     refine so hg21 rfl rfl rfl rfl ?_
     refine so hg21 rfl rfl rfl rfl ?_
     refine so hg21 rfl rfl rfl rfl ?_
     refine sp trivial rfl rfl rfl ?_
     refine St.nil fun a32 h32=>?_
     refine hK22 _ _ ?_
     refine fr_true (t:=62) h32 rfl ?_
     refine wp_seq_k fun K33 hK33=>?_
     refine rg h32 fun ops=>?_;clear h32 a32
     refine sa trivial rfl rfl ?_
     refine St.nil fun a34 h34=>?_
     refine hK33 _ _ ?_
     refine wp_ret ?_;with_reducible repeat first | refine of_then_ret ?_ | refine of_block_ret ?_
     have RX:¬ x=y:=by
       intro e
       first
         | exact hlb (by rw [e])
         | exact hc31 (by rw [e])
         | exact hc28 (by rw [e])
     have R:¬ m=k:=by
       intro e
       have h1:=hx1.out
       rw [e,hx2.out] at h1
       exact RX (Option.some.inj h1).symm
     exact ret_tmp (t:=4) h34 rfl rfl ⟨by rw [bdec_false R],hW29.bel⟩
    rw [hb] at h30
    have hb:(bdec (x.params=y.params))=true:=by simpa using hb
    have hc35:(x.params=y.params):=bdec_iff.1 hb
    clear hb
    refine St.go h30 ?_;clear h30 a30
    refine sfFunc2 ⟨_,hg13,rfl,rfl⟩ rfl rfl ?_
    refine sbTypes 0 hW29 ⟨_,hg13,rfl,rfl⟩ rfl rfl rfl rfl ?_
    refine sfFunc2 ⟨_,hg13,rfl,rfl⟩ rfl rfl ?_
    refine sbTypes 1 hW29 ⟨_,hg13,rfl,rfl⟩ rfl rfl rfl rfl ?_
    refine sc_2 cf25 hW29 (sameTypes_any (Lay.below In1.out.results hW29.bel) (Lay.below In2.out.results hW29.bel) hs1.out.2.2.1) ⟨_,hg13,rfl,rfl⟩ rfl rfl rfl ?_
    clear hW29;intro w36 hW36
    refine sn ⟨_,hg13,rfl,rfl⟩ rfl rfl ?_
    refine spf trivial rfl rfl rfl ?_
    refine sm trivial rfl rfl ?_
    intro a37 h37
    rcases Bool.eq_false_or_eq_true (!(bdec (x.results=y.results))) with hb | hb
    ·rw [hb] at h37
     have hb:(bdec (x.results=y.results))=false:=by simpa using hb
     have hc38:¬ (x.results=y.results):=fun h=>by rw [bdec_true h] at hb;cases hb
     clear hb
     refine St.go h37 ?_;clear h37 a37
     refine so hg21 rfl rfl rfl rfl ?_
     refine so hg21 rfl rfl rfl rfl ?_
     refine so hg21 rfl rfl rfl rfl ?_
     refine so hg21 rfl rfl rfl rfl ?_
     refine so hg21 rfl rfl rfl rfl ?_
     refine so hg21 rfl rfl rfl rfl ?_
     refine so hg21 rfl rfl rfl rfl ?_
     refine sp trivial rfl rfl rfl ?_
     refine St.nil fun a39 h39=>?_
     refine hK22 _ _ ?_
     refine fr_true (t:=62) h39 rfl ?_
     refine wp_seq_k fun K40 hK40=>?_
     refine rg h39 fun ops=>?_;clear h39 a39
     refine sa trivial rfl rfl ?_
     refine St.nil fun a41 h41=>?_
     refine hK40 _ _ ?_
     refine wp_ret ?_;with_reducible repeat first | refine of_then_ret ?_ | refine of_block_ret ?_
     have RX:¬ x=y:=by
       intro e
       first
         | exact hlb (by rw [e])
         | exact hc38 (by rw [e])
         | exact hc35 (by rw [e])
         | exact hc28 (by rw [e])
     have R:¬ m=k:=by
       intro e
       have h1:=hx1.out
       rw [e,hx2.out] at h1
       exact RX (Option.some.inj h1).symm
     exact ret_tmp (t:=4) h41 rfl rfl ⟨by rw [bdec_false R],hW36.bel⟩
    rw [hb] at h37
    have hb:(bdec (x.results=y.results))=true:=by simpa using hb
    have hc42:(x.results=y.results):=bdec_iff.1 hb
    clear hb
    refine St.go h37 ?_;clear h37 a37
    refine sfFunc3 ⟨_,hg21,rfl,rfl⟩ rfl rfl ?_
    refine sbBlocks 0 hW36 ⟨_,hg21,rfl,rfl⟩ rfl rfl rfl rfl ?_
    refine slBlocks ⟨_,hg21,rfl,rfl⟩ rfl rfl ?_
    refine sfFunc3 ⟨_,hg21,rfl,rfl⟩ rfl rfl ?_
    refine sbBlocks 1 hW36 ⟨_,hg21,rfl,rfl⟩ rfl rfl rfl rfl ?_
    refine slBlocks ⟨_,hg21,rfl,rfl⟩ rfl rfl ?_
    refine sne ⟨_,hg21,rfl,rfl⟩ rfl rfl rfl ?_
    refine spf trivial rfl rfl rfl ?_
    refine St.nil fun a43 h43=>?_
    refine hK22 _ _ ?_
    refine fr_cond (t:=62) h43 rfl (fun hb=>?_) (fun hb=>?_)
    ·have h9:¬ x.blocks.length=y.blocks.length:=by have h8:=bne_iff_ne.1 hb;omega
     have hlb:¬ x.blocks.length=y.blocks.length:=h9
     clear h9
     clear hb
     refine wp_seq_k fun K44 hK44=>?_
     refine rg h43 fun ops=>?_;clear h43 a43
     refine sa trivial rfl rfl ?_
     refine St.nil fun a45 h45=>?_
     refine hK44 _ _ ?_
     refine wp_ret ?_;with_reducible repeat first | refine of_then_ret ?_ | refine of_block_ret ?_
     have RX:¬ x=y:=by
       intro e
       first
         | exact hlb (by rw [e])
         | exact hc42 (by rw [e])
         | exact hc35 (by rw [e])
         | exact hc28 (by rw [e])
     have R:¬ m=k:=by
       intro e
       have h1:=hx1.out
       rw [e,hx2.out] at h1
       exact RX (Option.some.inj h1).symm
     exact ret_tmp (t:=4) h45 rfl rfl ⟨by rw [bdec_false R],hW36.bel⟩
    have h9:x.blocks.length=y.blocks.length:=by have h8:=bne_eq_false_iff_eq.1 hb;omega
    have hlb:Hid (x.blocks.length=y.blocks.length):=h9
    clear h9
    clear hb
    refine wp_skip ?_
    refine hK21 _ _ ?_
    refine wp_seq_k fun K46 hK46=>?_
    refine rg h43 fun ops=>?_;clear h43 a43
    refine sa trivial rfl rfl ?_
    refine St.nil fun a47 h47=>?_
    refine hK46 _ _ ?_
    refine wp_block ?_
    refine fr_loop (fun r a w'=>∃ qb:Nat,qb≤x.blocks.length∧r=x.blocks.length - qb∧(∀ j,j < qb→x.blocks[j]?=y.blocks[j]?)∧Fr 82 a [(1,.agg #[.slice p2 k.length d]),(0,.agg #[.slice p m.length c]),(2,.pointer (some ⟨B2,0,none⟩)),(3,.pointer (some ⟨B3,0,none⟩)),(4,.bool false),(5,.int .i64 (q:Int)),(6,.pointer (some ⟨BD6,0,none⟩)),(7,.pointer (some ⟨BD7,0,none⟩)),(8,.int .i64 (qb:Int))]∧Wd w w' [(BD6,#[.int .i64 x.regs,.slice f1.pP x.params.length f1.cP,.slice f1.pR x.results.length f1.cR,.slice f1.pB x.blocks.length f1.cB],38),(BD7,#[.int .i64 y.regs,.slice f2.pP y.params.length f2.cP,.slice f2.pR y.results.length f2.cR,.slice f2.pB y.blocks.length f2.cB],38),(B3,#[.slice p2 k.length d],25),(B2,#[.slice p m.length c],25)]) (x.blocks.length) ⟨0,Nat.zero_le _,rfl,(fun j hj=>by omega),(h47.keep (h47.keep (h47.keep (h47.keep (h47.keep (h47.keep (h47.keep (h47.keep (h47.keep h47.nil (t:=8) rfl) (t:=7) rfl) (t:=6) rfl) (t:=5) rfl) (t:=4) rfl) (t:=3) rfl) (t:=2) rfl) (t:=0) rfl) (t:=1) rfl),hW36⟩ ?_
    clear h47 hW36
    rintro rb a48 w48 ⟨qb,hqb,hrb,hal2,hF48,hW48⟩ KLb hKLb
    refine wp_seq_k fun K49 hK49=>?_
    refine wp_seq_k fun K50 hK50=>?_
    refine rg hF48 fun ops=>?_;clear hF48 a48
    refine sm trivial rfl rfl ?_
    refine sfFunc3 trivial rfl rfl ?_
    refine sbBlocks 0 hW48 trivial rfl rfl rfl rfl ?_
    refine slBlocks trivial rfl rfl ?_
    refine slt trivial rfl rfl rfl ?_
    refine St.nil fun a51 h51=>?_
    refine hK50 _ _ ?_
    refine fr_cond (t:=67) h51 rfl (fun hb=>?_) (fun hb=>?_)
    ·have hlt3:qb < x.blocks.length:=by have:=of_decide_eq_true hb;omega
     have hlt4:qb < y.blocks.length:=by have:=hlb.out;omega
     clear hb
     obtain ⟨z,hx3⟩:∃ v9,(x.blocks)[qb]?=some v9:=⟨_,List.getElem?_eq_getElem hlt3⟩
     obtain ⟨g3,o3,b3,hp3,E3,In3⟩:=block_at In1.out.blocks hx3
     replace In3:Hid _:=In3
     replace hp3:Hid _:=hp3
     replace hx3:Hid _:=hx3
     replace E3:Hid _:=E3
     obtain ⟨u,hx4⟩:∃ v9,(y.blocks)[qb]?=some v9:=⟨_,List.getElem?_eq_getElem hlt4⟩
     obtain ⟨g4,o4,b4,hp4,E4,In4⟩:=block_at In2.out.blocks hx4
     replace In4:Hid _:=In4
     replace hp4:Hid _:=hp4
     replace hx4:Hid _:=hx4
     replace E4:Hid _:=E4
     refine wp_skip ?_
     refine hK49 _ _ ?_
     refine wp_seq_k fun K52 hK52=>?_
     refine wp_block ?_
     refine wp_seq_k fun K53 hK53=>?_
     have hF54:Fr 82 a51 [(1,.agg #[.slice p2 k.length d]),(0,.agg #[.slice p m.length c]),(2,.pointer (some ⟨B2,0,none⟩)),(3,.pointer (some ⟨B3,0,none⟩)),(4,.bool false),(5,.int .i64 (q:Int)),(6,.pointer (some ⟨BD6,0,none⟩)),(7,.pointer (some ⟨BD7,0,none⟩)),(8,.int .i64 (qb:Int))]:=(h51.keep (h51.keep (h51.keep (h51.keep (h51.keep (h51.keep (h51.keep (h51.keep (h51.keep h51.nil (t:=8) rfl) (t:=7) rfl) (t:=6) rfl) (t:=5) rfl) (t:=4) rfl) (t:=3) rfl) (t:=2) rfl) (t:=0) rfl) (t:=1) rfl)
     have ho6:a51.tmps.getD 6 undef=.pointer (some ⟨BD6,0,none⟩):=h51.sl 6 _ rfl
     have ho8:a51.tmps.getD 8 undef=.int .i64 (qb:Int):=h51.sl 8 _ rfl
     have ho7:a51.tmps.getD 7 undef=.pointer (some ⟨BD7,0,none⟩):=h51.sl 7 _ rfl
     refine fr_draw_k 12 ([(6,fun v _=>v=.pointer (some ⟨BD6,0,none⟩)),(8,fun v _=>v=.int .i64 (qb:Int)),(7,fun v _=>v=.pointer (some ⟨BD7,0,none⟩)),(70,fun v _=>v=.pointer (some ⟨BD6,3,none⟩)),(71,fun v _=>v=.slice f1.pB x.blocks.length f1.cB),(72,fun v _=>v=.int .i64 (qb:Int)),(73,fun v _=>v=.pointer (some ⟨g3,o3+qb * 12,none⟩)),(74,fun v _=>v=.agg #[.int .i64 z.regs,.slice b3.pP z.params.length b3.cP,.slice b3.pC z.code.length b3.cC,.int .i64 z.fin.op,.int .i64 z.fin.a,.int .i64 z.fin.yes.block,.slice b3.e.pYR z.fin.yes.regs.length b3.e.cYR,.slice b3.e.pYA z.fin.yes.args.length b3.e.cYA,.int .i64 z.fin.no.block,.slice b3.e.pNR z.fin.no.regs.length b3.e.cNR,.slice b3.e.pNA z.fin.no.args.length b3.e.cNA,.slice b3.e.pA z.fin.args.length b3.e.cA]),(75,fun v _=>v=.pointer (some ⟨BD7,3,none⟩)),(76,fun v _=>v=.slice f2.pB y.blocks.length f2.cB),(77,fun v _=>v=.int .i64 (qb:Int)),(78,fun v _=>v=.pointer (some ⟨g4,o4+qb * 12,none⟩)),(79,fun v _=>v=.agg #[.int .i64 u.regs,.slice b4.pP u.params.length b4.cP,.slice b4.pC u.code.length b4.cC,.int .i64 u.fin.op,.int .i64 u.fin.a,.int .i64 u.fin.yes.block,.slice b4.e.pYR u.fin.yes.regs.length b4.e.cYR,.slice b4.e.pYA u.fin.yes.args.length b4.e.cYA,.int .i64 u.fin.no.block,.slice b4.e.pNR u.fin.no.regs.length b4.e.cNR,.slice b4.e.pNA u.fin.no.args.length b4.e.cNA,.slice b4.e.pA u.fin.args.length b4.e.cA]),(80,fun v _=>v=.bool (bdec (z=u))),(81,fun v _=>v=.bool (!(bdec (z=u))))]:PTab) (fun w'=>Wd w w' [(BD6,#[.int .i64 x.regs,.slice f1.pP x.params.length f1.cP,.slice f1.pR x.results.length f1.cR,.slice f1.pB x.blocks.length f1.cB],38),(BD7,#[.int .i64 y.regs,.slice f2.pP y.params.length f2.cP,.slice f2.pR y.results.length f2.cR,.slice f2.pB y.blocks.length f2.cB],38),(B3,#[.slice p2 k.length d],25),(B2,#[.slice p m.length c],25)]∧Below w48.heap.size w48 w') (fun w w'=>Below w.heap.size w w') (outs:=[6,8,7]) (gs:=[]) (bs:=[true,true,true,true,true,true,true,true,true,true,true,true]) (by kernel_rfl) hF54 rfl (by kernel_rfl) (by kernel_rfl) ?hR ?hG ⟨hW48.drewN 1,drewN_below (m:=1) (Below.refl _ _)⟩ ⟨ho6,ho8,ho7,trivial⟩ ?hA ?hend
     case hR=>exact ⟨fun _ _ _ _ h=>h,fun _ _ _ _ h=>h,fun _ _ _ _ h=>h,fun _ _ _ _ h=>h,fun _ _ _ _ h=>h,fun _ _ _ _ h=>h,fun _ _ _ _ h=>h,fun _ _ _ _ h=>h,fun _ _ _ _ h=>h,fun _ _ _ _ h=>h,fun _ _ _ _ h=>h,fun _ _ _ _ h=>h,fun _ _ _ _ h=>h,fun _ _ _ _ h=>h,fun _ _ _ _ h=>h,trivial⟩
     case hG=>exact trivial
     case hA =>
      refine ⟨fun a w hW hk K hK=>?_,?_⟩
      · obtain ⟨k0,-⟩:=hk
        have k0:a.tmps.getD 6 undef=.pointer (some ⟨BD6,0,none⟩):=k0
        go_simp
        exact hK _ _ (Below.refl _ _) hW rfl
      refine ⟨fun a w hW hk K hK=>?_,?_⟩
      · obtain ⟨k0,-⟩:=hk
        have k0:a.tmps.getD 70 undef=.pointer (some ⟨BD6,3,none⟩):=k0
        have c3:w.cell? ⟨BD6,3,none⟩=some (.slice f1.pB x.blocks.length f1.cB):=cellOf (hW.1.get 0 rfl) 3 _ rfl
        go_simp
        exact hK _ _ (Below.refl _ _) hW rfl
      refine ⟨fun a w hW hk K hK=>?_,?_⟩
      · obtain ⟨k0,-⟩:=hk
        have k0:a.tmps.getD 8 undef=.int .i64 (qb:Int):=k0
        go_simp
        exact hK _ _ (Below.refl _ _) hW rfl
      refine ⟨fun a w hW hk K hK=>?_,?_⟩
      · obtain ⟨k0,k1,-⟩:=hk
        have k0:a.tmps.getD 71 undef=.slice f1.pB x.blocks.length f1.cB:=k0
        have k1:a.tmps.getD 72 undef=.int .i64 (qb:Int):=k1
        have hpq:=hp3.out
        have hk0:(0:Int)≤qb:=by omega
        have hk1:(qb:Int) < (x.blocks.length:Int):=by omega
        go_simp
        exact hK _ _ (Below.refl _ _) hW rfl
      refine ⟨fun a w hW hk K hK=>?_,?_⟩
      · obtain ⟨k0,-⟩:=hk
        have k0:a.tmps.getD 73 undef=.pointer (some ⟨g3,o3+qb * 12,none⟩):=k0
        have d0:w.cell? ⟨g3,o3+qb * 12,none⟩=some (.int .i64 z.regs):=bel_cell hW.1.bel (E3.out 0 _ rfl)
        have d1:w.cell? ⟨g3,o3+qb * 12+1,none⟩=some (.slice b3.pP z.params.length b3.cP):=bel_cell hW.1.bel (E3.out 1 _ rfl)
        have d2:w.cell? ⟨g3,o3+qb * 12+2,none⟩=some (.slice b3.pC z.code.length b3.cC):=bel_cell hW.1.bel (E3.out 2 _ rfl)
        have d3:w.cell? ⟨g3,o3+qb * 12+3,none⟩=some (.int .i64 z.fin.op):=bel_cell hW.1.bel (E3.out 3 _ rfl)
        have d4:w.cell? ⟨g3,o3+qb * 12+4,none⟩=some (.int .i64 z.fin.a):=bel_cell hW.1.bel (E3.out 4 _ rfl)
        have d5:w.cell? ⟨g3,o3+qb * 12+5,none⟩=some (.int .i64 z.fin.yes.block):=bel_cell hW.1.bel (E3.out 5 _ rfl)
        have d6:w.cell? ⟨g3,o3+qb * 12+6,none⟩=some (.slice b3.e.pYR z.fin.yes.regs.length b3.e.cYR):=bel_cell hW.1.bel (E3.out 6 _ rfl)
        have d7:w.cell? ⟨g3,o3+qb * 12+7,none⟩=some (.slice b3.e.pYA z.fin.yes.args.length b3.e.cYA):=bel_cell hW.1.bel (E3.out 7 _ rfl)
        have d8:w.cell? ⟨g3,o3+qb * 12+8,none⟩=some (.int .i64 z.fin.no.block):=bel_cell hW.1.bel (E3.out 8 _ rfl)
        have d9:w.cell? ⟨g3,o3+qb * 12+9,none⟩=some (.slice b3.e.pNR z.fin.no.regs.length b3.e.cNR):=bel_cell hW.1.bel (E3.out 9 _ rfl)
        have d10:w.cell? ⟨g3,o3+qb * 12+10,none⟩=some (.slice b3.e.pNA z.fin.no.args.length b3.e.cNA):=bel_cell hW.1.bel (E3.out 10 _ rfl)
        have d11:w.cell? ⟨g3,o3+qb * 12+11,none⟩=some (.slice b3.e.pA z.fin.args.length b3.e.cA):=bel_cell hW.1.bel (E3.out 11 _ rfl)
        go_simp
        exact hK _ _ (Below.refl _ _) hW rfl
      refine ⟨fun a w hW hk K hK=>?_,?_⟩
      · obtain ⟨k0,-⟩:=hk
        have k0:a.tmps.getD 7 undef=.pointer (some ⟨BD7,0,none⟩):=k0
        go_simp
        exact hK _ _ (Below.refl _ _) hW rfl
      refine ⟨fun a w hW hk K hK=>?_,?_⟩
      · obtain ⟨k0,-⟩:=hk
        have k0:a.tmps.getD 75 undef=.pointer (some ⟨BD7,3,none⟩):=k0
        have c3:w.cell? ⟨BD7,3,none⟩=some (.slice f2.pB y.blocks.length f2.cB):=cellOf (hW.1.get 1 rfl) 3 _ rfl
        go_simp
        exact hK _ _ (Below.refl _ _) hW rfl
      refine ⟨fun a w hW hk K hK=>?_,?_⟩
      · obtain ⟨k0,-⟩:=hk
        have k0:a.tmps.getD 8 undef=.int .i64 (qb:Int):=k0
        go_simp
        exact hK _ _ (Below.refl _ _) hW rfl
      refine ⟨fun a w hW hk K hK=>?_,?_⟩
      · obtain ⟨k0,k1,-⟩:=hk
        have k0:a.tmps.getD 76 undef=.slice f2.pB y.blocks.length f2.cB:=k0
        have k1:a.tmps.getD 77 undef=.int .i64 (qb:Int):=k1
        have hpq:=hp4.out
        have hk0:(0:Int)≤qb:=by omega
        have hk1:(qb:Int) < (y.blocks.length:Int):=by omega
        go_simp
        exact hK _ _ (Below.refl _ _) hW rfl
      refine ⟨fun a w hW hk K hK=>?_,?_⟩
      · obtain ⟨k0,-⟩:=hk
        have k0:a.tmps.getD 78 undef=.pointer (some ⟨g4,o4+qb * 12,none⟩):=k0
        have d0:w.cell? ⟨g4,o4+qb * 12,none⟩=some (.int .i64 u.regs):=bel_cell hW.1.bel (E4.out 0 _ rfl)
        have d1:w.cell? ⟨g4,o4+qb * 12+1,none⟩=some (.slice b4.pP u.params.length b4.cP):=bel_cell hW.1.bel (E4.out 1 _ rfl)
        have d2:w.cell? ⟨g4,o4+qb * 12+2,none⟩=some (.slice b4.pC u.code.length b4.cC):=bel_cell hW.1.bel (E4.out 2 _ rfl)
        have d3:w.cell? ⟨g4,o4+qb * 12+3,none⟩=some (.int .i64 u.fin.op):=bel_cell hW.1.bel (E4.out 3 _ rfl)
        have d4:w.cell? ⟨g4,o4+qb * 12+4,none⟩=some (.int .i64 u.fin.a):=bel_cell hW.1.bel (E4.out 4 _ rfl)
        have d5:w.cell? ⟨g4,o4+qb * 12+5,none⟩=some (.int .i64 u.fin.yes.block):=bel_cell hW.1.bel (E4.out 5 _ rfl)
        have d6:w.cell? ⟨g4,o4+qb * 12+6,none⟩=some (.slice b4.e.pYR u.fin.yes.regs.length b4.e.cYR):=bel_cell hW.1.bel (E4.out 6 _ rfl)
        have d7:w.cell? ⟨g4,o4+qb * 12+7,none⟩=some (.slice b4.e.pYA u.fin.yes.args.length b4.e.cYA):=bel_cell hW.1.bel (E4.out 7 _ rfl)
        have d8:w.cell? ⟨g4,o4+qb * 12+8,none⟩=some (.int .i64 u.fin.no.block):=bel_cell hW.1.bel (E4.out 8 _ rfl)
        have d9:w.cell? ⟨g4,o4+qb * 12+9,none⟩=some (.slice b4.e.pNR u.fin.no.regs.length b4.e.cNR):=bel_cell hW.1.bel (E4.out 9 _ rfl)
        have d10:w.cell? ⟨g4,o4+qb * 12+10,none⟩=some (.slice b4.e.pNA u.fin.no.args.length b4.e.cNA):=bel_cell hW.1.bel (E4.out 10 _ rfl)
        have d11:w.cell? ⟨g4,o4+qb * 12+11,none⟩=some (.slice b4.e.pA u.fin.args.length b4.e.cA):=bel_cell hW.1.bel (E4.out 11 _ rfl)
        go_simp
        exact hK _ _ (Below.refl _ _) hW rfl
      refine ⟨fun a w hW hk K hK=>?_,?_⟩
      · obtain ⟨k0,k1,-⟩:=hk
        have k0:a.tmps.getD 74 undef=.agg #[.int .i64 z.regs,.slice b3.pP z.params.length b3.cP,.slice b3.pC z.code.length b3.cC,.int .i64 z.fin.op,.int .i64 z.fin.a,.int .i64 z.fin.yes.block,.slice b3.e.pYR z.fin.yes.regs.length b3.e.cYR,.slice b3.e.pYA z.fin.yes.args.length b3.e.cYA,.int .i64 z.fin.no.block,.slice b3.e.pNR z.fin.no.regs.length b3.e.cNR,.slice b3.e.pNA z.fin.no.args.length b3.e.cNA,.slice b3.e.pA z.fin.args.length b3.e.cA]:=k0
        have k1:a.tmps.getD 79 undef=.agg #[.int .i64 u.regs,.slice b4.pP u.params.length b4.cP,.slice b4.pC u.code.length b4.cC,.int .i64 u.fin.op,.int .i64 u.fin.a,.int .i64 u.fin.yes.block,.slice b4.e.pYR u.fin.yes.regs.length b4.e.cYR,.slice b4.e.pYA u.fin.yes.args.length b4.e.cYA,.int .i64 u.fin.no.block,.slice b4.e.pNR u.fin.no.regs.length b4.e.cNR,.slice b4.e.pNA u.fin.no.args.length b4.e.cNA,.slice b4.e.pA u.fin.args.length b4.e.cA]:=k1
        have hC:Rd Tryz.prog 26 #[.agg #[.int .i64 z.regs,.slice b3.pP z.params.length b3.cP,.slice b3.pC z.code.length b3.cC,.int .i64 z.fin.op,.int .i64 z.fin.a,.int .i64 z.fin.yes.block,.slice b3.e.pYR z.fin.yes.regs.length b3.e.cYR,.slice b3.e.pYA z.fin.yes.args.length b3.e.cYA,.int .i64 z.fin.no.block,.slice b3.e.pNR z.fin.no.regs.length b3.e.cNR,.slice b3.e.pNA z.fin.no.args.length b3.e.cNA,.slice b3.e.pA z.fin.args.length b3.e.cA],.agg #[.int .i64 u.regs,.slice b4.pP u.params.length b4.cP,.slice b4.pC u.code.length b4.cC,.int .i64 u.fin.op,.int .i64 u.fin.a,.int .i64 u.fin.yes.block,.slice b4.e.pYR u.fin.yes.regs.length b4.e.cYR,.slice b4.e.pYA u.fin.yes.args.length b4.e.cYA,.int .i64 u.fin.no.block,.slice b4.e.pNR u.fin.no.regs.length b4.e.cNR,.slice b4.e.pNA u.fin.no.args.length b4.e.cNA,.slice b4.e.pA u.fin.args.length b4.e.cA]] w (.bool (bdec (z=u))):=sameBlock_any (In3.out.below hW.1.bel) (In4.out.below hW.1.bel) (hs1.out.2.2.2 z (List.mem_of_getElem? hx3.out))
        go_simp
        refine hC.mono ?_
        rintro e w9 ⟨rfl,hb⟩
        exact hK _ _ hb ⟨hW.1.below hb,Below.andThen hW.2 hb⟩ rfl
      refine ⟨fun a w hW hk K hK=>?_,?_⟩
      · obtain ⟨k0,-⟩:=hk
        have k0:a.tmps.getD 80 undef=.bool (bdec (z=u)):=k0
        go_simp
        exact hK _ _ (Below.refl _ _) hW rfl
      trivial
     case hend =>
      intro ops a55 w55 hWD hE hFD
      have hd81:a55.tmps.getD 81 undef=.bool (!(bdec (z=u))):=hE 81 rfl
      have hF55:Fr 82 a55 [(81,.bool (!(bdec (z=u)))),(1,.agg #[.slice p2 k.length d]),(0,.agg #[.slice p m.length c]),(2,.pointer (some ⟨B2,0,none⟩)),(3,.pointer (some ⟨B3,0,none⟩)),(4,.bool false),(5,.int .i64 (q:Int)),(6,.pointer (some ⟨BD6,0,none⟩)),(7,.pointer (some ⟨BD7,0,none⟩)),(8,.int .i64 (qb:Int))]:=(hFD.cons hd81)
      clear hd81
      have hW55:Wd w w55 [(BD6,#[.int .i64 x.regs,.slice f1.pP x.params.length f1.cP,.slice f1.pR x.results.length f1.cR,.slice f1.pB x.blocks.length f1.cB],38),(BD7,#[.int .i64 y.regs,.slice f2.pP y.params.length f2.cP,.slice f2.pR y.results.length f2.cR,.slice f2.pB y.blocks.length f2.cB],38),(B3,#[.slice p2 k.length d],25),(B2,#[.slice p m.length c],25)]:=hWD.1
      clear hFD hWD hE hF54 h51
      clear hW48
      refine wpList_nil ?_
      refine hK53 _ _ ?_
      refine fr_cond (t:=81) hF55 rfl (fun hb=>?_) (fun hb=>?_)
      ·have hb:(bdec (z=u))=false:=by simpa using hb
       have hel:¬ (z=u):=fun h=>by rw [bdec_true h] at hb;cases hb
       clear hb
       refine wp_seq_k fun K56 hK56=>?_
       refine rg hF55 fun ops=>?_;clear hF55 a55
       refine sa trivial rfl rfl ?_
       refine St.nil fun a57 h57=>?_
       refine hK56 _ _ ?_
       refine wp_ret ?_;with_reducible repeat first | refine of_then_ret ?_ | refine of_block_ret ?_
       have RX:¬ x=y:=by
         intro e
         have h1:=hx3.out
         rw [e,hx4.out] at h1
         exact hel (Option.some.inj h1).symm
       have R:¬ m=k:=by
         intro e
         have h1:=hx1.out
         rw [e,hx2.out] at h1
         exact RX (Option.some.inj h1).symm
       exact ret_tmp (t:=4) h57 rfl rfl ⟨by rw [bdec_false R],hW55.bel⟩
      have hb:(bdec (z=u))=true:=by simpa using hb
      have hel:(z=u):=bdec_iff.1 hb
      clear hb
      refine wp_skip ?_
      refine hK52 _ _ ?_
      refine rg hF55 fun ops=>?_;clear hF55 a55
      refine sm trivial rfl rfl ?_
      refine sad (by omega) trivial rfl rfl rfl ?_
      refine sa trivial rfl rfl ?_
      refine St.nil fun a58 h58=>?_
      refine hKLb _ _ (x.blocks.length - (qb+1)) (by omega) ⟨qb+1,by omega,rfl,?_,(h58.keep (h58.keep (h58.keep (h58.keep (h58.keep (h58.keep (h58.keep (h58.keep (h58.keep h58.nil (t:=8) rfl) (t:=7) rfl) (t:=6) rfl) (t:=5) rfl) (t:=4) rfl) (t:=3) rfl) (t:=2) rfl) (t:=0) rfl) (t:=1) rfl),hW55⟩
      ·intro j hj
       by_cases e:j=qb
       · subst e;rw [hx3.out,hx4.out,hel]
       · exact hal2 j (by omega)
    have hge2:qb=x.blocks.length:=by have:=of_decide_eq_false hb;omega
    clear hb
    have RB:x.blocks=y.blocks:=by
      have:=hlb.out
      refine List.ext_getElem? fun i=>?_
      by_cases hi:i < qb
      · exact hal2 i hi
      · rw [List.getElem?_eq_none (by omega),List.getElem?_eq_none (by omega)]
    have RX:x=y:=MFunc.eq_of hc28.out hc35 hc42 RB
    refine wp_exit ?_
    refine hK17 _ _ ?_
    refine rg h51 fun ops=>?_;clear h51 a51
    refine sm trivial rfl rfl ?_
    refine sad (by omega) trivial rfl rfl rfl ?_
    refine sa trivial rfl rfl ?_
    refine St.nil fun a59 h59=>?_
    refine hKL _ _ (m.length - (q+1)) (by omega) ⟨q+1,by omega,rfl,?_,(h59.keep (h59.keep (h59.keep (h59.keep (h59.keep (h59.keep h59.nil (t:=5) rfl) (t:=4) rfl) (t:=3) rfl) (t:=2) rfl) (t:=0) rfl) (t:=1) rfl),hW48.tail.tail⟩
    ·intro j hj
     by_cases e:j=q
     · subst e;rw [hx1.out,hx2.out,RX]
     · exact hall j (by omega)
  have hge:q=m.length:=by have:=of_decide_eq_false hb;omega
  clear hb
  refine wp_exit ?_
  refine hK10 _ _ ?_
  refine wp_seq_k fun K60 hK60=>?_
  refine rg h16 fun ops=>?_;clear h16 a16
  refine sa trivial rfl rfl ?_
  refine St.nil fun a61 h61=>?_
  refine hK60 _ _ ?_
  refine wp_ret ?_;with_reducible repeat first | refine of_then_ret ?_ | refine of_block_ret ?_
  have R:m=k:=by
    have:=hlen.out
    refine List.ext_getElem? fun i=>?_
    by_cases hi:i < q
    · exact hall i hi
    · rw [List.getElem?_eq_none (by omega),List.getElem?_eq_none (by omega)]
  exact ret_tmp (t:=4) h61 rfl rfl ⟨by rw [bdec_true R],hW13.bel⟩
end Go.Proofs.YtjodmledadbgeacGreatDoor
namespace Go.Proofs.YtjodmledadbgeacGreatDoor
open Go.ChangeShapes Go.WideShapes Go.ChangeAt Go.RowKit Go.Shelf
set_option linter.unusedSimpArgs false
set_option linter.unusedVariables false
theorem boxes {w w2 : World} {c1 c2 : Array Value} (b : Below w.heap.size w w2) : Below w.heap.size w ((w2.alloc (.cells c1 25)).alloc (.cells c2 27)) := (b.alloc b.size _).alloc (by have := b.size; simp; omega) _
def JoinOut (m n : List (MFunc 6)) (f1 f2 : Int) (w : World) (en : Ending) (w' : World) : Prop :=
  ∃ pb nb cb,en=.returned (.tuple #[.agg #[.slice pb nb cb],.agg #[.int .i64 f1,.int .i64 f2]])∧Below w.heap.size w w'∧(f1=0→nb=(m++n).length∧(modL 6).In w' (fun g=>w.heap.size≤g) (m++n) [.slice pb nb cb])
theorem both_list (a b : ByteArray) : (a ++ { data := #[10] } ++ b).data.toList = a.data.toList ++ 10 :: b.data.toList := by simp
theorem both_size (a b : ByteArray) : (a ++ { data := #[10] } ++ b).size = a.size + 1 + b.size := by
  have h:=congrArg List.length (both_list a b)
  rw [list_len] at h
  rw [h,List.length_append,List.length_cons,list_len,list_len]
  omega
theorem joinParse {a b : ByteArray} {m n : List (MFunc 6)} {w : World} {f1 f2 : Int} (hw : Laid w) (ha : parseL a.data.toList = .ok m) (hb : parseL b.data.toList = .ok n) (hl : a.size + b.size ≤ 39000) (hf1 : (modFault (m ++ n)).1 = f1) (hf2 : (modFault (m ++ n)).2 = f2) :
    Calls Tryz.prog 6 #[.string (a++{ data:=#[10] }++b)] w fun en w'=>JoinOut m n f1 f2 w en w':=by
  have HL:=both_list a b
  have HS:=both_size a b
  generalize (a++{ data:=#[10] }++b:ByteArray)=s at HL HS ⊢
  refine (parse_any s w hw (by rw [HS];unfold maxLen;omega)).mono fun en w' hO=>?_
  rw [HL] at hO
  obtain ⟨⟨pb,nb,cb,he,hbl,hz⟩,_⟩:=hO.joined ha hb (by rw [list_len,list_len];exact hl)
  rw [hf1] at hz
  rw [hf1,hf2] at he
  exact ⟨pb,nb,cb,he,hbl,hz⟩
theorem joinSmall {a b : ByteArray} {m n : List (MFunc 6)} (ha : parseL a.data.toList = .ok m) (hb : parseL b.data.toList = .ok n) (hl : a.size + b.size ≤ 39000) : msmall (m ++ n) := by
  obtain ⟨L,Q,h1,h2⟩:=funcs_join ha hb (by rw [list_len,list_len];exact hl)
  exact parsed_small (by have:=(scanL_fine h1).2;omega) h2
theorem wanted_in {w7 w9 : World} {m n : List (MFunc 6)} {dm dn : List Value} {bb g2 cap2 : Nat} {T : TypeId} (hI : ∀ (i : Nat) (x : MFunc 6), m[i]? = some x → (funcL 6).In w7 (fun g => g < bb) x ((dm.drop (i * 4)).take 4)) (hJ : ∀ (i : Nat) (x : MFunc 6), n[i]? = some x → (funcL 6).In w7 (fun g => g < bb) x ((dn.drop (i * 4)).take 4))
    (hd:dm.length=m.length * 4) (h2:w9.ownsRow 0 T 4 (.slice (some ⟨g2,0,none⟩) (m.length+n.length) cap2) (m.length+n.length) (dm++dn)) (kp:∀ k,k < w7.heap.size→w9.heap[k]?=w7.heap[k]?) (hg2:w7.heap.size≤g2) (hbb:bb+1+1 < w7.heap.size) (v:Value) :
    (modL 6).In (w9.setCell ⟨bb+1+1,0,none⟩ v) All (m++n) [.slice (some ⟨g2,0,none⟩) (m++n).length cap2]:=by
  have keep:∀ {x:MFunc 6} {es:List Value},(funcL 6).In w7 (fun g=>g < bb) x es→(funcL 6).In (w9.setCell ⟨bb+1+1,0,none⟩ v) All x es:=fun h =>
    (funcL 6).keep (fun k hk hl=>(Below.heap_setCell _ _ _ _ (by show k≠bb+1+1;omega)).trans (kp k hl)) (fun _ _ _=>trivial) h
  rw [List.length_append]
  exact list_of_row (A:=funcL 6) (owns_keep h2 (Below.heap_setCell _ _ _ _ (by show g2≠bb+1+1;omega))) (by rw [List.length_append]) (kids_append hd (fun i x hx=>keep (hI i x hx)) (fun i x hx=>keep (hJ i x hx))) trivial
theorem joins_any (a b : ByteArray) (w : World) (hw0 : Laid w) (ha : a.size ≤ 140737488355328) (hb : b.size ≤ 140737488355328) :
    Calls Tryz.prog 4 #[.string a,.string b] w fun en w'=>en=.returned (.bool true)∧Below w.heap.size w w':=by
  have HW:Hid (Laid w):=hw0
  have CB:Hid (Calls Tryz.prog 5 #[] w fun e w'=>e=.returned (.bool true)∧Below w.heap.size w w'):=pbegun_any w hw0
  clear hw0
  by_cases hlen:a.size+b.size≤39000
  rotate_left
  · have hlen':(39000:Int) < (a.size:Int)+b.size:=by omega
    go_enter Tryz.func4,Tryz.ntmps4
    go_wp2_with fail
    refine CB.out.mono ?_
    rintro e w1 ⟨rfl,b1⟩
    have B1:Hid (Below w.heap.size w w1):=b1
    clear b1 CB
    go_wp2
    go_ret
    exact ⟨rfl,B1.out⟩
  have hlen':¬ (39000:Int) < (a.size:Int)+b.size:=by omega
  have PA:Hid (∀ w1,Below w.heap.size w w1→Calls Tryz.prog 6 #[.string a] w1 fun en w'=>ParOut a.data.toList w1 en w'):=fun w1 h=>parse_any a w1 (HW.out.below h) (by unfold maxLen;omega)
  have PB:Hid (∀ w1,Below w.heap.size w w1→Calls Tryz.prog 6 #[.string b] w1 fun en w'=>ParOut b.data.toList w1 en w'):=fun w1 h=>parse_any b w1 (HW.out.below h) (by unfold maxLen;omega)
  go_enter Tryz.func4,Tryz.ntmps4
  go_wp2_with fail
  refine CB.out.mono ?_
  rintro e w1 ⟨rfl,b1⟩
  have B1:Hid (Below w.heap.size w w1):=b1
  clear b1 CB
  go_wp2_with fail
  refine (PA.out w1 B1.out).mono ?_
  intro e w2 hO
  rcases hO.two with ⟨c,x,hc,rfl,b2⟩ | ⟨m,am,cm,hm,rfl,im,b2⟩
  · have B2:Hid (Below w.heap.size w ((w2.alloc (.cells #[.slice none 0 0] 25)).alloc (.cells #[.int .i64 c,.int .i64 x] 27))):=boxes (Below.andThen B1.out b2)
    have F2:Hid (Blk ((w2.alloc (.cells #[.slice none 0 0] 25)).alloc (.cells #[.int .i64 c,.int .i64 x] 27)) (w2.heap.size+1) #[.int .i64 c,.int .i64 x] 27):=Blk.new2 _ _ _ _
    clear b2 B1 hO
    go_wp2_with fail
    generalize (w2.alloc (.cells #[.slice none 0 0] 25)).alloc (.cells #[.int .i64 c,.int .i64 x] 27)=w3 at B2 F2 ⊢
    refine (PB.out w3 B2.out).mono ?_
    intro e w4 hO
    obtain ⟨q,n,d,y,z,rfl,b4⟩:=hO.some_
    have B4:Hid (Below w.heap.size w ((w4.alloc (.cells #[.slice q n d] 25)).alloc (.cells #[.int .i64 y,.int .i64 z] 27))):=boxes (Below.andThen B2.out b4)
    have F4:Hid (Blk ((w4.alloc (.cells #[.slice q n d] 25)).alloc (.cells #[.int .i64 y,.int .i64 z] 27)) (w2.heap.size+1) #[.int .i64 c,.int .i64 x] 27):=((F2.out.below b4).alloc _).alloc _
    clear b4 B2 hO F2
    go_upto_region 7 with fail
    generalize (w4.alloc (.cells #[.slice q n d] 25)).alloc (.cells #[.int .i64 y,.int .i64 z] 27)=w5 at B4 F4 ⊢
    have x0:=cellOf F4.out 0 _ rfl
    go_wp2
    go_ret
    exact ⟨rfl,B4.out⟩
  have HM:Hid (parseL a.data.toList=.ok m):=hm
  have M2:Hid (Blk ((w2.alloc (.cells #[.slice am m.length cm] 25)).alloc (.cells #[.int .i64 0,.int .i64 0] 27)) w2.heap.size #[.slice am m.length cm] 25):=Blk.new1 _ _ _ _ _
  have F2:Hid (Blk ((w2.alloc (.cells #[.slice am m.length cm] 25)).alloc (.cells #[.int .i64 0,.int .i64 0] 27)) (w2.heap.size+1) #[.int .i64 0,.int .i64 0] 27):=Blk.new2 _ _ _ _
  have B2:Hid (Below w.heap.size w ((w2.alloc (.cells #[.slice am m.length cm] 25)).alloc (.cells #[.int .i64 0,.int .i64 0] 27))):=boxes (Below.andThen B1.out b2)
  have I2:Hid ((modL 6).In ((w2.alloc (.cells #[.slice am m.length cm] 25)).alloc (.cells #[.int .i64 0,.int .i64 0] 27)) (fun g=>g < w2.heap.size) m [.slice am m.length cm]):=Lay.alloc (Lay.alloc (Lay.mono im (fun _ _ h=>h)) _) _
  clear b2 B1 hO im hm
  go_wp2_with fail
  generalize (w2.alloc (.cells #[.slice am m.length cm] 25)).alloc (.cells #[.int .i64 0,.int .i64 0] 27)=w3 at M2 B2 F2 I2 ⊢
  generalize w2.heap.size=bm at M2 F2 I2 ⊢
  refine (PB.out w3 B2.out).mono ?_
  intro e w4 hO
  rcases hO.two with ⟨c,x,hc,rfl,b4⟩ | ⟨n,an,cn,hn,rfl,jn,b4⟩
  · have B4:Hid (Below w.heap.size w ((w4.alloc (.cells #[.slice none 0 0] 25)).alloc (.cells #[.int .i64 c,.int .i64 x] 27))):=boxes (Below.andThen B2.out b4)
    have F4:Hid (Blk ((w4.alloc (.cells #[.slice none 0 0] 25)).alloc (.cells #[.int .i64 c,.int .i64 x] 27)) (bm+1) #[.int .i64 0,.int .i64 0] 27):=((F2.out.below b4).alloc _).alloc _
    have G4:Hid (Blk ((w4.alloc (.cells #[.slice none 0 0] 25)).alloc (.cells #[.int .i64 c,.int .i64 x] 27)) (w4.heap.size+1) #[.int .i64 c,.int .i64 x] 27):=Blk.new2 _ _ _ _
    clear b4 B2 hO F2 M2 I2
    go_upto_region 7 with fail
    generalize (w4.alloc (.cells #[.slice none 0 0] 25)).alloc (.cells #[.int .i64 c,.int .i64 x] 27)=w5 at B4 F4 G4 ⊢
    have x0:=cellOf F4.out 0 _ rfl
    have x1:=cellOf G4.out 0 _ rfl
    go_wp2
    go_ret
    exact ⟨rfl,B4.out⟩
  have HN:Hid (parseL b.data.toList=.ok n):=hn
  have M4:Hid (Blk ((w4.alloc (.cells #[.slice an n.length cn] 25)).alloc (.cells #[.int .i64 0,.int .i64 0] 27)) bm #[.slice am m.length cm] 25):=((M2.out.below b4).alloc _).alloc _
  have F4:Hid (Blk ((w4.alloc (.cells #[.slice an n.length cn] 25)).alloc (.cells #[.int .i64 0,.int .i64 0] 27)) (bm+1) #[.int .i64 0,.int .i64 0] 27):=((F2.out.below b4).alloc _).alloc _
  have N4:Hid (Blk ((w4.alloc (.cells #[.slice an n.length cn] 25)).alloc (.cells #[.int .i64 0,.int .i64 0] 27)) w4.heap.size #[.slice an n.length cn] 25):=Blk.new1 _ _ _ _ _
  have G4:Hid (Blk ((w4.alloc (.cells #[.slice an n.length cn] 25)).alloc (.cells #[.int .i64 0,.int .i64 0] 27)) (w4.heap.size+1) #[.int .i64 0,.int .i64 0] 27):=Blk.new2 _ _ _ _
  have B4:Hid (Below w.heap.size w ((w4.alloc (.cells #[.slice an n.length cn] 25)).alloc (.cells #[.int .i64 0,.int .i64 0] 27))):=boxes (Below.andThen B2.out b4)
  have I4:Hid ((modL 6).In ((w4.alloc (.cells #[.slice an n.length cn] 25)).alloc (.cells #[.int .i64 0,.int .i64 0] 27)) (fun g=>g < bm) m [.slice am m.length cm]):=Lay.alloc (Lay.alloc (Lay.below I2.out b4) _) _
  have J4:Hid ((modL 6).In ((w4.alloc (.cells #[.slice an n.length cn] 25)).alloc (.cells #[.int .i64 0,.int .i64 0] 27)) (fun g=>g < w4.heap.size) n [.slice an n.length cn]):=Lay.alloc (Lay.alloc (Lay.mono jn (fun _ _ h=>h)) _) _
  clear b4 B2 hO jn hn M2 F2 I2
  go_upto_region 7 with fail
  generalize (w4.alloc (.cells #[.slice an n.length cn] 25)).alloc (.cells #[.int .i64 0,.int .i64 0] 27)=w5 at M4 F4 N4 G4 B4 I4 J4 ⊢
  generalize w4.heap.size=bn at N4 G4 J4 ⊢
  have x0:=cellOf F4.out 0 _ rfl
  have x1:=cellOf G4.out 0 _ rfl
  have hs1:¬ 9223372036854775807 < a.size+1:=by omega
  have hs2:¬ 9223372036854775807 < a.size+1+b.size:=by omega
  obtain ⟨f1,hf1⟩:∃ f,(modFault (m++n)).1=f:=⟨_,rfl⟩
  obtain ⟨f2,hf2⟩:∃ f,(modFault (m++n)).2=f:=⟨_,rfl⟩
  have F1:Hid ((modFault (m++n)).1=f1):=hf1
  have F2:Hid ((modFault (m++n)).2=f2):=hf2
  have PJ:Hid (Calls Tryz.prog 6 #[.string (a++{ data:=#[10] }++b)] w5 fun en w'=>JoinOut m n f1 f2 w5 en w'):=joinParse (HW.out.below B4.out) HM.out HN.out hlen hf1 hf2
  have SM:Hid (msmall (m++n)):=joinSmall HM.out HN.out hlen
  have hmn:=parse_some HM.out
  have hnn:=parse_some HN.out
  clear hf1 hf2
  go_wp2_with fail
  clear x0 x1
  refine PJ.out.mono ?_
  intro e w6 hO
  obtain ⟨pb,nb,cb,rfl,b6,hz6⟩:=hO
  have l5m:=M4.out.lt
  have l5n:=N4.out.lt
  have l56:=b6.size
  have M7:Hid (Blk (((w6.alloc (.cells #[.slice pb nb cb] 25)).alloc (.cells #[.int .i64 f1,.int .i64 f2] 27)).alloc (.cells #[.slice none 0 0] 25)) bm #[.slice am m.length cm] 25):=(((M4.out.below b6).alloc _).alloc _).alloc _
  have N7:Hid (Blk (((w6.alloc (.cells #[.slice pb nb cb] 25)).alloc (.cells #[.int .i64 f1,.int .i64 f2] 27)).alloc (.cells #[.slice none 0 0] 25)) bn #[.slice an n.length cn] 25):=(((N4.out.below b6).alloc _).alloc _).alloc _
  have P7:Hid (Blk (((w6.alloc (.cells #[.slice pb nb cb] 25)).alloc (.cells #[.int .i64 f1,.int .i64 f2] 27)).alloc (.cells #[.slice none 0 0] 25)) w6.heap.size #[.slice pb nb cb] 25):=(Blk.new1 _ _ _ _ _).alloc _
  have H7:Hid (Blk (((w6.alloc (.cells #[.slice pb nb cb] 25)).alloc (.cells #[.int .i64 f1,.int .i64 f2] 27)).alloc (.cells #[.slice none 0 0] 25)) (w6.heap.size+1) #[.int .i64 f1,.int .i64 f2] 27):=(Blk.new2 _ _ _ _).alloc _
  have V7:Hid (Blk (((w6.alloc (.cells #[.slice pb nb cb] 25)).alloc (.cells #[.int .i64 f1,.int .i64 f2] 27)).alloc (.cells #[.slice none 0 0] 25)) (w6.heap.size+1+1) #[.slice none 0 0] 25):=by
    have:=Blk.new ((w6.alloc (.cells #[.slice pb nb cb] 25)).alloc (.cells #[.int .i64 f1,.int .i64 f2] 27)) #[.slice none 0 0] 25
    show Blk _ _ _ _
    simpa using this
  have B7:Hid (Below w.heap.size w (((w6.alloc (.cells #[.slice pb nb cb] 25)).alloc (.cells #[.int .i64 f1,.int .i64 f2] 27)).alloc (.cells #[.slice none 0 0] 25))):=(boxes (Below.andThen B4.out b6)).alloc (by have:=(Below.andThen B4.out b6).size;simp;omega) _
  have I7:Hid ((modL 6).In (((w6.alloc (.cells #[.slice pb nb cb] 25)).alloc (.cells #[.int .i64 f1,.int .i64 f2] 27)).alloc (.cells #[.slice none 0 0] 25)) (fun g=>g < w6.heap.size) m [.slice am m.length cm]):=Lay.alloc (Lay.alloc (Lay.alloc (Lay.mono (Lay.below I4.out b6) (fun k hk _=>by omega)) _) _) _
  have J7:Hid ((modL 6).In (((w6.alloc (.cells #[.slice pb nb cb] 25)).alloc (.cells #[.int .i64 f1,.int .i64 f2] 27)).alloc (.cells #[.slice none 0 0] 25)) (fun g=>g < w6.heap.size) n [.slice an n.length cn]):=Lay.alloc (Lay.alloc (Lay.alloc (Lay.mono (Lay.below J4.out b6) (fun k hk _=>by omega)) _) _) _
  have Z7:Hid (f1=0→nb=(m++n).length∧(modL 6).In (((w6.alloc (.cells #[.slice pb nb cb] 25)).alloc (.cells #[.int .i64 f1,.int .i64 f2] 27)).alloc (.cells #[.slice none 0 0] 25)) (fun g=>g < w6.heap.size) (m++n) [.slice pb nb cb]):=fun h0=>⟨(hz6 h0).1,Lay.alloc (Lay.alloc (Lay.alloc (Lay.mono (hz6 h0).2 (fun k _ h=>h)) _) _) _⟩
  have HB:Hid (bm < w6.heap.size∧bn < w6.heap.size):=⟨by omega,by omega⟩
  have HWB:Hid (w.heap.size≤w6.heap.size+1+1):=by show _≤_;have:=(Below.andThen B4.out b6).size;omega
  clear hz6 b6 PJ M4 F4 N4 G4 B4 I4 J4 l5m l5n l56
  go_upto_region 11 with fail
  generalize (((w6.alloc (.cells #[.slice pb nb cb] 25)).alloc (.cells #[.int .i64 f1,.int .i64 f2] 27)).alloc (.cells #[.slice none 0 0] 25))=w7 at M7 N7 P7 H7 V7 B7 I7 J7 Z7 ⊢
  generalize w6.heap.size=bb at P7 H7 V7 I7 J7 Z7 HB HWB ⊢
  obtain ⟨xm,hxm⟩:∃ x,m[0]?=some x:=⟨_,List.getElem?_eq_getElem (by omega)⟩
  obtain ⟨xn,hxn⟩:∃ x,n[0]?=some x:=⟨_,List.getElem?_eq_getElem (by omega)⟩
  obtain ⟨gm,om,_,rfl,_,hgm,_,_⟩:=Lay.list_at I7.out hxm
  obtain ⟨gn,og,_,rfl,_,hgn,_,_⟩:=Lay.list_at J7.out hxn
  obtain ⟨dm,dm1,dm2,dm3,dm4⟩:=Lay.flat I7.out (fun x ds h=>func_one x ds h)
  obtain ⟨dn,dn1,dn2,dn3,dn4⟩:=Lay.flat J7.out (fun x ds h=>func_one x ds h)
  have DM1:Hid (dm.length=m.length * 4):=dm1
  have DM2:Hid (∀ (j:Nat) (u:Value),dm[j]?=some u→w7.cell? ((⟨gm,om,none⟩:Addr).add j)=some u):=dm2
  have DM3:Hid (∀ u ∈ dm,u.oneCell'=true):=dm3
  have DM4:Hid (∀ (i:Nat) (x:MFunc 6),m[i]?=some x→(funcL 6).In w7 (fun g=>g < bb) x ((dm.drop (i * 4)).take 4)):=dm4
  have DN1:Hid (dn.length=n.length * 4):=dn1
  have DN2:Hid (∀ (j:Nat) (u:Value),dn[j]?=some u→w7.cell? ((⟨gn,og,none⟩:Addr).add j)=some u):=dn2
  have DN3:Hid (∀ u ∈ dn,u.oneCell'=true):=dn3
  have DN4:Hid (∀ (i:Nat) (x:MFunc 6),n[i]?=some x→(funcL 6).In w7 (fun g=>g < bb) x ((dn.drop (i * 4)).take 4)):=dn4
  have OW0:Hid (w7.drew.ownsRow 0 38 4 (.slice none 0 0) 0 []):=⟨rfl,.inl ⟨rfl,rfl⟩⟩
  have LV:=V7.out.lt
  have LN:=N7.out.lt
  obtain ⟨i0,hi,hz0,hz1,hz2⟩:=pInfoF
  clear dm1 dm2 dm3 dm4 dn1 dn2 dn3 dn4 hxm hxn I7 J7
  have y48:=cellOf V7.out 0 _ rfl
  have y50:=cellOf M7.out 0 _ rfl
  have y53:=cellOf N7.out 0 _ rfl
  go_region_law (first
    | (refine step_append_lies _ rfl (.tmp 48) (.tmp 50) 23 rfl 0 38 i0 (.agg #[.int .i64 0,.slice none 0 0,.slice none 0 0,.slice none 0 0]) 4 80 pUnderF hi hz0 hz1 hz2 rfl (by decide) (.slice none 0 0) 0 [] (by simp [Act.eval,Act.put]) OW0.out ⟨gm,om,none⟩ m.length cm dm (by simp [Act.eval,Act.put]) DM1.out (fun j u h=>DM2.out j u h) DM3.out (by omega) (by unfold maxLen;omega) (by omega) (Nat.zero_le _) w7.heap.size rfl ?_
       intro g1 cap1 w8 h1 hgrow1 hat1 hlt1
       have OW8:Hid (w8.ownsRow 0 38 4 (.slice (some ⟨g1,0,none⟩) m.length cap1) m.length dm):=by show World.ownsRow _ _ _ _ _ _ _;have h:=h1;rw [Nat.zero_add,List.nil_append] at h;exact h
       have KP8:Hid (∀ k,k < w7.heap.size→w8.heap[k]?=w7.heap[k]?):=fun k hk=>hgrow1.block k hk (by simp [Value.ownBlock])
       have G1:Hid (w7.heap.size≤g1):=by
         show _≤_
         rcases hat1 with h | h
         · simp [Value.ownBlock] at h
         · omega
       have S8:Hid (w7.heap.size≤w8.heap.size):=hgrow1.size
       have B8:Hid (Below w.heap.size w w8):=⟨hgrow1.os.trans B7.out.os,hgrow1.tape.trans B7.out.tape,hgrow1.output.trans B7.out.output,Nat.le_trans B7.out.size hgrow1.size,fun k hk=>(hgrow1.block k (Nat.lt_of_lt_of_le hk B7.out.size) (by simp [Value.ownBlock])).trans (B7.out.block k hk)⟩
       have DN8:Hid (∀ (j:Nat) (u:Value),dn[j]?=some u→w8.cell? ((⟨gn,og,none⟩:Addr).add j)=some u):=fun j u h=>by
         have h':=DN2.out j u h
         rw [Go.WideShapes.add_plain] at h' ⊢
         rw [World.cell?_of_block (w:=w7) (a:=⟨gn,_,none⟩) (KP8.out gn hgn)]
         exact h'
       have y53b:=cellOf (show Blk w8 bn #[.slice (some ⟨gn,og,none⟩) n.length cn] 25 from (KP8.out bn LN).trans N7.out) 0 _ rfl
       clear h1 hgrow1 hat1 hlt1
       simp only [Nat.zero_add])
    | (refine step_append_lies _ rfl (.tmp 51) (.tmp 53) 23 rfl 0 38 i0 (.agg #[.int .i64 0,.slice none 0 0,.slice none 0 0,.slice none 0 0]) 4 80 pUnderF hi hz0 hz1 hz2 rfl (by decide) (.slice (some ⟨g1,0,none⟩) m.length cap1) m.length dm (by simp [Act.eval,Act.put]) OW8.out ⟨gn,og,none⟩ n.length cn dn (by simp [Act.eval,Act.put]) DN1.out DN8.out DN3.out (by omega) (by unfold maxLen;omega) (by omega) (Nat.zero_le _) w8.heap.size rfl ?_
       intro g2 cap2 w9 h2 hgrow2 hat2 hlt2
       have OW9:Hid (w9.ownsRow 0 38 4 (.slice (some ⟨g2,0,none⟩) (m.length+n.length) cap2) (m.length+n.length) (dm++dn)):=h2
       have KP9:Hid (∀ k,k < w7.heap.size→w9.heap[k]?=w7.heap[k]?):=fun k hk=>(hgrow2.block k (Nat.lt_of_lt_of_le hk S8.out) (by have:=G1.out;simp [Value.ownBlock];omega)).trans (KP8.out k hk)
       have G2:Hid (w7.heap.size≤g2):=by
         show _≤_
         have q1:=G1.out
         have q2:=S8.out
         rcases hat2 with h | h
         · simp [Value.ownBlock] at h;omega
         · omega
       have B9:Hid (Below w.heap.size w w9):=⟨hgrow2.os.trans B8.out.os,hgrow2.tape.trans B8.out.tape,hgrow2.output.trans B8.out.output,Nat.le_trans B8.out.size hgrow2.size,fun k hk=>(hgrow2.block k (Nat.lt_of_lt_of_le hk B8.out.size) (by have:=G1.out;have:=B7.out.size;simp [Value.ownBlock];omega)).trans (B8.out.block k hk)⟩
       have V9:Hid (Blk w9 (bb+1+1) #[.slice none 0 0] 25):=(KP9.out _ LV).trans V7.out
       have y9:=cellOf V9.out 0 _ rfl
       have z9:=freeOf V9.out 0
       clear h2 hgrow2 hat2 hlt2))
  all_goals
    have C10:Hid ((modL 6).In (w9.setCell ⟨bb+1+1,0,none⟩ (.slice (some ⟨g2,0,none⟩) (m.length+n.length) cap2)) All (m++n) [.slice (some ⟨g2,0,none⟩) (m++n).length cap2]):=wanted_in DM4.out DN4.out DM1.out OW9.out KP9.out G2.out LV _
    have V10:Hid (Blk (w9.setCell ⟨bb+1+1,0,none⟩ (.slice (some ⟨g2,0,none⟩) (m.length+n.length) cap2)) (bb+1+1) #[.slice (some ⟨g2,0,none⟩) (m.length+n.length) cap2] 25):=by
      have:=blockSet V9.out 0 (.slice (some ⟨g2,0,none⟩) (m.length+n.length) cap2)
      show Blk _ _ _ _
      simpa using this
    have P10:Hid (Blk (w9.setCell ⟨bb+1+1,0,none⟩ (.slice (some ⟨g2,0,none⟩) (m.length+n.length) cap2)) bb #[.slice pb nb cb] 25):=Blk.setOther (show Blk w9 bb #[.slice pb nb cb] 25 from (KP9.out bb P7.out.lt).trans P7.out) (by show bb+1+1≠bb;omega) _
    have H10:Hid (Blk (w9.setCell ⟨bb+1+1,0,none⟩ (.slice (some ⟨g2,0,none⟩) (m.length+n.length) cap2)) (bb+1) #[.int .i64 f1,.int .i64 f2] 27):=Blk.setOther (show Blk w9 (bb+1) #[.int .i64 f1,.int .i64 f2] 27 from (KP9.out (bb+1) H7.out.lt).trans H7.out) (by show bb+1+1≠bb+1;omega) _
    have B10:Hid (Below w.heap.size w (w9.setCell ⟨bb+1+1,0,none⟩ (.slice (some ⟨g2,0,none⟩) (m.length+n.length) cap2))):=B9.out.setCell (show w.heap.size≤bb+1+1 from HWB.out) _
    have Z10:Hid (f1=0→nb=(m++n).length∧(modL 6).In (w9.setCell ⟨bb+1+1,0,none⟩ (.slice (some ⟨g2,0,none⟩) (m.length+n.length) cap2)) All (m++n) [.slice pb nb cb]):=fun h0=>⟨(Z7.out h0).1,(modL 6).keep (fun k hk hl=>(Below.heap_setCell _ _ _ _ (by show k≠bb+1+1;omega)).trans (KP9.out k hl)) (fun _ _ _=>trivial) (Z7.out h0).2⟩
    clear OW8 KP8 G1 S8 B8 DN8 y53b OW9 KP9 G2 B9 V9 y9 z9 y48 y50 y53
    generalize (w9.setCell ⟨bb+1+1,0,none⟩ (.slice (some ⟨g2,0,none⟩) (m.length+n.length) cap2))=w10 at C10 V10 P10 H10 B10 Z10 ⊢
    have y11:=cellOf V10.out 0 _ rfl
    have CF:Hid (Calls Tryz.prog 13 #[.agg #[.slice (some ⟨g2,0,none⟩) (m.length+n.length) cap2]] w10 fun en w'=>en=.returned (.agg #[.int .i64 f1,.int .i64 f2])∧Below w10.heap.size w10 w'):=by
      have h:=codeFault_any C10.out SM.out
      rw [List.length_append] at h
      rw [← F1.out,← F2.out]
      exact h
    go_wp2_with fail
    refine CF.out.mono ?_
    rintro e w11 ⟨rfl,b11⟩
    have V12:Hid (Blk (w11.alloc (.cells #[.int .i64 f1,.int .i64 f2] 27)) (bb+1+1) #[.slice (some ⟨g2,0,none⟩) (m.length+n.length) cap2] 25):=(V10.out.below b11).alloc _
    have P12:Hid (Blk (w11.alloc (.cells #[.int .i64 f1,.int .i64 f2] 27)) bb #[.slice pb nb cb] 25):=(P10.out.below b11).alloc _
    have H12:Hid (Blk (w11.alloc (.cells #[.int .i64 f1,.int .i64 f2] 27)) (bb+1) #[.int .i64 f1,.int .i64 f2] 27):=(H10.out.below b11).alloc _
    have X12:Hid (Blk (w11.alloc (.cells #[.int .i64 f1,.int .i64 f2] 27)) w11.heap.size #[.int .i64 f1,.int .i64 f2] 27):=Blk.new _ _ _
    have B12:Hid (Below w.heap.size w (w11.alloc (.cells #[.int .i64 f1,.int .i64 f2] 27))):=(Below.andThen B10.out b11).alloc (Below.andThen B10.out b11).size _
    have C12:Hid ((modL 6).In (w11.alloc (.cells #[.int .i64 f1,.int .i64 f2] 27)) All (m++n) [.slice (some ⟨g2,0,none⟩) (m++n).length cap2]):=Lay.alloc (Lay.below C10.out b11) _
    have Z12:Hid (f1=0→nb=(m++n).length∧(modL 6).In (w11.alloc (.cells #[.int .i64 f1,.int .i64 f2] 27)) All (m++n) [.slice pb nb cb]):=fun h0=>⟨(Z10.out h0).1,Lay.alloc (Lay.below (Z10.out h0).2 b11) _⟩
    clear y11 CF b11 C10 V10 P10 H10 B10 Z10
    go_upto_region 13 with fail
    generalize w11.alloc (.cells #[.int .i64 f1,.int .i64 f2] 27)=w12 at V12 P12 H12 X12 B12 C12 Z12 ⊢
    generalize w11.heap.size=bx at X12 ⊢
    have u0:=cellOf V12.out 0 _ rfl
    have u1:=cellOf P12.out 0 _ rfl
    have u2:=cellOf H12.out 0 _ rfl
    have u3:=cellOf H12.out 1 _ rfl
    have u4:=cellOf X12.out 0 _ rfl
    have u5:=cellOf X12.out 1 _ rfl
    by_cases hf0:f1=0
    · obtain ⟨hnb,hz⟩:=Z12.out hf0
      have CS:Hid (Calls Tryz.prog 8 #[.agg #[.slice pb (m.length+n.length) cb],.agg #[.slice (some ⟨g2,0,none⟩) (m.length+n.length) cap2]] w12 fun en w'=>en=.returned (.bool true)∧Below w12.heap.size w12 w'):=by
        rw [hnb] at hz
        have h:=sameModule_any hz C12.out SM.out
        rw [List.length_append,bdec_true rfl] at h
        exact h
      rw [List.length_append] at hnb
      subst hnb
      subst hf0
      clear hz Z12 C12
      go_wp2_with fail
      refine CS.out.mono ?_
      rintro e w13 ⟨rfl,b13⟩
      have B13:Hid (Below w.heap.size w w13):=Below.andThen B12.out b13
      clear b13 CS
      go_wp2
      go_ret
      exact ⟨rfl,B13.out⟩
    · go_wp2
      go_ret
      exact ⟨rfl,B12.out⟩
end Go.Proofs.YtjodmledadbgeacGreatDoor
namespace Go.Proofs.YtjodmledadbgeacGreatDoor
open Go.ChangeShapes Go.WideShapes Go.ChangeAt Go.RowKit Go.Deep
set_option linter.unusedVariables false
theorem own : ownKnob Tryz.prog.godebug = none := by kernel_rfl
theorem powG : Tryz.prog.globalNamed "internal/strconv.uint64pow10" = some 2 := by kernel_rfl
theorem powT : (Tryz.prog.globals[2]?).map (·.type) = some 172 := by kernel_rfl
theorem powD : (Rows.laid_internal_strconv_uint64pow10 : DataW Unit) = Lib.tabData .u64 Lib.pow10Tab := by kernel_rfl
theorem synG : Tryz.prog.globalNamed "strconv.ErrSyntax" = some 0 := by kernel_rfl
theorem synT : (Tryz.prog.globals[0]?).map (·.type) = some 119 := by kernel_rfl
theorem rngG : Tryz.prog.globalNamed "strconv.ErrRange" = some 1 := by kernel_rfl
theorem rngT : (Tryz.prog.globals[1]?).map (·.type) = some 119 := by kernel_rfl
theorem cellsE : Tryz.prog.cellsOf 180 = 1 := by kernel_rfl
theorem cellsS : Tryz.prog.cellsOf 9 = 1 := by kernel_rfl
theorem starE : "*" ++ "errors.errorString" = "*errors.errorString" := by decide
theorem rowE (u : TypeId) (h : Tryz.prog.typeName? 3 u = some "*errors.errorString") : u = 178 :=
  typeName_ptr_named (nm := "errors.errorString") (by rw [starE]; kernel_rfl) (by kernel_rfl) (by decide) u (by rw [starE]; exact h)
theorem laid_all {W : World} {a b : String × DataW Unit} (h : laidMet Tryz.prog [a, b, ("internal/strconv.uint64pow10", Rows.laid_internal_strconv_uint64pow10), ("strconv.ErrRange", Rows.laid_strconv_ErrRange), ("strconv.ErrSyntax", Rows.laid_strconv_ErrSyntax)] W) : Laid W := by
  have h3:=h.tail.tail
  have h4:=h3.tail
  have h5:=h4.tail
  rw [powD] at h3
  obtain ⟨a1,s1,hv1,-,-,-⟩:=laid_sentinel h4 rngG rngT Tryz.underlying119 rowE Tryz.underlying178 Tryz.underlying180 rfl rfl Tryz.underlying9 cellsE cellsS
  obtain ⟨a0,s0,hv0,-,-,-⟩:=laid_sentinel h5 synG synT Tryz.underlying119 rowE Tryz.underlying178 Tryz.underlying180 rfl rfl Tryz.underlying9 cellsE cellsS
  exact ⟨Lib.tabIs_of_head powG powT Tryz.underlying172 Tryz.underlying147 (by kernel_rfl) (by kernel_rfl) h3,⟨_,_,hv0⟩,⟨_,_,hv1⟩⟩
end Go.Proofs.YtjodmledadbgeacGreatDoor
