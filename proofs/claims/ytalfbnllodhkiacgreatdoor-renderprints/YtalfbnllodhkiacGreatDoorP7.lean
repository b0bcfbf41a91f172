import Derived.Test.YtalfbnllodhkiacGreatDoorP6
import Derived.SizedLaws
import Derived.Lib.LaidTab
import Derived.Stop.LaidErr
import Derived.Stop.Joined
import Derived.LaidMore
set_option maxHeartbeats 16000000
set_option maxRecDepth 100000
namespace Go.Proofs.YtalfbnllodhkiacGreatDoor
open Go.ChangeShapes Go.WideShapes Go.ChangeAt Go.RowKit
set_option linter.unusedSimpArgs false
set_option linter.unusedVariables false
def plB {n : Nat} (x : MFunc n) (q : Nat) : Bool := (x.regs == 0 && ((x.params.length : Int) == 0)) && (x.results.take q).all (fun t => t.kind == 1)
theorem plB_zero {n : Nat} (x : MFunc n) : plB x 0 = (x.regs == 0 && ((x.params.length : Int) == 0)) := by simp [plB]
theorem plB_succ {n : Nat} {x : MFunc n} {q : Nat} {t : TT n} (h : x.results[q]? = some t) : plB x (q + 1) = (plB x q && t.kind == 1) := by
  unfold plB
  rw [List.take_add_one,h,List.all_append]
  simp [Bool.and_assoc]
theorem plB_iff {n : Nat} (x : MFunc n) : plB x x.results.length = true ↔ x.begins := by
  unfold plB MFunc.begins
  rw [List.take_length]
  simp only [Bool.and_eq_true,beq_iff_eq]
  constructor
  · rintro ⟨⟨h1,h2⟩,h3⟩;exact ⟨h1,by omega,h3⟩
  · rintro ⟨h1,h2,h3⟩;exact ⟨⟨h1,by omega⟩,h3⟩
theorem codeFault_any {n : Nat} {m : List (MFunc n)} {p : Option Addr} {c : Nat} {w : World} (hm0 : (modL n).In w All m [.slice p m.length c]) (hs0 : msmall m) :
    Rd Tryz.prog 16 #[.agg #[.slice p m.length c]] w (faultV (modFault m)):=by
  have hm:Hid _:=hm0
  have hms:Hid _:=hs0
  have hmb:=hs0.1
  clear hm0 hs0
  refine fr_enter (n:=129) Tryz.func16 rfl rfl rfl ?_
  intro a hF
  have hW:=Wd.start w
  replace hF:Fr 129 a [(0,.agg #[.slice p m.length c])]:=hF
  refine wp_seq_k fun K1 hK1=>?_
  refine rg hF fun ops=>?_;clear hF a
  refine sB hW trivial rfl rfl ?_
  clear hW;intro w2 B2 hW2 hN;clear hN
  refine sAFault hW2 trivial rfl ?_
  clear hW2;intro w3 B3 hW3 hN;clear hN
  refine St.nil fun a4 h4=>?_
  refine hK1 _ _ ?_
  refine wp_seq_k fun K5 hK5=>?_
  refine wp_seq_k fun K6 hK6=>?_
  refine fr_region ?_
  intro ops hops
  have hg4:(ops[4]?).bind (fun o:Oper=>o.dst)=some 15:=hops 4
  clear hops
  refine St.go h4 ?_;clear h4 a4
  refine sfModule0 trivial rfl rfl ?_
  refine sbFuncs 1 hW3 trivial rfl rfl rfl rfl ?_
  refine slFuncs trivial rfl rfl ?_
  refine slt trivial rfl rfl rfl ?_
  refine sm trivial rfl rfl ?_
  intro a7 h7
  rcases Bool.eq_false_or_eq_true (decide ((m.length:Int)<1)) with hb | hb
  ·rw [hb] at h7
   have hc8:m.length<1:=by have:=of_decide_eq_true hb;omega
   clear hb
   refine St.go h7 ?_;clear h7 a7
   refine so hg4 rfl rfl rfl rfl ?_
   refine so hg4 rfl rfl rfl rfl ?_
   refine so hg4 rfl rfl rfl rfl ?_
   refine so hg4 rfl rfl rfl rfl ?_
   refine sp trivial rfl rfl rfl ?_
   refine St.nil fun a9 h9=>?_
   refine hK6 _ _ ?_
   refine fr_true (t:=20) h9 rfl ?_
   refine wp_seq_k fun K10 hK10=>?_
   refine rg h9 fun ops=>?_;clear h9 a9
   refine sc_2 cf36 hW3 (fF_any (xc:=2) (xp:=-1)) trivial rfl rfl rfl ?_
   clear hW3;intro w11 hW11
   refine sT 0 hW11 rfl rfl infFault rfl rfl rfl ?_
   clear hW11;intro w12 hW12
   refine St.nil fun a13 h13=>?_
   refine hK10 _ _ ?_
   refine wp_ret ?_;with_reducible repeat first | refine of_then_ret ?_ | refine of_block_ret ?_
   have R:modFault m=(2,-1):=if_pos (by omega)
   exact ret_box 0 h13 hW12 rfl rfl rfl Tryz.underlying27 rfl infFault ⟨by show Ending.returned (.agg #[.int .i64 2,.int .i64 (-1)])=_;rw [R],hW12.bel⟩
  rw [hb] at h7
  have hc14:¬ (m.length<1):=by have:=of_decide_eq_false hb;omega
  clear hb
  refine St.go h7 ?_;clear h7 a7
  refine sfModule0 ⟨_,hg4,rfl,rfl⟩ rfl rfl ?_
  refine sbFuncs 1 hW3 ⟨_,hg4,rfl,rfl⟩ rfl rfl rfl rfl ?_
  refine slFuncs ⟨_,hg4,rfl,rfl⟩ rfl rfl ?_
  refine sgt ⟨_,hg4,rfl,rfl⟩ rfl rfl rfl ?_
  refine spf trivial rfl rfl rfl ?_
  refine St.nil fun a15 h15=>?_
  refine hK6 _ _ ?_
  refine fr_cond (t:=20) h15 rfl (fun hb=>?_) (fun hb=>?_)
  ·have hc16:8<m.length:=by have:=of_decide_eq_true hb;omega
   clear hb
   refine wp_seq_k fun K17 hK17=>?_
   refine rg h15 fun ops=>?_;clear h15 a15
   refine sc_2 cf36 hW3 (fF_any (xc:=2) (xp:=-1)) trivial rfl rfl rfl ?_
   clear hW3;intro w18 hW18
   refine sT 0 hW18 rfl rfl infFault rfl rfl rfl ?_
   clear hW18;intro w19 hW19
   refine St.nil fun a20 h20=>?_
   refine hK17 _ _ ?_
   refine wp_ret ?_;with_reducible repeat first | refine of_then_ret ?_ | refine of_block_ret ?_
   have R:modFault m=(2,-1):=if_pos (by omega)
   exact ret_box 0 h20 hW19 rfl rfl rfl Tryz.underlying27 rfl infFault ⟨by show Ending.returned (.agg #[.int .i64 2,.int .i64 (-1)])=_;rw [R],hW19.bel⟩
  have hc21:¬ (8<m.length):=by have:=of_decide_eq_false hb;omega
  clear hb
  refine wp_skip ?_
  refine hK5 _ _ ?_
  refine wp_seq_k fun K22 hK22=>?_
  refine wp_seq_k fun K23 hK23=>?_
  refine rg h15 fun ops=>?_;clear h15 a15
  refine sa trivial rfl rfl ?_
  refine St.nil fun a24 h24=>?_
  refine hK23 _ _ ?_
  refine wp_block ?_
  refine fr_loop (fun r a w'=>∃ q1:Nat,q1≤m.length∧r=m.length - q1∧(∀ (j:Nat) z,j<q1→m[j]?=some z→(MFunc.fault m.length j z).1=0)∧Fr 129 a [(0,.agg #[.slice p m.length c]),(1,.pointer (some ⟨B2,0,none⟩)),(2,.pointer (some ⟨B3,0,none⟩)),(3,.int .i64 (q1:Int))]∧Wd w w' [(B3,#[.int .i64 0,.int .i64 0],27),(B2,#[.slice p m.length c],25)]) (m.length) ⟨0,Nat.zero_le _,rfl,(fun j z hj=>by omega),(h24.keep (h24.keep (h24.keep (h24.keep h24.nil (t:=3) rfl) (t:=2) rfl) (t:=1) rfl) (t:=0) rfl),hW3⟩ ?_
  clear h24 hW3
  rintro r1 a25 w25 ⟨q1,hq1,hr1,hall1,hF25,hW25⟩ KL1 hKL1
  refine wp_seq_k fun K26 hK26=>?_
  refine wp_seq_k fun K27 hK27=>?_
  refine rg hF25 fun ops=>?_;clear hF25 a25
  refine sm trivial rfl rfl ?_
  refine sfModule0 trivial rfl rfl ?_
  refine sbFuncs 1 hW25 trivial rfl rfl rfl rfl ?_
  refine slFuncs trivial rfl rfl ?_
  refine slt trivial rfl rfl rfl ?_
  refine St.nil fun a28 h28=>?_
  refine hK27 _ _ ?_
  refine fr_cond (t:=26) h28 rfl (fun hb=>?_) (fun hb=>?_)
  ·have hlt1:q1<m.length:=by have:=of_decide_eq_true hb;omega
   clear hb
   obtain ⟨x,hx1⟩:∃ v9,(m)[q1]?=some v9:=⟨_,List.getElem?_eq_getElem hlt1⟩
   obtain ⟨g1,o1,f1,hp1,E1,In1⟩:=func_at hm.out hx1
   replace In1:Hid _:=In1
   replace hp1:Hid _:=hp1
   replace hx1:Hid _:=hx1
   replace E1:Hid _:=E1
   have hs1:Hid x.small:=hms.out.2 _ (List.mem_of_getElem? hx1.out)
   have hxb:=hs1.out.1
   have hrb:=hs1.out.2.2.1.1
   refine wp_skip ?_
   refine hK26 _ _ ?_
   refine wp_seq_k fun K29 hK29=>?_
   refine wp_block ?_
   refine wp_seq_k fun K30 hK30=>?_
   refine rg h28 fun ops=>?_;clear h28 a28
   refine sfModule0 trivial rfl rfl ?_
   refine sbFuncs 1 hW25 trivial rfl rfl rfl rfl ?_
   refine sm trivial rfl rfl ?_
   refine siFuncs hp1.out hlt1 trivial rfl rfl rfl ?_
   refine sSE Tryz.underlying42 rfl (rangeAt_bel E1.out hW25.bel) infFunc trivial rfl rfl ?_
   refine sAFunc hW25 trivial rfl ?_
   clear hW25;intro w31 B31 hW31 hN;clear hN
   refine sT 0 hW31 rfl rfl infFunc rfl rfl rfl ?_
   clear hW31;intro w32 hW32
   refine St.nil fun a33 h33=>?_
   refine hK30 _ _ ?_
   refine wp_seq_k fun K34 hK34=>?_
   refine wp_seq_k fun K35 hK35=>?_
   refine fr_region ?_
   intro ops hops
   have hg3:(ops[3]?).bind (fun o:Oper=>o.dst)=some 37:=hops 3
   clear hops
   refine St.go h33 ?_;clear h33 a33
   refine sfFunc0 trivial rfl rfl ?_
   refine sbInt 0 hW32 trivial rfl rfl rfl rfl ?_
   refine slt trivial rfl rfl rfl ?_
   refine sm trivial rfl rfl ?_
   intro a36 h36
   rcases Bool.eq_false_or_eq_true (decide (x.regs<0)) with hb | hb
   ·rw [hb] at h36
    have hc37:x.regs<0:=of_decide_eq_true hb
    clear hb
    refine St.go h36 ?_;clear h36 a36
    refine so hg3 rfl rfl rfl rfl ?_
    refine so hg3 rfl rfl rfl rfl ?_
    refine so hg3 rfl rfl rfl rfl ?_
    refine sp trivial rfl rfl rfl ?_
    refine St.nil fun a38 h38=>?_
    refine hK35 _ _ ?_
    refine fr_true (t:=41) h38 rfl ?_
    refine wp_seq_k fun K39 hK39=>?_
    refine rg h38 fun ops=>?_;clear h38 a38
    refine sm trivial rfl rfl ?_
    refine sc_1 cf37 hW32 (atFunc_any (f:=q1) (by omega)) trivial rfl rfl ?_
    clear hW32;intro w40 hW40
    refine sc_2 cf36 hW40 (fF_any (xc:=1) (xp:=10000*(q1:Int)+9999)) trivial rfl rfl rfl ?_
    clear hW40;intro w41 hW41
    refine sT 1 hW41 rfl rfl infFault rfl rfl rfl ?_
    clear hW41;intro w42 hW42
    refine St.nil fun a43 h43=>?_
    refine hK39 _ _ ?_
    refine wp_ret ?_;with_reducible repeat first | refine of_then_ret ?_ | refine of_block_ret ?_
    have RM:(MFunc.fault m.length q1 x).1≠0→modFault m=MFunc.fault m.length q1 x:=fun hz=>(if_neg (by omega)).trans (by have h9:=firstF_eq (f:=fun f x=>MFunc.fault m.length f x) (j:=0) hx1.out (fun k y hk hy=>by rw [Nat.zero_add];exact hall1 k y hk hy) (by rw [Nat.zero_add];exact hz);rwa [Nat.zero_add] at h9)
    have RC:x.code q1=1:=by exact if_pos (by omega)
    have EF:MFunc.fault m.length q1 x=(1,10000*(q1:Int)+9999):=by rw [MFunc.fault_eq,RC,if_neg (by omega)]
    exact ret_box 1 h43 hW42 rfl rfl rfl Tryz.underlying27 rfl infFault ⟨by show Ending.returned (.agg #[.int .i64 1,.int .i64 (10000*(q1:Int)+9999)])=_;rw [RM (by rw [EF];show _≠_;omega),EF],hW42.bel⟩
   rw [hb] at h36
   have hc44:¬ (x.regs<0):=of_decide_eq_false hb
   clear hb
   refine St.go h36 ?_;clear h36 a36
   refine sfFunc0 ⟨_,hg3,rfl,rfl⟩ rfl rfl ?_
   refine sbInt 0 hW32 ⟨_,hg3,rfl,rfl⟩ rfl rfl rfl rfl ?_
   refine sgt ⟨_,hg3,rfl,rfl⟩ rfl rfl rfl ?_
   refine spf trivial rfl rfl rfl ?_
   refine St.nil fun a45 h45=>?_
   refine hK35 _ _ ?_
   refine fr_cond (t:=41) h45 rfl (fun hb=>?_) (fun hb=>?_)
   ·have hc46:6<x.regs:=of_decide_eq_true hb
    clear hb
    refine wp_seq_k fun K47 hK47=>?_
    refine rg h45 fun ops=>?_;clear h45 a45
    refine sm trivial rfl rfl ?_
    refine sc_1 cf37 hW32 (atFunc_any (f:=q1) (by omega)) trivial rfl rfl ?_
    clear hW32;intro w48 hW48
    refine sc_2 cf36 hW48 (fF_any (xc:=1) (xp:=10000*(q1:Int)+9999)) trivial rfl rfl rfl ?_
    clear hW48;intro w49 hW49
    refine sT 1 hW49 rfl rfl infFault rfl rfl rfl ?_
    clear hW49;intro w50 hW50
    refine St.nil fun a51 h51=>?_
    refine hK47 _ _ ?_
    refine wp_ret ?_;with_reducible repeat first | refine of_then_ret ?_ | refine of_block_ret ?_
    have RM:(MFunc.fault m.length q1 x).1≠0→modFault m=MFunc.fault m.length q1 x:=fun hz=>(if_neg (by omega)).trans (by have h9:=firstF_eq (f:=fun f x=>MFunc.fault m.length f x) (j:=0) hx1.out (fun k y hk hy=>by rw [Nat.zero_add];exact hall1 k y hk hy) (by rw [Nat.zero_add];exact hz);rwa [Nat.zero_add] at h9)
    have RC:x.code q1=1:=by exact if_pos (by omega)
    have EF:MFunc.fault m.length q1 x=(1,10000*(q1:Int)+9999):=by rw [MFunc.fault_eq,RC,if_neg (by omega)]
    exact ret_box 1 h51 hW50 rfl rfl rfl Tryz.underlying27 rfl infFault ⟨by show Ending.returned (.agg #[.int .i64 1,.int .i64 (10000*(q1:Int)+9999)])=_;rw [RM (by rw [EF];show _≠_;omega),EF],hW50.bel⟩
   have hc52:¬ (6<x.regs):=of_decide_eq_false hb
   clear hb
   refine wp_skip ?_
   refine hK34 _ _ ?_
   refine wp_seq_k fun K53 hK53=>?_
   refine wp_seq_k fun K54 hK54=>?_
   refine rg h45 fun ops=>?_;clear h45 a45
   refine sfFunc1 trivial rfl rfl ?_
   refine sbTypes 0 hW32 trivial rfl rfl rfl rfl ?_
   refine sfFunc0 trivial rfl rfl ?_
   refine sbInt 0 hW32 trivial rfl rfl rfl rfl ?_
   refine sc_2 cf38 hW32 (listForm_any (regs:=x.regs) (Lay.below In1.out.params hW32.bel) hs1.out.2.1) trivial rfl rfl rfl ?_
   clear hW32;intro w55 hW55
   refine sa trivial rfl rfl ?_
   refine St.nil fun a56 h56=>?_
   refine hK54 _ _ ?_
   refine wp_seq_k fun K57 hK57=>?_
   refine rg h56 fun ops=>?_;clear h56 a56
   refine sm trivial rfl rfl ?_
   refine sne trivial rfl rfl rfl ?_
   refine St.nil fun a58 h58=>?_
   refine hK57 _ _ ?_
   refine fr_cond (t:=51) h58 rfl (fun hb=>?_) (fun hb=>?_)
   ·have h9:¬ (listC x.regs x.params)=0:=bne_iff_ne.1 hb
    have hc59:¬ (listC x.regs x.params)=0:=h9
    clear h9
    clear hb
    refine wp_seq_k fun K60 hK60=>?_
    refine rg h58 fun ops=>?_;clear h58 a58
    refine sm trivial rfl rfl ?_
    refine sm trivial rfl rfl ?_
    refine sc_1 cf37 hW55 (atFunc_any (f:=q1) (by omega)) trivial rfl rfl ?_
    clear hW55;intro w61 hW61
    refine sc_2 cf36 hW61 (fF_any (xc:=listC x.regs x.params) (xp:=10000*(q1:Int)+9999)) trivial rfl rfl rfl ?_
    clear hW61;intro w62 hW62
    refine sT 1 hW62 rfl rfl infFault rfl rfl rfl ?_
    clear hW62;intro w63 hW63
    refine St.nil fun a64 h64=>?_
    refine hK60 _ _ ?_
    refine wp_ret ?_;with_reducible repeat first | refine of_then_ret ?_ | refine of_block_ret ?_
    have RM:(MFunc.fault m.length q1 x).1≠0→modFault m=MFunc.fault m.length q1 x:=fun hz=>(if_neg (by omega)).trans (by have h9:=firstF_eq (f:=fun f x=>MFunc.fault m.length f x) (j:=0) hx1.out (fun k y hk hy=>by rw [Nat.zero_add];exact hall1 k y hk hy) (by rw [Nat.zero_add];exact hz);rwa [Nat.zero_add] at h9)
    have RC:x.code q1=listC x.regs x.params:=by exact (if_neg (by omega)).trans (if_pos (by omega))
    have EF:MFunc.fault m.length q1 x=(listC x.regs x.params,10000*(q1:Int)+9999):=by rw [MFunc.fault_eq,RC,if_neg (by omega)]
    exact ret_box 1 h64 hW63 rfl rfl rfl Tryz.underlying27 rfl infFault ⟨by show Ending.returned (.agg #[.int .i64 (listC x.regs x.params),.int .i64 (10000*(q1:Int)+9999)])=_;rw [RM (by rw [EF];show _≠_;omega),EF],hW63.bel⟩
   have h9:(listC x.regs x.params)=0:=bne_eq_false_iff_eq.1 hb
   have hc65:Hid ((listC x.regs x.params)=0):=h9
   clear h9
   clear hb
   refine wp_skip ?_
   refine hK53 _ _ ?_
   refine wp_seq_k fun K66 hK66=>?_
   refine wp_seq_k fun K67 hK67=>?_
   refine rg h58 fun ops=>?_;clear h58 a58
   refine sfFunc2 trivial rfl rfl ?_
   refine sbTypes 0 hW55 trivial rfl rfl rfl rfl ?_
   refine sfFunc0 trivial rfl rfl ?_
   refine sbInt 0 hW55 trivial rfl rfl rfl rfl ?_
   refine sc_2 cf38 hW55 (listForm_any (regs:=x.regs) (Lay.below In1.out.results hW55.bel) hs1.out.2.2.1) trivial rfl rfl rfl ?_
   clear hW55;intro w68 hW68
   refine sa trivial rfl rfl ?_
   refine St.nil fun a69 h69=>?_
   refine hK67 _ _ ?_
   refine wp_seq_k fun K70 hK70=>?_
   refine rg h69 fun ops=>?_;clear h69 a69
   refine sm trivial rfl rfl ?_
   refine sne trivial rfl rfl rfl ?_
   refine St.nil fun a71 h71=>?_
   refine hK70 _ _ ?_
   refine fr_cond (t:=62) h71 rfl (fun hb=>?_) (fun hb=>?_)
   ·have h9:¬ (listC x.regs x.results)=0:=bne_iff_ne.1 hb
    have hc72:¬ (listC x.regs x.results)=0:=h9
    clear h9
    clear hb
    refine wp_seq_k fun K73 hK73=>?_
    refine rg h71 fun ops=>?_;clear h71 a71
    refine sm trivial rfl rfl ?_
    refine sm trivial rfl rfl ?_
    refine sc_1 cf37 hW68 (atFunc_any (f:=q1) (by omega)) trivial rfl rfl ?_
    clear hW68;intro w74 hW74
    refine sc_2 cf36 hW74 (fF_any (xc:=listC x.regs x.results) (xp:=10000*(q1:Int)+9999)) trivial rfl rfl rfl ?_
    clear hW74;intro w75 hW75
    refine sT 1 hW75 rfl rfl infFault rfl rfl rfl ?_
    clear hW75;intro w76 hW76
    refine St.nil fun a77 h77=>?_
    refine hK73 _ _ ?_
    refine wp_ret ?_;with_reducible repeat first | refine of_then_ret ?_ | refine of_block_ret ?_
    have RM:(MFunc.fault m.length q1 x).1≠0→modFault m=MFunc.fault m.length q1 x:=fun hz=>(if_neg (by omega)).trans (by have h9:=firstF_eq (f:=fun f x=>MFunc.fault m.length f x) (j:=0) hx1.out (fun k y hk hy=>by rw [Nat.zero_add];exact hall1 k y hk hy) (by rw [Nat.zero_add];exact hz);rwa [Nat.zero_add] at h9)
    have RC:x.code q1=listC x.regs x.results:=by have:=hc65.out;exact (if_neg (by omega)).trans ((if_neg (by omega)).trans (if_pos (by omega)))
    have EF:MFunc.fault m.length q1 x=(listC x.regs x.results,10000*(q1:Int)+9999):=by rw [MFunc.fault_eq,RC,if_neg (by omega)]
    exact ret_box 1 h77 hW76 rfl rfl rfl Tryz.underlying27 rfl infFault ⟨by show Ending.returned (.agg #[.int .i64 (listC x.regs x.results),.int .i64 (10000*(q1:Int)+9999)])=_;rw [RM (by rw [EF];show _≠_;omega),EF],hW76.bel⟩
   have h9:(listC x.regs x.results)=0:=bne_eq_false_iff_eq.1 hb
   have hc78:Hid ((listC x.regs x.results)=0):=h9
   clear h9
   clear hb
   refine wp_skip ?_
   refine hK66 _ _ ?_
   refine wp_seq_k fun K79 hK79=>?_
   refine wp_seq_k fun K80 hK80=>?_
   refine fr_region ?_
   intro ops hops
   have hg4:(ops[4]?).bind (fun o:Oper=>o.dst)=some 71:=hops 4
   clear hops
   refine St.go h71 ?_;clear h71 a71
   refine sfFunc3 trivial rfl rfl ?_
   refine sbBlocks 0 hW68 trivial rfl rfl rfl rfl ?_
   refine slBlocks trivial rfl rfl ?_
   refine slt trivial rfl rfl rfl ?_
   refine sm trivial rfl rfl ?_
   intro a81 h81
   rcases Bool.eq_false_or_eq_true (decide ((x.blocks.length:Int)<1)) with hb | hb
   ·rw [hb] at h81
    have hc82:x.blocks.length<1:=by have:=of_decide_eq_true hb;omega
    clear hb
    refine St.go h81 ?_;clear h81 a81
    refine so hg4 rfl rfl rfl rfl ?_
    refine so hg4 rfl rfl rfl rfl ?_
    refine so hg4 rfl rfl rfl rfl ?_
    refine so hg4 rfl rfl rfl rfl ?_
    refine sp trivial rfl rfl rfl ?_
    refine St.nil fun a83 h83=>?_
    refine hK80 _ _ ?_
    refine fr_true (t:=76) h83 rfl ?_
    refine wp_seq_k fun K84 hK84=>?_
    refine rg h83 fun ops=>?_;clear h83 a83
    refine sm trivial rfl rfl ?_
    refine sc_1 cf37 hW68 (atFunc_any (f:=q1) (by omega)) trivial rfl rfl ?_
    clear hW68;intro w85 hW85
    refine sc_2 cf36 hW85 (fF_any (xc:=2) (xp:=10000*(q1:Int)+9999)) trivial rfl rfl rfl ?_
    clear hW85;intro w86 hW86
    refine sT 1 hW86 rfl rfl infFault rfl rfl rfl ?_
    clear hW86;intro w87 hW87
    refine St.nil fun a88 h88=>?_
    refine hK84 _ _ ?_
    refine wp_ret ?_;with_reducible repeat first | refine of_then_ret ?_ | refine of_block_ret ?_
    have RM:(MFunc.fault m.length q1 x).1≠0→modFault m=MFunc.fault m.length q1 x:=fun hz=>(if_neg (by omega)).trans (by have h9:=firstF_eq (f:=fun f x=>MFunc.fault m.length f x) (j:=0) hx1.out (fun k y hk hy=>by rw [Nat.zero_add];exact hall1 k y hk hy) (by rw [Nat.zero_add];exact hz);rwa [Nat.zero_add] at h9)
    have RC:x.code q1=2:=by have:=hc65.out;have:=hc78.out;exact (if_neg (by omega)).trans ((if_neg (by omega)).trans ((if_neg (by omega)).trans (if_pos (by omega))))
    have EF:MFunc.fault m.length q1 x=(2,10000*(q1:Int)+9999):=by rw [MFunc.fault_eq,RC,if_neg (by omega)]
    exact ret_box 1 h88 hW87 rfl rfl rfl Tryz.underlying27 rfl infFault ⟨by show Ending.returned (.agg #[.int .i64 2,.int .i64 (10000*(q1:Int)+9999)])=_;rw [RM (by rw [EF];show _≠_;omega),EF],hW87.bel⟩
   rw [hb] at h81
   have hc89:¬ (x.blocks.length<1):=by have:=of_decide_eq_false hb;omega
   clear hb
   refine St.go h81 ?_;clear h81 a81
   refine sfFunc3 ⟨_,hg4,rfl,rfl⟩ rfl rfl ?_
   refine sbBlocks 0 hW68 ⟨_,hg4,rfl,rfl⟩ rfl rfl rfl rfl ?_
   refine slBlocks ⟨_,hg4,rfl,rfl⟩ rfl rfl ?_
   refine sgt ⟨_,hg4,rfl,rfl⟩ rfl rfl rfl ?_
   refine spf trivial rfl rfl rfl ?_
   refine St.nil fun a90 h90=>?_
   refine hK80 _ _ ?_
   refine fr_cond (t:=76) h90 rfl (fun hb=>?_) (fun hb=>?_)
   ·have hc91:12<x.blocks.length:=by have:=of_decide_eq_true hb;omega
    clear hb
    refine wp_seq_k fun K92 hK92=>?_
    refine rg h90 fun ops=>?_;clear h90 a90
    refine sm trivial rfl rfl ?_
    refine sc_1 cf37 hW68 (atFunc_any (f:=q1) (by omega)) trivial rfl rfl ?_
    clear hW68;intro w93 hW93
    refine sc_2 cf36 hW93 (fF_any (xc:=2) (xp:=10000*(q1:Int)+9999)) trivial rfl rfl rfl ?_
    clear hW93;intro w94 hW94
    refine sT 1 hW94 rfl rfl infFault rfl rfl rfl ?_
    clear hW94;intro w95 hW95
    refine St.nil fun a96 h96=>?_
    refine hK92 _ _ ?_
    refine wp_ret ?_;with_reducible repeat first | refine of_then_ret ?_ | refine of_block_ret ?_
    have RM:(MFunc.fault m.length q1 x).1≠0→modFault m=MFunc.fault m.length q1 x:=fun hz=>(if_neg (by omega)).trans (by have h9:=firstF_eq (f:=fun f x=>MFunc.fault m.length f x) (j:=0) hx1.out (fun k y hk hy=>by rw [Nat.zero_add];exact hall1 k y hk hy) (by rw [Nat.zero_add];exact hz);rwa [Nat.zero_add] at h9)
    have RC:x.code q1=2:=by have:=hc65.out;have:=hc78.out;exact (if_neg (by omega)).trans ((if_neg (by omega)).trans ((if_neg (by omega)).trans (if_pos (by omega))))
    have EF:MFunc.fault m.length q1 x=(2,10000*(q1:Int)+9999):=by rw [MFunc.fault_eq,RC,if_neg (by omega)]
    exact ret_box 1 h96 hW95 rfl rfl rfl Tryz.underlying27 rfl infFault ⟨by show Ending.returned (.agg #[.int .i64 2,.int .i64 (10000*(q1:Int)+9999)])=_;rw [RM (by rw [EF];show _≠_;omega),EF],hW95.bel⟩
   have hc97:¬ (12<x.blocks.length):=by have:=of_decide_eq_false hb;omega
   clear hb
   refine wp_skip ?_
   refine hK79 _ _ ?_
   refine wp_seq_k fun K98 hK98=>?_
   refine wp_seq_k fun K99 hK99=>?_
   refine rg h90 fun ops=>?_;clear h90 a90
   refine sm trivial rfl rfl ?_
   refine seq trivial rfl rfl rfl ?_
   refine St.nil fun a100 h100=>?_
   refine hK99 _ _ ?_
   refine fr_cond (t:=81) h100 rfl (fun hb=>?_) (fun hb=>?_)
   ·have h9:q1=0:=by have h8:=eq_of_beq hb;omega
    have hc101:Hid (q1=0):=h9
    clear h9
    clear hb
    refine wp_seq_k fun K102 hK102=>?_
    refine fr_region ?_
    intro ops hops
    have hg3:(ops[3]?).bind (fun o:Oper=>o.dst)=some 85:=hops 3
    clear hops
    refine St.go h100 ?_;clear h100 a100
    refine sfFunc0 trivial rfl rfl ?_
    refine sbInt 0 hW68 trivial rfl rfl rfl rfl ?_
    refine seq trivial rfl rfl rfl ?_
    refine sm trivial rfl rfl ?_
    intro a103 h103
    rcases Bool.eq_false_or_eq_true (x.regs==0) with hb | hb
    ·rw [hb] at h103
     have h9:x.regs=0:=eq_of_beq hb
     have hc104:Hid (x.regs=0):=h9
     clear h9
     clear hb
     refine St.go h103 ?_;clear h103 a103
     refine sfFunc1 ⟨_,hg3,rfl,rfl⟩ rfl rfl ?_
     refine sbTypes 0 hW68 ⟨_,hg3,rfl,rfl⟩ rfl rfl rfl rfl ?_
     refine slTypes ⟨_,hg3,rfl,rfl⟩ rfl rfl ?_
     refine seq ⟨_,hg3,rfl,rfl⟩ rfl rfl rfl ?_
     refine sp trivial rfl rfl rfl ?_
     refine sa trivial rfl rfl ?_
     refine St.nil fun a105 h105=>?_
     refine hK102 _ _ ?_
     refine wp_seq_k fun K106 hK106=>?_
     refine wp_seq_k fun K107 hK107=>?_
     refine rg h105 fun ops=>?_;clear h105 a105
     refine sa trivial rfl rfl ?_
     refine St.nil fun a108 h108=>?_
     refine hK107 _ _ ?_
     refine wp_block ?_
     have eqv:plB x 0=((x.params.length:Int)==0):=by rw [plB_zero];simp [hc104.out]
     have hF109:=h108.cons (t:=7) (v:=.bool (plB x 0)) (by rw [h108.sl 7 _ rfl,eqv])
     clear eqv h108
     refine fr_loop (fun r a w'=>∃ q5:Nat,q5≤x.results.length∧r=x.results.length - q5∧Fr 129 a [(0,.agg #[.slice p m.length c]),(1,.pointer (some ⟨B2,0,none⟩)),(2,.pointer (some ⟨B3,0,none⟩)),(3,.int .i64 (q1:Int)),(4,.pointer (some ⟨B31,0,none⟩)),(5,.int .i64 (listC x.regs x.params)),(6,.int .i64 (listC x.regs x.results)),(7,.bool (plB x q5)),(8,.int .i64 (q5:Int))]∧Wd w w' [(B31,#[.int .i64 x.regs,.slice f1.pP x.params.length f1.cP,.slice f1.pR x.results.length f1.cR,.slice f1.pB x.blocks.length f1.cB],42),(B3,#[.int .i64 0,.int .i64 0],27),(B2,#[.slice p m.length c],25)]) (x.results.length) ⟨0,Nat.zero_le _,rfl,(hF109.keep (hF109.keep (hF109.keep (hF109.keep (hF109.keep (hF109.keep (hF109.keep (hF109.keep (hF109.keep hF109.nil (t:=8) rfl) (t:=7) rfl) (t:=6) rfl) (t:=5) rfl) (t:=4) rfl) (t:=3) rfl) (t:=2) rfl) (t:=1) rfl) (t:=0) rfl),hW68⟩ ?_
     clear hF109 hW68
     rintro r5 a110 w110 ⟨q5,hq5,hr5,hF110,hW110⟩ KL5 hKL5
     refine wp_seq_k fun K111 hK111=>?_
     refine wp_seq_k fun K112 hK112=>?_
     refine rg hF110 fun ops=>?_;clear hF110 a110
     refine sm trivial rfl rfl ?_
     refine sfFunc2 trivial rfl rfl ?_
     refine sbTypes 0 hW110 trivial rfl rfl rfl rfl ?_
     refine slTypes trivial rfl rfl ?_
     refine slt trivial rfl rfl rfl ?_
     refine St.nil fun a113 h113=>?_
     refine hK112 _ _ ?_
     refine fr_cond (t:=95) h113 rfl (fun hb=>?_) (fun hb=>?_)
     ·have hlt5:q5<x.results.length:=by have:=of_decide_eq_true hb;omega
      clear hb
      obtain ⟨t,hx5⟩:∃ v9,(x.results)[q5]?=some v9:=⟨_,List.getElem?_eq_getElem hlt5⟩
      obtain ⟨g5,o5,pt5,ct5,hp5,E5,In5⟩:=lin_at (types_lin In1.out.results).1 hx5
      replace In5:Hid _:=In5
      replace hp5:Hid _:=hp5
      replace hx5:Hid _:=hx5
      replace E5:Hid _:=E5
      refine wp_skip ?_
      refine hK111 _ _ ?_
      refine wp_seq_k fun K114 hK114=>?_
      refine wp_block ?_
      refine fr_region ?_
      intro ops hops
      have hg1:(ops[1]?).bind (fun o:Oper=>o.dst)=some 99:=hops 1
      clear hops
      refine St.go h113 ?_;clear h113 a113
      refine sm trivial rfl rfl ?_
      refine sm trivial rfl rfl ?_
      intro a115 h115
      rcases Bool.eq_false_or_eq_true (plB x q5) with hb | hb
      ·rw [hb] at h115
       have hc116:plB x q5=true:=hb
       replace hc116:Hid _:=hc116
       clear hb
       refine St.go h115 ?_;clear h115 a115
       refine sfFunc2 ⟨_,hg1,rfl,rfl⟩ rfl rfl ?_
       refine sbTypes 0 hW110 ⟨_,hg1,rfl,rfl⟩ rfl rfl rfl rfl ?_
       refine sm ⟨_,hg1,rfl,rfl⟩ rfl rfl ?_
       refine siTypes hp5.out hlt5 ⟨_,hg1,rfl,rfl⟩ rfl rfl rfl ?_
       refine sfType0 ⟨_,hg1,rfl,rfl⟩ rfl rfl ?_
       refine scInt (bel_cell hW110.bel (E5.out 0 _ rfl)) ⟨_,hg1,rfl,rfl⟩ rfl rfl ?_
       refine seq ⟨_,hg1,rfl,rfl⟩ rfl rfl rfl ?_
       refine sp trivial rfl rfl rfl ?_
       refine sa trivial rfl rfl ?_
       intro a117 h117
       have eqv:plB x (q5+1)=(t.kind==1):=by rw [plB_succ hx5.out,hc116.out];rfl
       have hF118:=h117.cons (t:=7) (v:=.bool (plB x (q5+1))) (by rw [h117.sl 7 _ rfl,eqv])
       clear eqv h117
       refine wpList_nil ?_
       refine hK114 _ _ ?_
       refine rg hF118 fun ops=>?_;clear hF118 a117
       refine sm trivial rfl rfl ?_
       refine sad (by omega) trivial rfl rfl rfl ?_
       refine sa trivial rfl rfl ?_
       refine St.nil fun a119 h119=>?_
       refine hKL5 _ _ (x.results.length - (q5+1)) (by omega) ⟨q5+1,by omega,rfl,(h119.keep (h119.keep (h119.keep (h119.keep (h119.keep (h119.keep (h119.keep (h119.keep (h119.keep h119.nil (t:=8) rfl) (t:=7) rfl) (t:=6) rfl) (t:=5) rfl) (t:=4) rfl) (t:=3) rfl) (t:=2) rfl) (t:=1) rfl) (t:=0) rfl),hW110⟩
      rw [hb] at h115
      have hc120:plB x q5=false:=hb
      replace hc120:Hid _:=hc120
      clear hb
      refine St.go h115 ?_;clear h115 a115
      refine so hg1 rfl rfl rfl rfl ?_
      refine so hg1 rfl rfl rfl rfl ?_
      refine so hg1 rfl rfl rfl rfl ?_
      refine so hg1 rfl rfl rfl rfl ?_
      refine so hg1 rfl rfl rfl rfl ?_
      refine so hg1 rfl rfl rfl rfl ?_
      refine so hg1 rfl rfl rfl rfl ?_
      refine spf trivial rfl rfl rfl ?_
      refine sa trivial rfl rfl ?_
      intro a121 h121
      have eqv:plB x (q5+1)=false:=by rw [plB_succ hx5.out,hc120.out];rfl
      have hF122:=h121.cons (t:=7) (v:=.bool (plB x (q5+1))) (by rw [h121.sl 7 _ rfl,eqv])
      clear eqv h121
      refine wpList_nil ?_
      refine hK114 _ _ ?_
      refine rg hF122 fun ops=>?_;clear hF122 a121
      refine sm trivial rfl rfl ?_
      refine sad (by omega) trivial rfl rfl rfl ?_
      refine sa trivial rfl rfl ?_
      refine St.nil fun a123 h123=>?_
      refine hKL5 _ _ (x.results.length - (q5+1)) (by omega) ⟨q5+1,by omega,rfl,(h123.keep (h123.keep (h123.keep (h123.keep (h123.keep (h123.keep (h123.keep (h123.keep (h123.keep h123.nil (t:=8) rfl) (t:=7) rfl) (t:=6) rfl) (t:=5) rfl) (t:=4) rfl) (t:=3) rfl) (t:=2) rfl) (t:=1) rfl) (t:=0) rfl),hW110⟩
     have hge5:q5=x.results.length:=by have:=of_decide_eq_false hb;omega
     clear hb
     refine wp_exit ?_
     refine hK106 _ _ ?_
     refine wp_seq_k fun K124 hK124=>?_
     refine rg h113 fun ops=>?_;clear h113 a113
     refine sm trivial rfl rfl ?_
     refine sn trivial rfl rfl ?_
     refine St.nil fun a125 h125=>?_
     refine hK124 _ _ ?_
     refine fr_cond (t:=109) h125 rfl (fun hb=>?_) (fun hb=>?_)
     ·have hb:(plB x q5)=false:=by simpa using hb
      have hc126:plB x q5=false:=hb
      replace hc126:Hid _:=hc126
      clear hb
      have hBG:¬ x.begins:=by rw [← plB_iff,← hge5];rw [hc126.out];decide
      refine wp_seq_k fun K127 hK127=>?_
      refine rg h125 fun ops=>?_;clear h125 a125
      refine sm trivial rfl rfl ?_
      refine sc_1 cf37 hW110 (atFunc_any (f:=q1) (by omega)) trivial rfl rfl ?_
      clear hW110;intro w128 hW128
      refine sc_2 cf36 hW128 (fF_any (xc:=18) (xp:=10000*(q1:Int)+9999)) trivial rfl rfl rfl ?_
      clear hW128;intro w129 hW129
      refine sT 1 hW129 rfl rfl infFault rfl rfl rfl ?_
      clear hW129;intro w130 hW130
      refine St.nil fun a131 h131=>?_
      refine hK127 _ _ ?_
      refine wp_ret ?_;with_reducible repeat first | refine of_then_ret ?_ | refine of_block_ret ?_
      have RM:(MFunc.fault m.length q1 x).1≠0→modFault m=MFunc.fault m.length q1 x:=fun hz=>(if_neg (by omega)).trans (by have h9:=firstF_eq (f:=fun f x=>MFunc.fault m.length f x) (j:=0) hx1.out (fun k y hk hy=>by rw [Nat.zero_add];exact hall1 k y hk hy) (by rw [Nat.zero_add];exact hz);rwa [Nat.zero_add] at h9)
      have RC:x.code q1=18:=by have:=hc65.out;have:=hc78.out;have:=hc101.out;have:=hc104.out;exact (if_neg (by omega)).trans ((if_neg (by omega)).trans ((if_neg (by omega)).trans ((if_neg (by omega)).trans (if_pos (⟨by omega,hBG⟩)))))
      have EF:MFunc.fault m.length q1 x=(18,10000*(q1:Int)+9999):=by rw [MFunc.fault_eq,RC,if_neg (by omega)]
      exact ret_box 1 h131 hW130 rfl rfl rfl Tryz.underlying27 rfl infFault ⟨by show Ending.returned (.agg #[.int .i64 18,.int .i64 (10000*(q1:Int)+9999)])=_;rw [RM (by rw [EF];show _≠_;omega),EF],hW130.bel⟩
     have hb:(plB x q5)=true:=by simpa using hb
     have hc132:plB x q5=true:=hb
     replace hc132:Hid _:=hc132
     clear hb
     have hBG:x.begins:=by rw [← plB_iff,← hge5];exact hc132.out
     refine wp_skip ?_
     refine hK98 _ _ ?_
     refine wp_seq_k fun K133 hK133=>?_
     refine rg h125 fun ops=>?_;clear h125 a125
     refine sa trivial rfl rfl ?_
     refine St.nil fun a134 h134=>?_
     refine hK133 _ _ ?_
     refine wp_block ?_
     refine fr_loop (fun r a w'=>∃ q2:Nat,q2≤x.blocks.length∧r=x.blocks.length - q2∧(∀ (j:Nat) z,j<q2→x.blocks[j]?=some z→(MBlock.fault m.length q1 x j z).1=0)∧Fr 129 a [(0,.agg #[.slice p m.length c]),(1,.pointer (some ⟨B2,0,none⟩)),(2,.pointer (some ⟨B3,0,none⟩)),(3,.int .i64 (q1:Int)),(4,.pointer (some ⟨B31,0,none⟩)),(5,.int .i64 (listC x.regs x.params)),(6,.int .i64 (listC x.regs x.results)),(7,.bool (plB x q5)),(8,.int .i64 (q5:Int)),(9,.int .i64 (q2:Int))]∧Wd w w' [(B31,#[.int .i64 x.regs,.slice f1.pP x.params.length f1.cP,.slice f1.pR x.results.length f1.cR,.slice f1.pB x.blocks.length f1.cB],42),(B3,#[.int .i64 0,.int .i64 0],27),(B2,#[.slice p m.length c],25)]) (x.blocks.length) ⟨0,Nat.zero_le _,rfl,(fun j z hj=>by omega),(h134.keep (h134.keep (h134.keep (h134.keep (h134.keep (h134.keep (h134.keep (h134.keep (h134.keep (h134.keep h134.nil (t:=9) rfl) (t:=8) rfl) (t:=7) rfl) (t:=6) rfl) (t:=5) rfl) (t:=4) rfl) (t:=3) rfl) (t:=2) rfl) (t:=1) rfl) (t:=0) rfl),hW110⟩ ?_
     clear h134 hW110
     rintro r2 a135 w135 ⟨q2,hq2,hr2,hall2,hF135,hW135⟩ KL2 hKL2
     refine wp_seq_k fun K136 hK136=>?_
     refine wp_seq_k fun K137 hK137=>?_
     refine rg hF135 fun ops=>?_;clear hF135 a135
     refine sm trivial rfl rfl ?_
     refine sfFunc3 trivial rfl rfl ?_
     refine sbBlocks 0 hW135 trivial rfl rfl rfl rfl ?_
     refine slBlocks trivial rfl rfl ?_
     refine slt trivial rfl rfl rfl ?_
     refine St.nil fun a138 h138=>?_
     refine hK137 _ _ ?_
     refine fr_cond (t:=117) h138 rfl (fun hb=>?_) (fun hb=>?_)
     ·have hlt2:q2<x.blocks.length:=by have:=of_decide_eq_true hb;omega
      clear hb
      obtain ⟨y,hx2⟩:∃ v9,(x.blocks)[q2]?=some v9:=⟨_,List.getElem?_eq_getElem hlt2⟩
      obtain ⟨g2,o2,b2,hp2,E2,In2⟩:=block_at In1.out.blocks hx2
      replace In2:Hid _:=In2
      replace hp2:Hid _:=hp2
      replace hx2:Hid _:=hx2
      replace E2:Hid _:=E2
      refine wp_skip ?_
      refine hK136 _ _ ?_
      refine wp_seq_k fun K139 hK139=>?_
      refine wp_block ?_
      refine wp_seq_k fun K140 hK140=>?_
      refine rg h138 fun ops=>?_;clear h138 a138
      refine sS 2 1 Tryz.underlying25 rfl infModule hW135 trivial rfl rfl rfl rfl ?_
      refine sm trivial rfl rfl ?_
      refine sm trivial rfl rfl ?_
      refine sc_3 cf39 hW135 (blockFault_any (c:=c) (Lay.below hm.out hW135.bel) hms.out hx1.out hx2.out) trivial rfl rfl rfl rfl ?_
      clear hW135;intro w141 hW141
      refine sAFault hW141 trivial rfl ?_
      clear hW141;intro w142 B142 hW142 hN;clear hN
      refine sT 0 hW142 rfl rfl infFault rfl rfl rfl ?_
      clear hW142;intro w143 hW143
      refine St.nil fun a144 h144=>?_
      refine hK140 _ _ ?_
      refine wp_seq_k fun K145 hK145=>?_
      refine rg h144 fun ops=>?_;clear h144 a144
      refine sfFault0 trivial rfl rfl ?_
      refine sbInt 0 hW143 trivial rfl rfl rfl rfl ?_
      refine sne trivial rfl rfl rfl ?_
      refine St.nil fun a146 h146=>?_
      refine hK145 _ _ ?_
      refine fr_cond (t:=126) h146 rfl (fun hb=>?_) (fun hb=>?_)
      ·have h9:¬ ((MBlock.fault m.length q1 x q2 y).1)=0:=bne_iff_ne.1 hb
       have hc147:¬ ((MBlock.fault m.length q1 x q2 y).1)=0:=h9
       clear h9
       clear hb
       refine wp_seq_k fun K148 hK148=>?_
       refine rg h146 fun ops=>?_;clear h146 a146
       refine sS 0 2 Tryz.underlying27 rfl infFault hW143 trivial rfl rfl rfl rfl ?_
       refine sT 2 hW143 rfl rfl infFault rfl rfl rfl ?_
       clear hW143;intro w149 hW149
       refine St.nil fun a150 h150=>?_
       refine hK148 _ _ ?_
       refine wp_ret ?_;with_reducible repeat first | refine of_then_ret ?_ | refine of_block_ret ?_
       have RM:(MFunc.fault m.length q1 x).1≠0→modFault m=MFunc.fault m.length q1 x:=fun hz=>(if_neg (by omega)).trans (by have h9:=firstF_eq (f:=fun f x=>MFunc.fault m.length f x) (j:=0) hx1.out (fun k y hk hy=>by rw [Nat.zero_add];exact hall1 k y hk hy) (by rw [Nat.zero_add];exact hz);rwa [Nat.zero_add] at h9)
       have RC:x.code q1=0:=by have:=hc65.out;have:=hc78.out;have:=hc101.out;have:=hc104.out;exact (if_neg (by omega)).trans ((if_neg (by omega)).trans ((if_neg (by omega)).trans ((if_neg (by omega)).trans ((if_neg (fun h9=>h9.2 hBG)).trans (rfl)))))
       have EF:MFunc.fault m.length q1 x=MBlock.fault m.length q1 x q2 y:=by
         rw [MFunc.fault_eq,if_pos RC]
         have h9:=firstF_eq (f:=fun b y=>MBlock.fault m.length q1 x b y) (j:=0) hx2.out (fun k y hk hy=>by rw [Nat.zero_add];exact hall2 k y hk hy) (by rw [Nat.zero_add];exact hc147)
         rwa [Nat.zero_add] at h9
       exact ret_box 2 h150 hW149 rfl rfl rfl Tryz.underlying27 rfl infFault ⟨by show Ending.returned (.agg #[.int .i64 ((MBlock.fault m.length q1 x q2 y).1),.int .i64 ((MBlock.fault m.length q1 x q2 y).2)])=_;rw [RM (by rw [EF];exact hc147),EF],hW149.bel⟩
      have h9:((MBlock.fault m.length q1 x q2 y).1)=0:=bne_eq_false_iff_eq.1 hb
      have hc151:Hid (((MBlock.fault m.length q1 x q2 y).1)=0):=h9
      clear h9
      clear hb
      refine wp_skip ?_
      refine hK139 _ _ ?_
      refine rg h146 fun ops=>?_;clear h146 a146
      refine sm trivial rfl rfl ?_
      refine sad (by omega) trivial rfl rfl rfl ?_
      refine sa trivial rfl rfl ?_
      refine St.nil fun a152 h152=>?_
      refine hKL2 _ _ (x.blocks.length - (q2+1)) (by omega) ⟨q2+1,by omega,rfl,?_,(h152.keep (h152.keep (h152.keep (h152.keep (h152.keep (h152.keep (h152.keep (h152.keep (h152.keep (h152.keep h152.nil (t:=9) rfl) (t:=8) rfl) (t:=7) rfl) (t:=6) rfl) (t:=5) rfl) (t:=4) rfl) (t:=3) rfl) (t:=2) rfl) (t:=1) rfl) (t:=0) rfl),hW143.tail⟩
      ·intro j z hj hz
       by_cases e:j=q2
       · subst e;rw [hx2.out] at hz;cases hz;exact hc151.out
       · exact hall2 j z (by omega) hz
     have hge2:q2=x.blocks.length:=by have:=of_decide_eq_false hb;omega
     clear hb
     have RC:x.code q1=0:=by have:=hc65.out;have:=hc78.out;have:=hc101.out;have:=hc104.out;exact (if_neg (by omega)).trans ((if_neg (by omega)).trans ((if_neg (by omega)).trans ((if_neg (by omega)).trans ((if_neg (fun h9=>h9.2 hBG)).trans (rfl)))))
     have NZ1:(MFunc.fault m.length q1 x).1=0:=by
       rw [MFunc.fault_eq,if_pos RC,firstF_zero (fun k y hy=>by rw [Nat.zero_add];exact hall2 k y (by have:=(List.getElem?_eq_some_iff.1 hy).1;omega) hy)]
     refine wp_exit ?_
     refine hK29 _ _ ?_
     refine rg h138 fun ops=>?_;clear h138 a138
     refine sm trivial rfl rfl ?_
     refine sad (by omega) trivial rfl rfl rfl ?_
     refine sa trivial rfl rfl ?_
     refine St.nil fun a153 h153=>?_
     refine hKL1 _ _ (m.length - (q1+1)) (by omega) ⟨q1+1,by omega,rfl,?_,(h153.keep (h153.keep (h153.keep (h153.keep h153.nil (t:=3) rfl) (t:=2) rfl) (t:=1) rfl) (t:=0) rfl),hW135.tail⟩
     ·intro j z hj hz
      by_cases e:j=q1
      · subst e;rw [hx1.out] at hz;cases hz;exact NZ1
      · exact hall1 j z (by omega) hz
    rw [hb] at h103
    have h9:¬ x.regs=0:=ne_of_beq_false hb
    have hc154:¬ x.regs=0:=h9
    clear h9
    clear hb
    refine St.go h103 ?_;clear h103 a103
    refine so hg3 rfl rfl rfl rfl ?_
    refine so hg3 rfl rfl rfl rfl ?_
    refine so hg3 rfl rfl rfl rfl ?_
    refine so hg3 rfl rfl rfl rfl ?_
    refine spf trivial rfl rfl rfl ?_
    refine sa trivial rfl rfl ?_
    refine St.nil fun a155 h155=>?_
    refine hK102 _ _ ?_
    refine wp_seq_k fun K156 hK156=>?_
    refine wp_seq_k fun K157 hK157=>?_
    refine rg h155 fun ops=>?_;clear h155 a155
    refine sa trivial rfl rfl ?_
    refine St.nil fun a158 h158=>?_
    refine hK157 _ _ ?_
    refine wp_block ?_
    have eqv:plB x 0=false:=by rw [plB_zero];simp [hc154]
    have hF159:=h158.cons (t:=7) (v:=.bool (plB x 0)) (by rw [h158.sl 7 _ rfl,eqv])
    clear eqv h158
    refine fr_loop (fun r a w'=>∃ q5:Nat,q5≤x.results.length∧r=x.results.length - q5∧Fr 129 a [(0,.agg #[.slice p m.length c]),(1,.pointer (some ⟨B2,0,none⟩)),(2,.pointer (some ⟨B3,0,none⟩)),(3,.int .i64 (q1:Int)),(4,.pointer (some ⟨B31,0,none⟩)),(5,.int .i64 (listC x.regs x.params)),(6,.int .i64 (listC x.regs x.results)),(7,.bool (plB x q5)),(8,.int .i64 (q5:Int))]∧Wd w w' [(B31,#[.int .i64 x.regs,.slice f1.pP x.params.length f1.cP,.slice f1.pR x.results.length f1.cR,.slice f1.pB x.blocks.length f1.cB],42),(B3,#[.int .i64 0,.int .i64 0],27),(B2,#[.slice p m.length c],25)]) (x.results.length) ⟨0,Nat.zero_le _,rfl,(hF159.keep (hF159.keep (hF159.keep (hF159.keep (hF159.keep (hF159.keep (hF159.keep (hF159.keep (hF159.keep hF159.nil (t:=8) rfl) (t:=7) rfl) (t:=6) rfl) (t:=5) rfl) (t:=4) rfl) (t:=3) rfl) (t:=2) rfl) (t:=1) rfl) (t:=0) rfl),hW68⟩ ?_
    clear hF159 hW68
    rintro r5 a160 w160 ⟨q5,hq5,hr5,hF160,hW160⟩ KL5 hKL5
    refine wp_seq_k fun K161 hK161=>?_
    refine wp_seq_k fun K162 hK162=>?_
    refine rg hF160 fun ops=>?_;clear hF160 a160
    refine sm trivial rfl rfl ?_
    refine sfFunc2 trivial rfl rfl ?_
    refine sbTypes 0 hW160 trivial rfl rfl rfl rfl ?_
    refine slTypes trivial rfl rfl ?_
    refine slt trivial rfl rfl rfl ?_
    refine St.nil fun a163 h163=>?_
    refine hK162 _ _ ?_
    refine fr_cond (t:=95) h163 rfl (fun hb=>?_) (fun hb=>?_)
    ·have hlt5:q5<x.results.length:=by have:=of_decide_eq_true hb;omega
     clear hb
     obtain ⟨t,hx5⟩:∃ v9,(x.results)[q5]?=some v9:=⟨_,List.getElem?_eq_getElem hlt5⟩
     obtain ⟨g5,o5,pt5,ct5,hp5,E5,In5⟩:=lin_at (types_lin In1.out.results).1 hx5
     replace In5:Hid _:=In5
     replace hp5:Hid _:=hp5
     replace hx5:Hid _:=hx5
     replace E5:Hid _:=E5
     refine wp_skip ?_
     refine hK161 _ _ ?_
     refine wp_seq_k fun K164 hK164=>?_
     refine wp_block ?_
     refine fr_region ?_
     intro ops hops
     have hg1:(ops[1]?).bind (fun o:Oper=>o.dst)=some 99:=hops 1
     clear hops
     refine St.go h163 ?_;clear h163 a163
     refine sm trivial rfl rfl ?_
     refine sm trivial rfl rfl ?_
     intro a165 h165
     rcases Bool.eq_false_or_eq_true (plB x q5) with hb | hb
     ·rw [hb] at h165
      have hc166:plB x q5=true:=hb
      replace hc166:Hid _:=hc166
      clear hb
      refine St.go h165 ?_;clear h165 a165
      refine sfFunc2 ⟨_,hg1,rfl,rfl⟩ rfl rfl ?_
      refine sbTypes 0 hW160 ⟨_,hg1,rfl,rfl⟩ rfl rfl rfl rfl ?_
      refine sm ⟨_,hg1,rfl,rfl⟩ rfl rfl ?_
      refine siTypes hp5.out hlt5 ⟨_,hg1,rfl,rfl⟩ rfl rfl rfl ?_
      refine sfType0 ⟨_,hg1,rfl,rfl⟩ rfl rfl ?_
      refine scInt (bel_cell hW160.bel (E5.out 0 _ rfl)) ⟨_,hg1,rfl,rfl⟩ rfl rfl ?_
      refine seq ⟨_,hg1,rfl,rfl⟩ rfl rfl rfl ?_
      refine sp trivial rfl rfl rfl ?_
      refine sa trivial rfl rfl ?_
      intro a167 h167
      have eqv:plB x (q5+1)=(t.kind==1):=by rw [plB_succ hx5.out,hc166.out];rfl
      have hF168:=h167.cons (t:=7) (v:=.bool (plB x (q5+1))) (by rw [h167.sl 7 _ rfl,eqv])
      clear eqv h167
      refine wpList_nil ?_
      refine hK164 _ _ ?_
      refine rg hF168 fun ops=>?_;clear hF168 a167
      refine sm trivial rfl rfl ?_
      refine sad (by omega) trivial rfl rfl rfl ?_
      refine sa trivial rfl rfl ?_
      refine St.nil fun a169 h169=>?_
      refine hKL5 _ _ (x.results.length - (q5+1)) (by omega) ⟨q5+1,by omega,rfl,(h169.keep (h169.keep (h169.keep (h169.keep (h169.keep (h169.keep (h169.keep (h169.keep (h169.keep h169.nil (t:=8) rfl) (t:=7) rfl) (t:=6) rfl) (t:=5) rfl) (t:=4) rfl) (t:=3) rfl) (t:=2) rfl) (t:=1) rfl) (t:=0) rfl),hW160⟩
     rw [hb] at h165
     have hc170:plB x q5=false:=hb
     replace hc170:Hid _:=hc170
     clear hb
     refine St.go h165 ?_;clear h165 a165
     refine so hg1 rfl rfl rfl rfl ?_
     refine so hg1 rfl rfl rfl rfl ?_
     refine so hg1 rfl rfl rfl rfl ?_
     refine so hg1 rfl rfl rfl rfl ?_
     refine so hg1 rfl rfl rfl rfl ?_
     refine so hg1 rfl rfl rfl rfl ?_
     refine so hg1 rfl rfl rfl rfl ?_
     refine spf trivial rfl rfl rfl ?_
     refine sa trivial rfl rfl ?_
     intro a171 h171
     have eqv:plB x (q5+1)=false:=by rw [plB_succ hx5.out,hc170.out];rfl
     have hF172:=h171.cons (t:=7) (v:=.bool (plB x (q5+1))) (by rw [h171.sl 7 _ rfl,eqv])
     clear eqv h171
     refine wpList_nil ?_
     refine hK164 _ _ ?_
     refine rg hF172 fun ops=>?_;clear hF172 a171
     refine sm trivial rfl rfl ?_
     refine sad (by omega) trivial rfl rfl rfl ?_
     refine sa trivial rfl rfl ?_
     refine St.nil fun a173 h173=>?_
     refine hKL5 _ _ (x.results.length - (q5+1)) (by omega) ⟨q5+1,by omega,rfl,(h173.keep (h173.keep (h173.keep (h173.keep (h173.keep (h173.keep (h173.keep (h173.keep (h173.keep h173.nil (t:=8) rfl) (t:=7) rfl) (t:=6) rfl) (t:=5) rfl) (t:=4) rfl) (t:=3) rfl) (t:=2) rfl) (t:=1) rfl) (t:=0) rfl),hW160⟩
    have hge5:q5=x.results.length:=by have:=of_decide_eq_false hb;omega
    clear hb
    refine wp_exit ?_
    refine hK156 _ _ ?_
    refine wp_seq_k fun K174 hK174=>?_
    refine rg h163 fun ops=>?_;clear h163 a163
    refine sm trivial rfl rfl ?_
    refine sn trivial rfl rfl ?_
    refine St.nil fun a175 h175=>?_
    refine hK174 _ _ ?_
    refine fr_cond (t:=109) h175 rfl (fun hb=>?_) (fun hb=>?_)
    ·have hb:(plB x q5)=false:=by simpa using hb
     have hc176:plB x q5=false:=hb
     replace hc176:Hid _:=hc176
     clear hb
     have hBG:¬ x.begins:=by rw [← plB_iff,← hge5];rw [hc176.out];decide
     refine wp_seq_k fun K177 hK177=>?_
     refine rg h175 fun ops=>?_;clear h175 a175
     refine sm trivial rfl rfl ?_
     refine sc_1 cf37 hW160 (atFunc_any (f:=q1) (by omega)) trivial rfl rfl ?_
     clear hW160;intro w178 hW178
     refine sc_2 cf36 hW178 (fF_any (xc:=18) (xp:=10000*(q1:Int)+9999)) trivial rfl rfl rfl ?_
     clear hW178;intro w179 hW179
     refine sT 1 hW179 rfl rfl infFault rfl rfl rfl ?_
     clear hW179;intro w180 hW180
     refine St.nil fun a181 h181=>?_
     refine hK177 _ _ ?_
     refine wp_ret ?_;with_reducible repeat first | refine of_then_ret ?_ | refine of_block_ret ?_
     have RM:(MFunc.fault m.length q1 x).1≠0→modFault m=MFunc.fault m.length q1 x:=fun hz=>(if_neg (by omega)).trans (by have h9:=firstF_eq (f:=fun f x=>MFunc.fault m.length f x) (j:=0) hx1.out (fun k y hk hy=>by rw [Nat.zero_add];exact hall1 k y hk hy) (by rw [Nat.zero_add];exact hz);rwa [Nat.zero_add] at h9)
     have RC:x.code q1=18:=by have:=hc65.out;have:=hc78.out;have:=hc101.out;exact (if_neg (by omega)).trans ((if_neg (by omega)).trans ((if_neg (by omega)).trans ((if_neg (by omega)).trans (if_pos (⟨by omega,hBG⟩)))))
     have EF:MFunc.fault m.length q1 x=(18,10000*(q1:Int)+9999):=by rw [MFunc.fault_eq,RC,if_neg (by omega)]
     exact ret_box 1 h181 hW180 rfl rfl rfl Tryz.underlying27 rfl infFault ⟨by show Ending.returned (.agg #[.int .i64 18,.int .i64 (10000*(q1:Int)+9999)])=_;rw [RM (by rw [EF];show _≠_;omega),EF],hW180.bel⟩
    have hb:(plB x q5)=true:=by simpa using hb
    have hc182:plB x q5=true:=hb
    replace hc182:Hid _:=hc182
    clear hb
    have hBG:x.begins:=by rw [← plB_iff,← hge5];exact hc182.out
    refine wp_skip ?_
    refine hK98 _ _ ?_
    refine wp_seq_k fun K183 hK183=>?_
    refine rg h175 fun ops=>?_;clear h175 a175
    refine sa trivial rfl rfl ?_
    refine St.nil fun a184 h184=>?_
    refine hK183 _ _ ?_
    refine wp_block ?_
    refine fr_loop (fun r a w'=>∃ q2:Nat,q2≤x.blocks.length∧r=x.blocks.length - q2∧(∀ (j:Nat) z,j<q2→x.blocks[j]?=some z→(MBlock.fault m.length q1 x j z).1=0)∧Fr 129 a [(0,.agg #[.slice p m.length c]),(1,.pointer (some ⟨B2,0,none⟩)),(2,.pointer (some ⟨B3,0,none⟩)),(3,.int .i64 (q1:Int)),(4,.pointer (some ⟨B31,0,none⟩)),(5,.int .i64 (listC x.regs x.params)),(6,.int .i64 (listC x.regs x.results)),(7,.bool (plB x q5)),(8,.int .i64 (q5:Int)),(9,.int .i64 (q2:Int))]∧Wd w w' [(B31,#[.int .i64 x.regs,.slice f1.pP x.params.length f1.cP,.slice f1.pR x.results.length f1.cR,.slice f1.pB x.blocks.length f1.cB],42),(B3,#[.int .i64 0,.int .i64 0],27),(B2,#[.slice p m.length c],25)]) (x.blocks.length) ⟨0,Nat.zero_le _,rfl,(fun j z hj=>by omega),(h184.keep (h184.keep (h184.keep (h184.keep (h184.keep (h184.keep (h184.keep (h184.keep (h184.keep (h184.keep h184.nil (t:=9) rfl) (t:=8) rfl) (t:=7) rfl) (t:=6) rfl) (t:=5) rfl) (t:=4) rfl) (t:=3) rfl) (t:=2) rfl) (t:=1) rfl) (t:=0) rfl),hW160⟩ ?_
    clear h184 hW160
    rintro r2 a185 w185 ⟨q2,hq2,hr2,hall2,hF185,hW185⟩ KL2 hKL2
    refine wp_seq_k fun K186 hK186=>?_
    refine wp_seq_k fun K187 hK187=>?_
    refine rg hF185 fun ops=>?_;clear hF185 a185
    refine sm trivial rfl rfl ?_
    refine sfFunc3 trivial rfl rfl ?_
    refine sbBlocks 0 hW185 trivial rfl rfl rfl rfl ?_
    refine slBlocks trivial rfl rfl ?_
    refine slt trivial rfl rfl rfl ?_
    refine St.nil fun a188 h188=>?_
    refine hK187 _ _ ?_
    refine fr_cond (t:=117) h188 rfl (fun hb=>?_) (fun hb=>?_)
    ·have hlt2:q2<x.blocks.length:=by have:=of_decide_eq_true hb;omega
     clear hb
     obtain ⟨y,hx2⟩:∃ v9,(x.blocks)[q2]?=some v9:=⟨_,List.getElem?_eq_getElem hlt2⟩
     obtain ⟨g2,o2,b2,hp2,E2,In2⟩:=block_at In1.out.blocks hx2
     replace In2:Hid _:=In2
     replace hp2:Hid _:=hp2
     replace hx2:Hid _:=hx2
     replace E2:Hid _:=E2
     refine wp_skip ?_
     refine hK186 _ _ ?_
     refine wp_seq_k fun K189 hK189=>?_
     refine wp_block ?_
     refine wp_seq_k fun K190 hK190=>?_
     refine rg h188 fun ops=>?_;clear h188 a188
     refine sS 2 1 Tryz.underlying25 rfl infModule hW185 trivial rfl rfl rfl rfl ?_
     refine sm trivial rfl rfl ?_
     refine sm trivial rfl rfl ?_
     refine sc_3 cf39 hW185 (blockFault_any (c:=c) (Lay.below hm.out hW185.bel) hms.out hx1.out hx2.out) trivial rfl rfl rfl rfl ?_
     clear hW185;intro w191 hW191
     refine sAFault hW191 trivial rfl ?_
     clear hW191;intro w192 B192 hW192 hN;clear hN
     refine sT 0 hW192 rfl rfl infFault rfl rfl rfl ?_
     clear hW192;intro w193 hW193
     refine St.nil fun a194 h194=>?_
     refine hK190 _ _ ?_
     refine wp_seq_k fun K195 hK195=>?_
     refine rg h194 fun ops=>?_;clear h194 a194
     refine sfFault0 trivial rfl rfl ?_
     refine sbInt 0 hW193 trivial rfl rfl rfl rfl ?_
     refine sne trivial rfl rfl rfl ?_
     refine St.nil fun a196 h196=>?_
     refine hK195 _ _ ?_
     refine fr_cond (t:=126) h196 rfl (fun hb=>?_) (fun hb=>?_)
     ·have h9:¬ ((MBlock.fault m.length q1 x q2 y).1)=0:=bne_iff_ne.1 hb
      have hc197:¬ ((MBlock.fault m.length q1 x q2 y).1)=0:=h9
      clear h9
      clear hb
      refine wp_seq_k fun K198 hK198=>?_
      refine rg h196 fun ops=>?_;clear h196 a196
      refine sS 0 2 Tryz.underlying27 rfl infFault hW193 trivial rfl rfl rfl rfl ?_
      refine sT 2 hW193 rfl rfl infFault rfl rfl rfl ?_
      clear hW193;intro w199 hW199
      refine St.nil fun a200 h200=>?_
      refine hK198 _ _ ?_
      refine wp_ret ?_;with_reducible repeat first | refine of_then_ret ?_ | refine of_block_ret ?_
      have RM:(MFunc.fault m.length q1 x).1≠0→modFault m=MFunc.fault m.length q1 x:=fun hz=>(if_neg (by omega)).trans (by have h9:=firstF_eq (f:=fun f x=>MFunc.fault m.length f x) (j:=0) hx1.out (fun k y hk hy=>by rw [Nat.zero_add];exact hall1 k y hk hy) (by rw [Nat.zero_add];exact hz);rwa [Nat.zero_add] at h9)
      have RC:x.code q1=0:=by have:=hc65.out;have:=hc78.out;have:=hc101.out;exact (if_neg (by omega)).trans ((if_neg (by omega)).trans ((if_neg (by omega)).trans ((if_neg (by omega)).trans ((if_neg (fun h9=>h9.2 hBG)).trans (rfl)))))
      have EF:MFunc.fault m.length q1 x=MBlock.fault m.length q1 x q2 y:=by
        rw [MFunc.fault_eq,if_pos RC]
        have h9:=firstF_eq (f:=fun b y=>MBlock.fault m.length q1 x b y) (j:=0) hx2.out (fun k y hk hy=>by rw [Nat.zero_add];exact hall2 k y hk hy) (by rw [Nat.zero_add];exact hc197)
        rwa [Nat.zero_add] at h9
      exact ret_box 2 h200 hW199 rfl rfl rfl Tryz.underlying27 rfl infFault ⟨by show Ending.returned (.agg #[.int .i64 ((MBlock.fault m.length q1 x q2 y).1),.int .i64 ((MBlock.fault m.length q1 x q2 y).2)])=_;rw [RM (by rw [EF];exact hc197),EF],hW199.bel⟩
     have h9:((MBlock.fault m.length q1 x q2 y).1)=0:=bne_eq_false_iff_eq.1 hb
     have hc201:Hid (((MBlock.fault m.length q1 x q2 y).1)=0):=h9
     clear h9
     clear hb
     refine wp_skip ?_
     refine hK189 _ _ ?_
     refine rg h196 fun ops=>?_;clear h196 a196
     refine sm trivial rfl rfl ?_
     refine sad (by omega) trivial rfl rfl rfl ?_
     refine sa trivial rfl rfl ?_
     refine St.nil fun a202 h202=>?_
     refine hKL2 _ _ (x.blocks.length - (q2+1)) (by omega) ⟨q2+1,by omega,rfl,?_,(h202.keep (h202.keep (h202.keep (h202.keep (h202.keep (h202.keep (h202.keep (h202.keep (h202.keep (h202.keep h202.nil (t:=9) rfl) (t:=8) rfl) (t:=7) rfl) (t:=6) rfl) (t:=5) rfl) (t:=4) rfl) (t:=3) rfl) (t:=2) rfl) (t:=1) rfl) (t:=0) rfl),hW193.tail⟩
     ·intro j z hj hz
      by_cases e:j=q2
      · subst e;rw [hx2.out] at hz;cases hz;exact hc201.out
      · exact hall2 j z (by omega) hz
    have hge2:q2=x.blocks.length:=by have:=of_decide_eq_false hb;omega
    clear hb
    have RC:x.code q1=0:=by have:=hc65.out;have:=hc78.out;have:=hc101.out;exact (if_neg (by omega)).trans ((if_neg (by omega)).trans ((if_neg (by omega)).trans ((if_neg (by omega)).trans ((if_neg (fun h9=>h9.2 hBG)).trans (rfl)))))
    have NZ1:(MFunc.fault m.length q1 x).1=0:=by
      rw [MFunc.fault_eq,if_pos RC,firstF_zero (fun k y hy=>by rw [Nat.zero_add];exact hall2 k y (by have:=(List.getElem?_eq_some_iff.1 hy).1;omega) hy)]
    refine wp_exit ?_
    refine hK29 _ _ ?_
    refine rg h188 fun ops=>?_;clear h188 a188
    refine sm trivial rfl rfl ?_
    refine sad (by omega) trivial rfl rfl rfl ?_
    refine sa trivial rfl rfl ?_
    refine St.nil fun a203 h203=>?_
    refine hKL1 _ _ (m.length - (q1+1)) (by omega) ⟨q1+1,by omega,rfl,?_,(h203.keep (h203.keep (h203.keep (h203.keep h203.nil (t:=3) rfl) (t:=2) rfl) (t:=1) rfl) (t:=0) rfl),hW185.tail⟩
    ·intro j z hj hz
     by_cases e:j=q1
     · subst e;rw [hx1.out] at hz;cases hz;exact NZ1
     · exact hall1 j z (by omega) hz
   have h9:¬ q1=0:=by have h8:=ne_of_beq_false hb;omega
   have hc204:¬ q1=0:=h9
   clear h9
   clear hb
   refine wp_skip ?_
   refine hK98 _ _ ?_
   refine wp_seq_k fun K205 hK205=>?_
   refine rg h100 fun ops=>?_;clear h100 a100
   refine sa trivial rfl rfl ?_
   refine St.nil fun a206 h206=>?_
   refine hK205 _ _ ?_
   refine wp_block ?_
   refine fr_loop (fun r a w'=>∃ q2:Nat,q2≤x.blocks.length∧r=x.blocks.length - q2∧(∀ (j:Nat) z,j<q2→x.blocks[j]?=some z→(MBlock.fault m.length q1 x j z).1=0)∧Fr 129 a [(0,.agg #[.slice p m.length c]),(1,.pointer (some ⟨B2,0,none⟩)),(2,.pointer (some ⟨B3,0,none⟩)),(3,.int .i64 (q1:Int)),(4,.pointer (some ⟨B31,0,none⟩)),(5,.int .i64 (listC x.regs x.params)),(6,.int .i64 (listC x.regs x.results)),(9,.int .i64 (q2:Int))]∧Wd w w' [(B31,#[.int .i64 x.regs,.slice f1.pP x.params.length f1.cP,.slice f1.pR x.results.length f1.cR,.slice f1.pB x.blocks.length f1.cB],42),(B3,#[.int .i64 0,.int .i64 0],27),(B2,#[.slice p m.length c],25)]) (x.blocks.length) ⟨0,Nat.zero_le _,rfl,(fun j z hj=>by omega),(h206.keep (h206.keep (h206.keep (h206.keep (h206.keep (h206.keep (h206.keep (h206.keep h206.nil (t:=9) rfl) (t:=6) rfl) (t:=5) rfl) (t:=4) rfl) (t:=3) rfl) (t:=2) rfl) (t:=1) rfl) (t:=0) rfl),hW68⟩ ?_
   clear h206 hW68
   rintro r2 a207 w207 ⟨q2,hq2,hr2,hall2,hF207,hW207⟩ KL2 hKL2
   refine wp_seq_k fun K208 hK208=>?_
   refine wp_seq_k fun K209 hK209=>?_
   refine rg hF207 fun ops=>?_;clear hF207 a207
   refine sm trivial rfl rfl ?_
   refine sfFunc3 trivial rfl rfl ?_
   refine sbBlocks 0 hW207 trivial rfl rfl rfl rfl ?_
   refine slBlocks trivial rfl rfl ?_
   refine slt trivial rfl rfl rfl ?_
   refine St.nil fun a210 h210=>?_
   refine hK209 _ _ ?_
   refine fr_cond (t:=117) h210 rfl (fun hb=>?_) (fun hb=>?_)
   ·have hlt2:q2<x.blocks.length:=by have:=of_decide_eq_true hb;omega
    clear hb
    obtain ⟨y,hx2⟩:∃ v9,(x.blocks)[q2]?=some v9:=⟨_,List.getElem?_eq_getElem hlt2⟩
    obtain ⟨g2,o2,b2,hp2,E2,In2⟩:=block_at In1.out.blocks hx2
    replace In2:Hid _:=In2
    replace hp2:Hid _:=hp2
    replace hx2:Hid _:=hx2
    replace E2:Hid _:=E2
    refine wp_skip ?_
    refine hK208 _ _ ?_
    refine wp_seq_k fun K211 hK211=>?_
    refine wp_block ?_
    refine wp_seq_k fun K212 hK212=>?_
    refine rg h210 fun ops=>?_;clear h210 a210
    refine sS 2 1 Tryz.underlying25 rfl infModule hW207 trivial rfl rfl rfl rfl ?_
    refine sm trivial rfl rfl ?_
    refine sm trivial rfl rfl ?_
    refine sc_3 cf39 hW207 (blockFault_any (c:=c) (Lay.below hm.out hW207.bel) hms.out hx1.out hx2.out) trivial rfl rfl rfl rfl ?_
    clear hW207;intro w213 hW213
    refine sAFault hW213 trivial rfl ?_
    clear hW213;intro w214 B214 hW214 hN;clear hN
    refine sT 0 hW214 rfl rfl infFault rfl rfl rfl ?_
    clear hW214;intro w215 hW215
    refine St.nil fun a216 h216=>?_
    refine hK212 _ _ ?_
    refine wp_seq_k fun K217 hK217=>?_
    refine rg h216 fun ops=>?_;clear h216 a216
    refine sfFault0 trivial rfl rfl ?_
    refine sbInt 0 hW215 trivial rfl rfl rfl rfl ?_
    refine sne trivial rfl rfl rfl ?_
    refine St.nil fun a218 h218=>?_
    refine hK217 _ _ ?_
    refine fr_cond (t:=126) h218 rfl (fun hb=>?_) (fun hb=>?_)
    ·have h9:¬ ((MBlock.fault m.length q1 x q2 y).1)=0:=bne_iff_ne.1 hb
     have hc219:¬ ((MBlock.fault m.length q1 x q2 y).1)=0:=h9
     clear h9
     clear hb
     refine wp_seq_k fun K220 hK220=>?_
     refine rg h218 fun ops=>?_;clear h218 a218
     refine sS 0 2 Tryz.underlying27 rfl infFault hW215 trivial rfl rfl rfl rfl ?_
     refine sT 2 hW215 rfl rfl infFault rfl rfl rfl ?_
     clear hW215;intro w221 hW221
     refine St.nil fun a222 h222=>?_
     refine hK220 _ _ ?_
     refine wp_ret ?_;with_reducible repeat first | refine of_then_ret ?_ | refine of_block_ret ?_
     have RM:(MFunc.fault m.length q1 x).1≠0→modFault m=MFunc.fault m.length q1 x:=fun hz=>(if_neg (by omega)).trans (by have h9:=firstF_eq (f:=fun f x=>MFunc.fault m.length f x) (j:=0) hx1.out (fun k y hk hy=>by rw [Nat.zero_add];exact hall1 k y hk hy) (by rw [Nat.zero_add];exact hz);rwa [Nat.zero_add] at h9)
     have RC:x.code q1=0:=by have:=hc65.out;have:=hc78.out;exact (if_neg (by omega)).trans ((if_neg (by omega)).trans ((if_neg (by omega)).trans ((if_neg (by omega)).trans ((if_neg (by omega)).trans (rfl)))))
     have EF:MFunc.fault m.length q1 x=MBlock.fault m.length q1 x q2 y:=by
       rw [MFunc.fault_eq,if_pos RC]
       have h9:=firstF_eq (f:=fun b y=>MBlock.fault m.length q1 x b y) (j:=0) hx2.out (fun k y hk hy=>by rw [Nat.zero_add];exact hall2 k y hk hy) (by rw [Nat.zero_add];exact hc219)
       rwa [Nat.zero_add] at h9
     exact ret_box 2 h222 hW221 rfl rfl rfl Tryz.underlying27 rfl infFault ⟨by show Ending.returned (.agg #[.int .i64 ((MBlock.fault m.length q1 x q2 y).1),.int .i64 ((MBlock.fault m.length q1 x q2 y).2)])=_;rw [RM (by rw [EF];exact hc219),EF],hW221.bel⟩
    have h9:((MBlock.fault m.length q1 x q2 y).1)=0:=bne_eq_false_iff_eq.1 hb
    have hc223:Hid (((MBlock.fault m.length q1 x q2 y).1)=0):=h9
    clear h9
    clear hb
    refine wp_skip ?_
    refine hK211 _ _ ?_
    refine rg h218 fun ops=>?_;clear h218 a218
    refine sm trivial rfl rfl ?_
    refine sad (by omega) trivial rfl rfl rfl ?_
    refine sa trivial rfl rfl ?_
    refine St.nil fun a224 h224=>?_
    refine hKL2 _ _ (x.blocks.length - (q2+1)) (by omega) ⟨q2+1,by omega,rfl,?_,(h224.keep (h224.keep (h224.keep (h224.keep (h224.keep (h224.keep (h224.keep (h224.keep h224.nil (t:=9) rfl) (t:=6) rfl) (t:=5) rfl) (t:=4) rfl) (t:=3) rfl) (t:=2) rfl) (t:=1) rfl) (t:=0) rfl),hW215.tail⟩
    ·intro j z hj hz
     by_cases e:j=q2
     · subst e;rw [hx2.out] at hz;cases hz;exact hc223.out
     · exact hall2 j z (by omega) hz
   have hge2:q2=x.blocks.length:=by have:=of_decide_eq_false hb;omega
   clear hb
   have RC:x.code q1=0:=by have:=hc65.out;have:=hc78.out;exact (if_neg (by omega)).trans ((if_neg (by omega)).trans ((if_neg (by omega)).trans ((if_neg (by omega)).trans ((if_neg (by omega)).trans (rfl)))))
   have NZ1:(MFunc.fault m.length q1 x).1=0:=by
     rw [MFunc.fault_eq,if_pos RC,firstF_zero (fun k y hy=>by rw [Nat.zero_add];exact hall2 k y (by have:=(List.getElem?_eq_some_iff.1 hy).1;omega) hy)]
   refine wp_exit ?_
   refine hK29 _ _ ?_
   refine rg h210 fun ops=>?_;clear h210 a210
   refine sm trivial rfl rfl ?_
   refine sad (by omega) trivial rfl rfl rfl ?_
   refine sa trivial rfl rfl ?_
   refine St.nil fun a225 h225=>?_
   refine hKL1 _ _ (m.length - (q1+1)) (by omega) ⟨q1+1,by omega,rfl,?_,(h225.keep (h225.keep (h225.keep (h225.keep h225.nil (t:=3) rfl) (t:=2) rfl) (t:=1) rfl) (t:=0) rfl),hW207.tail⟩
   ·intro j z hj hz
    by_cases e:j=q1
    · subst e;rw [hx1.out] at hz;cases hz;exact NZ1
    · exact hall1 j z (by omega) hz
  have hge1:q1=m.length:=by have:=of_decide_eq_false hb;omega
  clear hb
  refine wp_exit ?_
  refine hK22 _ _ ?_
  refine wp_seq_k fun K226 hK226=>?_
  refine rg h28 fun ops=>?_;clear h28 a28
  intro a227 h227
  refine fr_pure (t:=128) (v:=.agg #[.int .i64 0,.int .i64 0]) (w':=w25) h227 rfl rfl rfl (fun K hK=>?_) ?_
  ·go_simp
   exact hK
  clear h227;intro a228 hF228
  refine St.go hF228 ?_;clear hF228 a228
  refine sT 0 hW25 rfl rfl infFault rfl rfl rfl ?_
  clear hW25;intro w229 hW229
  refine St.nil fun a230 h230=>?_
  refine hK226 _ _ ?_
  refine wp_ret ?_;with_reducible repeat first | refine of_then_ret ?_ | refine of_block_ret ?_
  have R:modFault m=(0,0):=(if_neg (by omega)).trans (firstF_zero (fun k x hx=>by rw [Nat.zero_add];exact hall1 k x (by have:=(List.getElem?_eq_some_iff.1 hx).1;omega) hx))
  exact ret_box 0 h230 hW229 rfl rfl rfl Tryz.underlying27 rfl infFault ⟨by show Ending.returned (.agg #[.int .i64 0,.int .i64 0])=_;rw [R],hW229.bel⟩
end Go.Proofs.YtalfbnllodhkiacGreatDoor
namespace Go.Proofs.YtalfbnllodhkiacGreatDoor
open Go.ChangeShapes Go.WideShapes Go.ChangeAt Go.RowKit Go.Shelf
set_option linter.unusedSimpArgs false
set_option linter.unusedVariables false
theorem allTk {α : Type} {f : α → Bool} {l : List α} {i : Nat} {x : α} (hx : l[i]? = some x) : (l.take (i + 1)).all f = ((l.take i).all f && f x) := by
  rw [List.take_add_one,hx,Option.toList_some,List.all_append]
  simp
theorem allNo {α : Type} {f : α → Bool} {l : List α} {x : α} (hx : x ∈ l) (h : f x = false) : l.all f = false := by
  rw [List.all_eq_false]
  exact ⟨x,hx,by simp [h]⟩
theorem small_new {wx : World} (l : List Int) (k : Nat) (hk : l.length = k) (hN : k ≤ 300) (hI : ∀ x ∈ l, -9223372036854775808 ≤ x ∧ x ≤ 9223372036854775807) (h : Nat) (hb : Blk wx h (l.map (fun x => Value.int .i64 x)).toArray 3) :
    Calls Tryz.prog 48 #[.slice (some ⟨h,0,none⟩) k k] wx fun e w'=>e=.returned (.bool (l.all numB))∧Below wx.heap.size wx w':=by
  subst hk
  exact small_any l _ _ wx (ints_blk hb hI _) hN
theorem printed_any {n : Nat} {m : List (MFunc n)} {p : Option Addr} {c : Nat} {w : World} (hm0 : (modL n).In w All m [.slice p m.length c]) (hp0 : Pows w) (hg0 : ¬ greatMod m) :
    Calls Tryz.prog 21 #[.agg #[.slice p m.length c]] w (Prints w (printL m)):=by
  have M:Hid ((funcL n).list.In w All m [.slice p m.length c]):=hm0
  have G:Hid (∀ x∈m,x.small):=(msmall_of hg0).2
  have gl:m.length≤20:=Nat.le_of_not_lt fun x=>hg0 (.inl x)
  have CC:Hid (∀ wx,Below w.heap.size w wx→Calls Tryz.prog 16 #[.agg #[.slice p m.length c]] wx fun e w'=>e=.returned (.agg #[.int .i64 (modFault m).1,.int .i64 (modFault m).2])∧Below wx.heap.size wx w'):=fun wx hb=>codeFault_any (Lay.below hm0 hb) (msmall_of hg0)
  have CT:Hid ((modFault m).1=0→∀ wx,Below w.heap.size w wx→Calls Tryz.prog 49 #[.agg #[.slice p m.length c]] wx fun e w'=>e=.returned (.string (str (modTxt m)))∧Below wx.heap.size wx w'):=fun hz wx hb=>moduleText_any (Lay.below hm0 hb) (hp0.below hb) hg0 (mod_of hz)
  have LM:(modTxt m).length≤20000000000:=mod_len hm0 hg0
  have hres:Hid (printL m=if (modFault m).1≠0 then ([],(modFault m).1,(modFault m).2) else if modNums m=false then ([],8,-1) else if 40000<(modTxt m).length then ([],2,-1) else (modTxt m,0,0)):=rfl
  generalize printL m=res at hres ⊢
  generalize (modFault m).1=fc at CC CT hres
  generalize (modFault m).2=fa at CC hres
  generalize modTxt m=t at CT LM hres
  have X1:Blk ((w.alloc (.cells #[.slice p m.length c] 25)).alloc (.cells #[.int .i64 0,.int .i64 0] 27)) w.heap.size #[.slice p m.length c] 25:=Blk.new1 _ _ _ _ _
  have X2:Blk ((w.alloc (.cells #[.slice p m.length c] 25)).alloc (.cells #[.int .i64 0,.int .i64 0] 27)) (w.heap.size+1) #[.int .i64 0,.int .i64 0] 27:=Blk.new2 _ _ _ _
  have B1:Hid (Below w.heap.size w ((w.alloc (.cells #[.slice p m.length c] 25)).alloc (.cells #[.int .i64 0,.int .i64 0] 27))):=bel2 _ _ _
  clear hm0 hp0 hg0
  go_enter Tryz.func21,Tryz.ntmps21
  go_wp2_with fail
  generalize ((w.alloc (.cells #[.slice p m.length c] 25)).alloc (.cells #[.int .i64 0,.int .i64 0] 27))=w1 at X1 X2 B1 ⊢
  refine (CC.out _ B1.out).mono ?_
  rintro e w2 ⟨rfl,b2⟩
  have n2:¬ w2.heap.size=w.heap.size+1:=by have h1:=b2.size;have h2:=lt_of_block X2;omega
  have b3:Below w1.heap.size w1 (w2.alloc (.cells #[.int .i64 fc,.int .i64 fa] 27)):=b2.trans ((bel1 _ _).mono b2.size)
  replace X1:=blk_on X1 b3
  replace X2:=blk_on X2 b3
  have B3:Hid (Below w.heap.size w (w2.alloc (.cells #[.int .i64 fc,.int .i64 fa] 27))):=B1.out.trans (b3.mono B1.out.size)
  have Y3:=Blk.new w2 #[.int .i64 fc,.int .i64 fa] 27
  clear b2 b3 B1 CC
  by_cases hc:fc=0
  rotate_left
  · have RR:Hid (PrintV res=.tuple #[.string ⟨#[]⟩,.agg #[.int .i64 fc,.int .i64 fa]]):=by show _=_;rw [hres.out,if_pos hc];rfl
    have hne:(fc==0)=false:=by simpa using hc
    clear CT hres M G
    go_upto_region 3 with fail
    generalize w2.alloc (.cells #[.int .i64 fc,.int .i64 fa] 27)=w3 at X1 X2 Y3 B3 ⊢
    generalize w2.heap.size=Y at n2 Y3 ⊢
    obtain ⟨e0,e1,f0,f1,l2⟩:=blk_facts X2
    obtain ⟨g0,g1,-,-,l3⟩:=blk_facts Y3
    have X8:=stored (.int .i64 fc) (.int .i64 fa) X2
    have B8:Hid (Below w.heap.size w ((w3.setCell ⟨w.heap.size+1,0,none⟩ (.int .i64 fc)).setCell ⟨w.heap.size+1,1,none⟩ (.int .i64 fa)).drew):=(storedB _ _ (Nat.le_succ _) B3.out).drew
    go_region
    clear g0 g1 e0 e1 f0 f1
    replace X8:Blk ((w3.setCell ⟨w.heap.size+1,0,none⟩ (.int .i64 fc)).setCell ⟨w.heap.size+1,1,none⟩ (.int .i64 fa)).drew (w.heap.size+1) #[.int .i64 fc,.int .i64 fa] 27:=X8
    generalize ((w3.setCell ⟨w.heap.size+1,0,none⟩ (.int .i64 fc)).setCell ⟨w.heap.size+1,1,none⟩ (.int .i64 fa)).drew=w9 at X8 B8 ⊢
    have y0:=cellOf X8 0 _ rfl
    have y1:=cellOf X8 1 _ rfl
    go_wp2
    exact bodyPost_ret (v:=.tuple #[.string ⟨#[]⟩,.agg #[.int .i64 fc,.int .i64 fa]]) (by simp [results,Tryz.results21,go_sem,y0,y1]) rfl ⟨by rw [RR.out],B8.out⟩
  replace CT:Hid (∀ wx,Below w.heap.size w wx→Calls Tryz.prog 49 #[.agg #[.slice p m.length c]] wx fun e w'=>e=.returned (.string (str t))∧Below wx.heap.size wx w'):=CT.out hc
  replace hres:Hid (res=if modNums m=false then ([],8,-1) else if 40000<t.length then ([],2,-1) else (t,0,0)):=by show _=_;rw [hres.out,if_neg (by simp [hc])]
  subst hc
  have H1:Hid (Blk (w2.alloc (.cells #[.int .i64 0,.int .i64 fa] 27)) w.heap.size #[.slice p m.length c] 25):=X1
  have H2:Hid (Blk (w2.alloc (.cells #[.int .i64 0,.int .i64 fa] 27)) (w.heap.size+1) #[.int .i64 0,.int .i64 0] 27):=X2
  clear X1 X2 Y3 n2
  go_wp2_with fail
  generalize w2.alloc (.cells #[.int .i64 0,.int .i64 fa] 27)=w3 at H1 H2 B3 ⊢
  generalize w2.heap.size=Yb
  go_loopw [5] (fun i wr=>∃ q:Nat,q≤m.length∧i=.int .i64 q∧(m.take q).all MFunc.nums=true∧Below w3.heap.size w3 wr) (fun i _=>m.length - (intOf i).toNat)
  case atStart=>exact ⟨0,Nat.zero_le _,rfl,rfl,Below.refl _ _⟩
  case round =>
    obtain ⟨q,hq,rfl,hA,hbl⟩:=hrel
    obtain ⟨wf,hv1⟩:∃ wf,wf=wr:=⟨_,rfl⟩
    subst hv1
    have A1:Hid ((m.take q).all MFunc.nums=true):=hA
    have W1:Hid (Below w3.heap.size w3 wf):=hbl
    clear hA hbl
    have c0:=cellOf (blk_on H1.out W1.out) 0 _ rfl
    by_cases hlt:q<m.length
    rotate_left
    · have hk1:¬ (q:Int)<m.length:=by omega
      have NM:Hid (modNums m=true):=by
        have e:m.take q=m:=List.take_of_length_le (by omega)
        have:=A1.out
        rw [e] at this
        exact this
      have hr:Hid (res=if 40000<t.length then ([],2,-1) else (t,0,0)):=by show _=_;rw [hres.out,if_neg (by rw [NM.out];simp)]
      have X9:=blk_on H2.out W1.out
      have B4:Hid (Below w.heap.size w wf):=B3.out.trans (W1.out.mono B3.out.size)
      clear hres A1
      go_wp2_with fail
      refine (CT.out _ B4.out).mono ?_
      rintro e w5 ⟨rfl,b5⟩
      replace X9:=blk_on X9 b5
      have B5:Hid (Below w.heap.size w w5):=B4.out.trans (b5.mono B4.out.size)
      clear b5 B4 CT c0
      obtain ⟨e0,e1,f0,f1,l2⟩:=blk_facts X9
      have hz:(str t).size=t.length:=str_size t
      by_cases h4:40000<t.length
      · have RR:Hid (PrintV res=.tuple #[.string ⟨#[]⟩,.agg #[.int .i64 2,.int .i64 (-1)]]):=by show _=_;rw [hr.out,if_pos h4];rfl
        have h5:(40000:Int)<t.length:=by omega
        go_wp2_with fail
        refine (fF_any (xc:=2) (xp:=-1)).mono ?_
        rintro e w6 ⟨rfl,b6⟩
        replace X9:=blk_on X9 b6
        have B6:Hid (Below w.heap.size w w6):=B5.out.trans (b6.mono B5.out.size)
        clear b6 B5 e0 e1 f0 f1 l2
        obtain ⟨e0,e1,f0,f1,l2⟩:=blk_facts X9
        have X8:=stored (.int .i64 2) (.int .i64 (-1)) X9
        have B8:Hid (Below w.heap.size w ((w6.setCell ⟨w.heap.size+1,0,none⟩ (.int .i64 2)).setCell ⟨w.heap.size+1,1,none⟩ (.int .i64 (-1)))):=storedB _ _ (Nat.le_succ _) B6.out
        go_wp2
        generalize (w6.setCell ⟨w.heap.size+1,0,none⟩ (.int .i64 2)).setCell ⟨w.heap.size+1,1,none⟩ (.int .i64 (-1))=w9 at X8 B8 ⊢
        have y0:=cellOf X8 0 _ rfl
        have y1:=cellOf X8 1 _ rfl
        exact bodyPost_ret (v:=.tuple #[.string ⟨#[]⟩,.agg #[.int .i64 2,.int .i64 (-1)]]) (by simp [results,Tryz.results21,go_sem,y0,y1]) rfl ⟨by rw [RR.out],B8.out⟩
      · have RR:Hid (PrintV res=.tuple #[.string (str t),.agg #[.int .i64 0,.int .i64 0]]):=by show _=_;rw [hr.out,if_neg h4];rfl
        have h5:¬ (40000:Int)<t.length:=by omega
        have X8:=stored (.int .i64 0) (.int .i64 0) X9
        have B8:Hid (Below w.heap.size w ((w5.setCell ⟨w.heap.size+1,0,none⟩ (.int .i64 0)).setCell ⟨w.heap.size+1,1,none⟩ (.int .i64 0))):=storedB _ _ (Nat.le_succ _) B5.out
        go_wp2
        generalize (w5.setCell ⟨w.heap.size+1,0,none⟩ (.int .i64 0)).setCell ⟨w.heap.size+1,1,none⟩ (.int .i64 0)=w9 at X8 B8 ⊢
        have y0:=cellOf X8 0 _ rfl
        have y1:=cellOf X8 1 _ rfl
        exact bodyPost_ret (v:=.tuple #[.string (str t),.agg #[.int .i64 0,.int .i64 0]]) (by simp [results,Tryz.results21,go_sem,y0,y1]) rfl ⟨by rw [RR.out],B8.out⟩
    have hx0:m[q]?=some m[q]:=List.getElem?_eq_getElem hlt
    generalize m[q]=x at hx0
    have hx:Hid (m[q]?=some x):=hx0
    clear hx0
    have A2:Hid ((m.take (q+1)).all MFunc.nums=MFunc.nums x):=by show _=_;rw [allTk hx.out,A1.out];simp
    have hk1:(q:Int)<m.length:=by omega
    have hk0:(0:Int)≤q:=by omega
    clear A1
    go_wp2_with fail
    clear c0
    go_loopw [6] (fun i wq=>∃ b:Nat,b≤x.blocks.length∧i=.int .i64 b∧(x.blocks.take b).all MBlock.nums=true∧Below wf.heap.size wf wq) (fun i _=>x.blocks.length - (intOf i).toNat)
    case atStart=>exact ⟨0,Nat.zero_le _,rfl,rfl,Below.refl _ _⟩
    case round =>
      obtain ⟨b,hb,rfl,hA,hbl⟩:=hrel
      have A3:Hid ((x.blocks.take b).all MBlock.nums=true):=hA
      have W2:Hid (Below w3.heap.size w3 wr):=W1.out.trans (hbl.mono W1.out.size)
      have W2r:Hid (Below wf.heap.size wf wr):=hbl
      clear hA hbl
      have c0:=cellOf (blk_on H1.out W2.out) 0 _ rfl
      obtain ⟨g,o,ds,rfl,_,hg,hc,hds⟩:=Lay.list_at (Lay.below M.out (B3.out.trans (W2.out.mono B3.out.size))) hx.out
      obtain ⟨a1,k1,a2,k2,a3,k3,rfl,-,-,u3,-⟩:=func_form hds
      have d3:=hc 3 (show 3<4 by omega)
      rw [show (funcL n).size=4 from rfl] at d3
      simp only [List.getElem?_cons_zero,List.getElem?_cons_succ] at d3
      have hmx:=List.mem_of_getElem? hx.out
      have gx:x.small:=G.out x hmx
      have gl2:x.blocks.length≤100000:=gx.1
      clear hc hds
      by_cases hlb:b<x.blocks.length
      rotate_left
      · have hk2:¬ (b:Int)<x.blocks.length:=by omega
        have NX:Hid ((m.take (q+1)).all MFunc.nums=true):=by
          have e:x.blocks.take b=x.blocks:=List.take_of_length_le (by omega)
          have:=A3.out
          rw [e] at this
          exact A2.out.trans this
        clear u3 gx hmx
        go_wp2
        go_roundw
        case rel=>exact ⟨q+1,by omega,by go_num,NX.out,W2.out⟩
        case measure=>simp [intOf];omega
      have hy:x.blocks[b]?=some x.blocks[b]:=List.getElem?_eq_getElem hlb
      obtain ⟨h,o2,dt,rfl,_,hh,hc,hdt⟩:=Lay.list_at u3 hy
      have hmy:=List.mem_of_getElem? hy
      generalize x.blocks[b]=y at hy hdt hmy
      obtain ⟨p1,j1,p2,j2,es,rfl,v1,v2,he,i4⟩:=block_form hdt
      obtain ⟨t1,t2,p3,j3,rfl,hy1,hy2,v3,i5,i6⟩:=end_form he
      obtain ⟨p4,j4,p5,j5,rfl,v4,v5,-⟩:=to_form hy1
      obtain ⟨p6,j6,p7,j7,rfl,v6,v7,-⟩:=to_form hy2
      clear he hy1 hy2
      simp only [List.cons_append,List.nil_append] at hc
      have e0:=hc 0 (show 0<12 by omega)
      have e1:=hc 1 (show 1<12 by omega)
      have e2:=hc 2 (show 2<12 by omega)
      have e3:=hc 3 (show 3<12 by omega)
      have e4:=hc 4 (show 4<12 by omega)
      have e5:=hc 5 (show 5<12 by omega)
      have e6:=hc 6 (show 6<12 by omega)
      have e7:=hc 7 (show 7<12 by omega)
      have e8:=hc 8 (show 8<12 by omega)
      have e9:=hc 9 (show 9<12 by omega)
      have e10:=hc 10 (show 10<12 by omega)
      have e11:=hc 11 (show 11<12 by omega)
      rw [show (blockL n).size=12 from rfl] at e0 e1 e2 e3 e4 e5 e6 e7 e8 e9 e10 e11
      simp only [List.getElem?_cons_zero,List.getElem?_cons_succ,Nat.add_zero] at e0 e1 e2 e3 e4 e5 e6 e7 e8 e9 e10 e11
      have hk2:(0:Int)≤b:=by omega
      have hk3:(b:Int)<x.blocks.length:=by omega
      have gy:y.small:=gx.2.2.2 y hmy
      have gl3:y.code.length≤100000:=gy.1
      have A4:Hid ((x.blocks.take (b+1)).all MBlock.nums=y.nums):=by show _=_;rw [allTk hy,A3.out];simp
      have NO:Hid (y.nums=false→res=([],8,-1)):=fun h=>by
        have:modNums m=false:=allNo hmx (allNo hmy h)
        rw [hres.out,if_pos this]
      have NY:Hid (y.nums=(y.code.all MIns.nums && (y.fin.args.all numB && ([y.fin.a].all numB && (y.fin.yes.regs.all numB && (y.fin.yes.args.all numB && (y.fin.no.regs.all numB && y.fin.no.args.all numB))))))):=by
        show _=_
        unfold MBlock.nums MEnd.nums MTo.nums
        generalize y.code.all MIns.nums=r0;generalize y.fin.args.all numB=r1;generalize [y.fin.a].all numB=r2;generalize y.fin.yes.regs.all numB=r3;generalize y.fin.yes.args.all numB=r4;generalize y.fin.no.regs.all numB=r5;generalize y.fin.no.args.all numB=r6
        revert r0 r1 r2 r3 r4 r5 r6;decide
      have bb1:Below wr.heap.size wr (wr.alloc (.cells #[.int .i64 y.regs,.slice p1 y.params.length j1,.slice p2 y.code.length j2,.int .i64 y.fin.op,.int .i64 y.fin.a,.int .i64 y.fin.yes.block,.slice p4 y.fin.yes.regs.length j4,.slice p5 y.fin.yes.args.length j5,.int .i64 y.fin.no.block,.slice p6 y.fin.no.regs.length j6,.slice p7 y.fin.no.args.length j7,.slice p3 y.fin.args.length j3] 52)):=bel1 _ _
      have S1:Hid (∀ wx,Below (wr.alloc (.cells #[.int .i64 y.regs,.slice p1 y.params.length j1,.slice p2 y.code.length j2,.int .i64 y.fin.op,.int .i64 y.fin.a,.int .i64 y.fin.yes.block,.slice p4 y.fin.yes.regs.length j4,.slice p5 y.fin.yes.args.length j5,.int .i64 y.fin.no.block,.slice p6 y.fin.no.regs.length j6,.slice p7 y.fin.no.args.length j7,.slice p3 y.fin.args.length j3] 52)).heap.size (wr.alloc (.cells #[.int .i64 y.regs,.slice p1 y.params.length j1,.slice p2 y.code.length j2,.int .i64 y.fin.op,.int .i64 y.fin.a,.int .i64 y.fin.yes.block,.slice p4 y.fin.yes.regs.length j4,.slice p5 y.fin.yes.args.length j5,.int .i64 y.fin.no.block,.slice p6 y.fin.no.regs.length j6,.slice p7 y.fin.no.args.length j7,.slice p3 y.fin.args.length j3] 52)) wx→Calls Tryz.prog 48 #[.slice p3 y.fin.args.length j3] wx fun e w'=>e=.returned (.bool (y.fin.args.all numB))∧Below wx.heap.size wx w'):=fun wx hb=>small_any _ _ _ wx (Lay.below (Lay.below v3 bb1) hb) gy.2.2.1.2.2
      have S2:Hid (∀ (h:Nat) (wx:World),Blk wx h #[.int .i64 y.fin.a] 3→Calls Tryz.prog 48 #[.slice (some ⟨h,0,none⟩) 1 1] wx fun e w'=>e=.returned (.bool ([y.fin.a].all numB))∧Below wx.heap.size wx w'):=fun h wx hB=>small_new [y.fin.a] 1 rfl (by decide) (fun x hx=>by simp at hx;subst hx;exact i6) h hB
      have S3:Hid (∀ wx,Below (wr.alloc (.cells #[.int .i64 y.regs,.slice p1 y.params.length j1,.slice p2 y.code.length j2,.int .i64 y.fin.op,.int .i64 y.fin.a,.int .i64 y.fin.yes.block,.slice p4 y.fin.yes.regs.length j4,.slice p5 y.fin.yes.args.length j5,.int .i64 y.fin.no.block,.slice p6 y.fin.no.regs.length j6,.slice p7 y.fin.no.args.length j7,.slice p3 y.fin.args.length j3] 52)).heap.size (wr.alloc (.cells #[.int .i64 y.regs,.slice p1 y.params.length j1,.slice p2 y.code.length j2,.int .i64 y.fin.op,.int .i64 y.fin.a,.int .i64 y.fin.yes.block,.slice p4 y.fin.yes.regs.length j4,.slice p5 y.fin.yes.args.length j5,.int .i64 y.fin.no.block,.slice p6 y.fin.no.regs.length j6,.slice p7 y.fin.no.args.length j7,.slice p3 y.fin.args.length j3] 52)) wx→Calls Tryz.prog 48 #[.slice p4 y.fin.yes.regs.length j4] wx fun e w'=>e=.returned (.bool (y.fin.yes.regs.all numB))∧Below wx.heap.size wx w'):=fun wx hb=>small_any _ _ _ wx (Lay.below (Lay.below v4 bb1) hb) gy.2.2.1.1.1
      have S4:Hid (∀ wx,Below (wr.alloc (.cells #[.int .i64 y.regs,.slice p1 y.params.length j1,.slice p2 y.code.length j2,.int .i64 y.fin.op,.int .i64 y.fin.a,.int .i64 y.fin.yes.block,.slice p4 y.fin.yes.regs.length j4,.slice p5 y.fin.yes.args.length j5,.int .i64 y.fin.no.block,.slice p6 y.fin.no.regs.length j6,.slice p7 y.fin.no.args.length j7,.slice p3 y.fin.args.length j3] 52)).heap.size (wr.alloc (.cells #[.int .i64 y.regs,.slice p1 y.params.length j1,.slice p2 y.code.length j2,.int .i64 y.fin.op,.int .i64 y.fin.a,.int .i64 y.fin.yes.block,.slice p4 y.fin.yes.regs.length j4,.slice p5 y.fin.yes.args.length j5,.int .i64 y.fin.no.block,.slice p6 y.fin.no.regs.length j6,.slice p7 y.fin.no.args.length j7,.slice p3 y.fin.args.length j3] 52)) wx→Calls Tryz.prog 48 #[.slice p5 y.fin.yes.args.length j5] wx fun e w'=>e=.returned (.bool (y.fin.yes.args.all numB))∧Below wx.heap.size wx w'):=fun wx hb=>small_any _ _ _ wx (Lay.below (Lay.below v5 bb1) hb) gy.2.2.1.1.2
      have S5:Hid (∀ wx,Below (wr.alloc (.cells #[.int .i64 y.regs,.slice p1 y.params.length j1,.slice p2 y.code.length j2,.int .i64 y.fin.op,.int .i64 y.fin.a,.int .i64 y.fin.yes.block,.slice p4 y.fin.yes.regs.length j4,.slice p5 y.fin.yes.args.length j5,.int .i64 y.fin.no.block,.slice p6 y.fin.no.regs.length j6,.slice p7 y.fin.no.args.length j7,.slice p3 y.fin.args.length j3] 52)).heap.size (wr.alloc (.cells #[.int .i64 y.regs,.slice p1 y.params.length j1,.slice p2 y.code.length j2,.int .i64 y.fin.op,.int .i64 y.fin.a,.int .i64 y.fin.yes.block,.slice p4 y.fin.yes.regs.length j4,.slice p5 y.fin.yes.args.length j5,.int .i64 y.fin.no.block,.slice p6 y.fin.no.regs.length j6,.slice p7 y.fin.no.args.length j7,.slice p3 y.fin.args.length j3] 52)) wx→Calls Tryz.prog 48 #[.slice p6 y.fin.no.regs.length j6] wx fun e w'=>e=.returned (.bool (y.fin.no.regs.all numB))∧Below wx.heap.size wx w'):=fun wx hb=>small_any _ _ _ wx (Lay.below (Lay.below v6 bb1) hb) gy.2.2.1.2.1.1
      have S6:Hid (∀ wx,Below (wr.alloc (.cells #[.int .i64 y.regs,.slice p1 y.params.length j1,.slice p2 y.code.length j2,.int .i64 y.fin.op,.int .i64 y.fin.a,.int .i64 y.fin.yes.block,.slice p4 y.fin.yes.regs.length j4,.slice p5 y.fin.yes.args.length j5,.int .i64 y.fin.no.block,.slice p6 y.fin.no.regs.length j6,.slice p7 y.fin.no.args.length j7,.slice p3 y.fin.args.length j3] 52)).heap.size (wr.alloc (.cells #[.int .i64 y.regs,.slice p1 y.params.length j1,.slice p2 y.code.length j2,.int .i64 y.fin.op,.int .i64 y.fin.a,.int .i64 y.fin.yes.block,.slice p4 y.fin.yes.regs.length j4,.slice p5 y.fin.yes.args.length j5,.int .i64 y.fin.no.block,.slice p6 y.fin.no.regs.length j6,.slice p7 y.fin.no.args.length j7,.slice p3 y.fin.args.length j3] 52)) wx→Calls Tryz.prog 48 #[.slice p7 y.fin.no.args.length j7] wx fun e w'=>e=.returned (.bool (y.fin.no.args.all numB))∧Below wx.heap.size wx w'):=fun wx hb=>small_any _ _ _ wx (Lay.below (Lay.below v7 bb1) hb) gy.2.2.1.2.1.2
      have V2:Hid (insL.list.In (wr.alloc (.cells #[.int .i64 y.regs,.slice p1 y.params.length j1,.slice p2 y.code.length j2,.int .i64 y.fin.op,.int .i64 y.fin.a,.int .i64 y.fin.yes.block,.slice p4 y.fin.yes.regs.length j4,.slice p5 y.fin.yes.args.length j5,.int .i64 y.fin.no.block,.slice p6 y.fin.no.regs.length j6,.slice p7 y.fin.no.args.length j7,.slice p3 y.fin.args.length j3] 52)) All y.code [.slice p2 y.code.length j2]):=Lay.below v2 bb1
      have GC:Hid (∀ z∈y.code,z.small):=gy.2.2.2
      have W3:Hid (Below w3.heap.size w3 (wr.alloc (.cells #[.int .i64 y.regs,.slice p1 y.params.length j1,.slice p2 y.code.length j2,.int .i64 y.fin.op,.int .i64 y.fin.a,.int .i64 y.fin.yes.block,.slice p4 y.fin.yes.regs.length j4,.slice p5 y.fin.yes.args.length j5,.int .i64 y.fin.no.block,.slice p6 y.fin.no.regs.length j6,.slice p7 y.fin.no.args.length j7,.slice p3 y.fin.args.length j3] 52))):=W2.out.trans (bb1.mono W2.out.size)
      have W3r:Hid (Below wf.heap.size wf (wr.alloc (.cells #[.int .i64 y.regs,.slice p1 y.params.length j1,.slice p2 y.code.length j2,.int .i64 y.fin.op,.int .i64 y.fin.a,.int .i64 y.fin.yes.block,.slice p4 y.fin.yes.regs.length j4,.slice p5 y.fin.yes.args.length j5,.int .i64 y.fin.no.block,.slice p6 y.fin.no.regs.length j6,.slice p7 y.fin.no.args.length j7,.slice p3 y.fin.args.length j3] 52))):=W2r.out.trans (bb1.mono W2r.out.size)
      have X3:Hid (Blk (wr.alloc (.cells #[.int .i64 y.regs,.slice p1 y.params.length j1,.slice p2 y.code.length j2,.int .i64 y.fin.op,.int .i64 y.fin.a,.int .i64 y.fin.yes.block,.slice p4 y.fin.yes.regs.length j4,.slice p5 y.fin.yes.args.length j5,.int .i64 y.fin.no.block,.slice p6 y.fin.no.regs.length j6,.slice p7 y.fin.no.args.length j7,.slice p3 y.fin.args.length j3] 52)) wr.heap.size #[.int .i64 y.regs,.slice p1 y.params.length j1,.slice p2 y.code.length j2,.int .i64 y.fin.op,.int .i64 y.fin.a,.int .i64 y.fin.yes.block,.slice p4 y.fin.yes.regs.length j4,.slice p5 y.fin.yes.args.length j5,.int .i64 y.fin.no.block,.slice p6 y.fin.no.regs.length j6,.slice p7 y.fin.no.args.length j7,.slice p3 y.fin.args.length j3] 52):=Blk.new _ _ _
      clear hc hdt hy hmy hmx gx v1 v2 v3 v4 v5 v6 v7 i4 i5 i6 gy bb1 u3 A2 A3 hres
      go_upto_region 11 with fail
      clear e0 e1 e2 e3 e4 e5 e6 e7 e8 e9 e10 e11 hh c0 d3 hg W2 W2r
      generalize wr.alloc (.cells #[.int .i64 y.regs,.slice p1 y.params.length j1,.slice p2 y.code.length j2,.int .i64 y.fin.op,.int .i64 y.fin.a,.int .i64 y.fin.yes.block,.slice p4 y.fin.yes.regs.length j4,.slice p5 y.fin.yes.args.length j5,.int .i64 y.fin.no.block,.slice p6 y.fin.no.regs.length j6,.slice p7 y.fin.no.args.length j7,.slice p3 y.fin.args.length j3] 52)=w4 at X3 V2 W3 W3r S1 S3 S4 S5 S6 ⊢
      generalize hHb:wr.heap.size=Hb at X3 ⊢
      clear hHb
      generalize y.fin.args.all numB=r1 at S1 NY ⊢
      generalize [y.fin.a].all numB=r2 at S2 NY ⊢
      generalize y.fin.yes.regs.all numB=r3 at S3 NY ⊢
      generalize y.fin.yes.args.all numB=r4 at S4 NY ⊢
      generalize y.fin.no.regs.all numB=r5 at S5 NY ⊢
      generalize y.fin.no.args.all numB=r6 at S6 NY ⊢
      generalize y.nums=yn at A4 NO NY ⊢
      generalize y.code=ys at V2 X3 GC NY gl3 ⊢
      generalize y.fin.op=jo at X3 ⊢
      generalize y.fin.a=ja at S2 X3 ⊢
      generalize y.regs=jr at X3 ⊢
      generalize y.params.length=n4 at X3 ⊢
      generalize y.fin.yes.block=q1 at X3 ⊢
      generalize y.fin.yes.regs.length=n6 at S3 X3 ⊢
      generalize y.fin.yes.args.length=n7 at S4 X3 ⊢
      generalize y.fin.no.block=q2 at X3 ⊢
      generalize y.fin.no.regs.length=n8 at S5 X3 ⊢
      generalize y.fin.no.args.length=n9 at S6 X3 ⊢
      generalize y.fin.args.length=n10 at S1 X3 ⊢
      go_cut [8] (fun v wx=>v=.bool (r1 && (r2 && (r3 && (r4 && (r5 && r6)))))∧Below w4.heap.size w4 wx)
      case first =>
        clear NY NO A4 GC V2
        have c11:=cellOf (blk_on X3.out (Below.refl w4.heap.size w4)) 11 _ rfl
        go_wp2_with fail
        refine (S1.out _ (Below.refl w4.heap.size w4)).mono ?_
        rintro e u1 ⟨rfl,b1⟩
        have K1:Hid (Below w4.heap.size w4 u1):=by have h1:=(Below.refl w4.heap.size w4);exact h1.trans (b1.mono h1.size)
        clear b1 c11
        cases r1 with
        | false =>
          go_wp2
          go_meet
          exact ⟨rfl,K1.out⟩
        | true =>
          have c4:=cellOf (blk_on X3.out K1.out) 4 _ rfl
          go_wp2_with fail
          refine (S2.out u1.heap.size (u1.alloc (.cells #[.int .i64 ja] 3)) (Blk.new _ _ _)).mono ?_
          rintro e u2 ⟨rfl,b2⟩
          have K2:Hid (Below w4.heap.size w4 u2):=by have h1:=K1.out;have h2:Below u1.heap.size u1 u2:=(bel1 _ _).trans (b2.mono (bel1 _ _).size);exact h1.trans (h2.mono h1.size)
          clear b2 c4
          cases r2 with
          | false =>
            go_wp2
            go_meet
            exact ⟨rfl,K2.out⟩
          | true =>
            have c6:=cellOf (blk_on X3.out K2.out) 6 _ rfl
            go_wp2_with fail
            refine (S3.out _ K2.out).mono ?_
            rintro e u3 ⟨rfl,b3⟩
            have K3:Hid (Below w4.heap.size w4 u3):=by have h1:=K2.out;exact h1.trans (b3.mono h1.size)
            clear b3 c6
            cases r3 with
            | false =>
              go_wp2
              go_meet
              exact ⟨rfl,K3.out⟩
            | true =>
              have c7:=cellOf (blk_on X3.out K3.out) 7 _ rfl
              go_wp2_with fail
              refine (S4.out _ K3.out).mono ?_
              rintro e u4 ⟨rfl,b4⟩
              have K4:Hid (Below w4.heap.size w4 u4):=by have h1:=K3.out;exact h1.trans (b4.mono h1.size)
              clear b4 c7
              cases r4 with
              | false =>
                go_wp2
                go_meet
                exact ⟨rfl,K4.out⟩
              | true =>
                have c9:=cellOf (blk_on X3.out K4.out) 9 _ rfl
                go_wp2_with fail
                refine (S5.out _ K4.out).mono ?_
                rintro e u5 ⟨rfl,b5⟩
                have K5:Hid (Below w4.heap.size w4 u5):=by have h1:=K4.out;exact h1.trans (b5.mono h1.size)
                clear b5 c9
                cases r5 with
                | false =>
                  go_wp2
                  go_meet
                  exact ⟨rfl,K5.out⟩
                | true =>
                  have c10:=cellOf (blk_on X3.out K5.out) 10 _ rfl
                  go_wp2_with fail
                  refine (S6.out _ K5.out).mono ?_
                  rintro e u6 ⟨rfl,b6⟩
                  have K6:Hid (Below w4.heap.size w4 u6):=by have h1:=K5.out;exact h1.trans (b6.mono h1.size)
                  clear b6 c10
                  go_wp2
                  go_meet
                  exact ⟨rfl,K6.out⟩
      case rest =>
        obtain ⟨rfl,hcw⟩:=hcut
        generalize (r1 && (r2 && (r3 && (r4 && (r5 && r6)))))=ef at NY ⊢
        have W4:Hid (Below w4.heap.size w4 wc):=hcw
        clear hcw S1 S2 S3 S4 S5 S6
        go_wp2_with fail
        go_loopw [8,9] (fun v i wq=>∃ j:Nat,j≤ys.length∧i=.int .i64 j∧v=.bool (ef && (ys.take j).all MIns.nums)∧Below wc.heap.size wc wq) (fun _ i _=>ys.length - (intOf i).toNat)
        case atStart=>exact ⟨0,Nat.zero_le _,rfl,by simp,Below.refl _ _⟩
        case round =>
          obtain ⟨j,hj,rfl,rfl,hbl⟩:=hrel
          have W5:Hid (Below w4.heap.size w4 wr):=W4.out.trans (hbl.mono W4.out.size)
          have W5c:Hid (Below wc.heap.size wc wr):=hbl
          clear hbl
          have c2:=cellOf (blk_on X3.out W5.out) 2 _ rfl
          by_cases hlj:j<ys.length
          rotate_left
          · have hk4:¬ (j:Int)<ys.length:=by omega
            have E:Hid ((ef && (ys.take j).all MIns.nums)=yn):=by show _=_;rw [NY.out,List.take_of_length_le (by omega),Bool.and_comm]
            generalize (ef && (ys.take j).all MIns.nums)=okb at E ⊢
            have W6:Hid (Below w3.heap.size w3 wr):=W3.out.trans (W5.out.mono W3.out.size)
            have W6r:Hid (Below wf.heap.size wf wr):=W3r.out.trans (W5.out.mono W3r.out.size)
            clear NY
            cases okb with
            | true =>
              have N2:Hid ((x.blocks.take (b+1)).all MBlock.nums=true):=A4.out.trans E.out.symm
              clear NO A4 E
              go_wp2
              go_roundw
              case rel=>exact ⟨b+1,by omega,by go_num,N2.out,W6r.out⟩
              case measure=>simp [intOf];omega
            | false =>
              have RR:Hid (PrintV res=.tuple #[.string ⟨#[]⟩,.agg #[.int .i64 8,.int .i64 (-1)]]):=by show _=_;rw [NO.out E.out.symm];rfl
              have X9:=blk_on H2.out W6.out
              have B5:Hid (Below w.heap.size w wr):=B3.out.trans (W6.out.mono B3.out.size)
              clear NO A4 E
              go_wp2_with fail
              refine (fF_any (xc:=8) (xp:=-1)).mono ?_
              rintro e w6 ⟨rfl,b6⟩
              replace X9:=blk_on X9 b6
              have B6:Hid (Below w.heap.size w w6):=B5.out.trans (b6.mono B5.out.size)
              clear b6 B5 c2
              obtain ⟨e0,e1,f0,f1,l2⟩:=blk_facts X9
              have X8:=stored (.int .i64 8) (.int .i64 (-1)) X9
              have B8:Hid (Below w.heap.size w ((w6.setCell ⟨w.heap.size+1,0,none⟩ (.int .i64 8)).setCell ⟨w.heap.size+1,1,none⟩ (.int .i64 (-1)))):=storedB _ _ (Nat.le_succ _) B6.out
              go_wp2
              generalize (w6.setCell ⟨w.heap.size+1,0,none⟩ (.int .i64 8)).setCell ⟨w.heap.size+1,1,none⟩ (.int .i64 (-1))=w9 at X8 B8 ⊢
              have y0:=cellOf X8 0 _ rfl
              have y1:=cellOf X8 1 _ rfl
              exact bodyPost_ret (v:=.tuple #[.string ⟨#[]⟩,.agg #[.int .i64 8,.int .i64 (-1)]]) (by simp [results,Tryz.results21,go_sem,y0,y1]) rfl ⟨by rw [RR.out],B8.out⟩
          have hz:ys[j]?=some ys[j]:=List.getElem?_eq_getElem hlj
          obtain ⟨h,o3,du,rfl,_,hh,hc,hdu⟩:=Lay.list_at (Lay.below V2.out W5.out) hz
          generalize ys[j]=z at hz hdu
          have gz:z.small:=GC.out z (List.mem_of_getElem? hz)
          obtain ⟨pa,ja1,pb,jb1,rfl,v1',v2',i0,i1,i2,i3,i4,i5⟩:=ins_form hdu
          have d0:=hc 0 (show 0<8 by omega)
          have d1:=hc 1 (show 1<8 by omega)
          have d2:=hc 2 (show 2<8 by omega)
          have d3:=hc 3 (show 3<8 by omega)
          have d4:=hc 4 (show 4<8 by omega)
          have d5:=hc 5 (show 5<8 by omega)
          have d6:=hc 6 (show 6<8 by omega)
          have d7:=hc 7 (show 7<8 by omega)
          rw [show insL.size=8 from rfl] at d0 d1 d2 d3 d4 d5 d6 d7
          simp only [List.getElem?_cons_zero,List.getElem?_cons_succ,Nat.add_zero] at d0 d1 d2 d3 d4 d5 d6 d7
          have hk4:(0:Int)≤j:=by omega
          have hk5:(j:Int)<ys.length:=by omega
          have KN:Hid ((ef && (ys.take (j+1)).all MIns.nums)=((ef && (ys.take j).all MIns.nums) && ([z.a,z.b,z.c,z.k].all numB && (z.regs.all numB && z.args.all numB)))):=by show _=_;rw [allTk hz,MIns.nums,Bool.and_assoc]
          generalize (ef && (ys.take j).all MIns.nums)=okb at KN ⊢
          have bb2:Below wr.heap.size wr (wr.alloc (.cells #[.int .i64 z.op,.int .i64 z.a,.int .i64 z.b,.int .i64 z.c,.int .i64 z.k,.int .i64 z.n,.slice pa z.regs.length ja1,.slice pb z.args.length jb1] 45)):=bel1 _ _
          have S1:Hid (∀ (h:Nat) (wx:World),Blk wx h #[.int .i64 z.a,.int .i64 z.b,.int .i64 z.c,.int .i64 z.k] 3→Calls Tryz.prog 48 #[.slice (some ⟨h,0,none⟩) 4 4] wx fun e w'=>e=.returned (.bool ([z.a,z.b,z.c,z.k].all numB))∧Below wx.heap.size wx w'):=fun h wx hB=>small_new [z.a,z.b,z.c,z.k] 4 rfl (by decide) (fun x hx=>by simp at hx;rcases hx with rfl | rfl | rfl | rfl <;> assumption) h hB
          have S2:Hid (∀ wx,Below (wr.alloc (.cells #[.int .i64 z.op,.int .i64 z.a,.int .i64 z.b,.int .i64 z.c,.int .i64 z.k,.int .i64 z.n,.slice pa z.regs.length ja1,.slice pb z.args.length jb1] 45)).heap.size (wr.alloc (.cells #[.int .i64 z.op,.int .i64 z.a,.int .i64 z.b,.int .i64 z.c,.int .i64 z.k,.int .i64 z.n,.slice pa z.regs.length ja1,.slice pb z.args.length jb1] 45)) wx→Calls Tryz.prog 48 #[.slice pa z.regs.length ja1] wx fun e w'=>e=.returned (.bool (z.regs.all numB))∧Below wx.heap.size wx w'):=fun wx hb=>small_any _ _ _ wx (Lay.below (Lay.below v1' bb2) hb) gz.1
          have S3:Hid (∀ wx,Below (wr.alloc (.cells #[.int .i64 z.op,.int .i64 z.a,.int .i64 z.b,.int .i64 z.c,.int .i64 z.k,.int .i64 z.n,.slice pa z.regs.length ja1,.slice pb z.args.length jb1] 45)).heap.size (wr.alloc (.cells #[.int .i64 z.op,.int .i64 z.a,.int .i64 z.b,.int .i64 z.c,.int .i64 z.k,.int .i64 z.n,.slice pa z.regs.length ja1,.slice pb z.args.length jb1] 45)) wx→Calls Tryz.prog 48 #[.slice pb z.args.length jb1] wx fun e w'=>e=.returned (.bool (z.args.all numB))∧Below wx.heap.size wx w'):=fun wx hb=>small_any _ _ _ wx (Lay.below (Lay.below v2' bb2) hb) gz.2
          have X4:Hid (Blk (wr.alloc (.cells #[.int .i64 z.op,.int .i64 z.a,.int .i64 z.b,.int .i64 z.c,.int .i64 z.k,.int .i64 z.n,.slice pa z.regs.length ja1,.slice pb z.args.length jb1] 45)) wr.heap.size #[.int .i64 z.op,.int .i64 z.a,.int .i64 z.b,.int .i64 z.c,.int .i64 z.k,.int .i64 z.n,.slice pa z.regs.length ja1,.slice pb z.args.length jb1] 45):=Blk.new _ _ _
          have W7:Hid (Below wc.heap.size wc (wr.alloc (.cells #[.int .i64 z.op,.int .i64 z.a,.int .i64 z.b,.int .i64 z.c,.int .i64 z.k,.int .i64 z.n,.slice pa z.regs.length ja1,.slice pb z.args.length jb1] 45))):=W5c.out.trans (bb2.mono W5c.out.size)
          clear hc hdu hz gz v1' v2' i0 i1 i2 i3 i4 i5 bb2 NY NO A4
          go_upto_region 16 with fail
          clear d0 d1 d2 d3 d4 d5 d6 d7 hh c2
          generalize wr.alloc (.cells #[.int .i64 z.op,.int .i64 z.a,.int .i64 z.b,.int .i64 z.c,.int .i64 z.k,.int .i64 z.n,.slice pa z.regs.length ja1,.slice pb z.args.length jb1] 45)=w7 at X4 W7 S2 S3 ⊢
          generalize hJb:wr.heap.size=Jb at X4 ⊢
          clear hJb W5 W5c
          generalize [z.a,z.b,z.c,z.k].all numB=r1 at S1 KN ⊢
          generalize z.regs.all numB=r2 at S2 KN ⊢
          generalize z.args.all numB=r3 at S3 KN ⊢
          generalize z.op=zo at X4 ⊢
          generalize z.a=za at S1 X4 ⊢
          generalize z.b=zb at S1 X4 ⊢
          generalize z.c=zc at S1 X4 ⊢
          generalize z.k=zk at S1 X4 ⊢
          generalize z.n=zn at X4 ⊢
          generalize z.regs.length=m6 at S2 X4 ⊢
          generalize z.args.length=m7 at S3 X4 ⊢
          cases okb with
          | false =>
            clear S1 S2 S3 X4
            go_wp2
            go_roundw
            case rel=>exact ⟨j+1,by omega,by go_num,by rw [KN.out];rfl,W7.out⟩
            case measure=>simp [intOf];omega
          | true =>
            have c1:=cellOf X4.out 1 _ rfl
            have c2:=cellOf X4.out 2 _ rfl
            have c3:=cellOf X4.out 3 _ rfl
            have c4:=cellOf X4.out 4 _ rfl
            go_wp2_with fail
            refine (S1.out w7.heap.size (w7.alloc (.cells #[.int .i64 za,.int .i64 zb,.int .i64 zc,.int .i64 zk] 3)) (Blk.new _ _ _)).mono ?_
            rintro e u1 ⟨rfl,b1⟩
            have K1:Hid (Below w7.heap.size w7 u1):=(bel1 _ _).trans (b1.mono (bel1 _ _).size)
            have W8:Hid (Below wc.heap.size wc u1):=W7.out.trans (K1.out.mono W7.out.size)
            clear b1 S1 c1 c2 c3 c4
            cases r1 with
            | false =>
              clear S2 S3 X4
              go_wp2
              go_roundw
              case rel=>exact ⟨j+1,by omega,by go_num,by rw [KN.out];rfl,W8.out⟩
              case measure=>simp [intOf];omega
            | true =>
              have c6:=cellOf (blk_on X4.out K1.out) 6 _ rfl
              go_wp2_with fail
              refine (S2.out _ K1.out).mono ?_
              rintro e u2 ⟨rfl,b2⟩
              have K2:Hid (Below w7.heap.size w7 u2):=K1.out.trans (b2.mono K1.out.size)
              have W9:Hid (Below wc.heap.size wc u2):=W7.out.trans (K2.out.mono W7.out.size)
              clear b2 S2 c6
              cases r2 with
              | false =>
                clear S3 X4
                go_wp2
                go_roundw
                case rel=>exact ⟨j+1,by omega,by go_num,by rw [KN.out];rfl,W9.out⟩
                case measure=>simp [intOf];omega
              | true =>
                have c7:=cellOf (blk_on X4.out K2.out) 7 _ rfl
                go_wp2_with fail
                refine (S3.out _ K2.out).mono ?_
                rintro e u3 ⟨rfl,b3⟩
                have K3:Hid (Below w7.heap.size w7 u3):=K2.out.trans (b3.mono K2.out.size)
                have Wa:Hid (Below wc.heap.size wc u3):=W7.out.trans (K3.out.mono W7.out.size)
                clear b3 S3 c7
                go_wp2
                go_roundw
                case rel=>exact ⟨j+1,by omega,by go_num,by rw [KN.out];rfl,Wa.out⟩
                case measure=>simp [intOf];omega
theorem prints_walk {n1 c : Nat} {p : Option Addr} {w : World} {g1 : Bool} {s : List UInt8} {f a : Int} {P4 : Option Addr → Nat → World → Prop}
    (CB:Hid (∀ wx,Below w.heap.size w wx→Calls Tryz.prog 17 #[] wx fun e w'=>e=.returned (.bool true)∧Below wx.heap.size wx w'))
    (C1:Hid (∀ wx,Below w.heap.size w wx→Calls Tryz.prog 18 #[.agg #[.slice p n1 c]] wx fun e w'=>e=.returned (.bool g1)∧Below wx.heap.size wx w'))
    (C2:Hid (g1=false→∀ wx,Below w.heap.size w wx→Calls Tryz.prog 19 #[.agg #[.slice p n1 c]] wx fun e w'=>∃ a4 c4,e=.returned (.agg #[.slice a4 n1 c4])∧P4 a4 c4 w'∧Below wx.heap.size wx w'))
    (C3:Hid (g1=false→∀ a4 c4 wx,Below w.heap.size w wx→P4 a4 c4 wx→Calls Tryz.prog 20 #[.agg #[.slice a4 n1 c4]] wx (Prints wx (s,f,a))))
    (C4:Hid (g1=false→∀ wx,Below w.heap.size w wx→Calls Tryz.prog 21 #[.agg #[.slice p n1 c]] wx (Prints wx (s,f,a))))
    (C5:Hid (g1=false→∀ a4 c4 wx,Below w.heap.size w wx→P4 a4 c4 wx→Calls Tryz.prog 11 #[.agg #[.slice a4 n1 c4],.agg #[.slice p n1 c]] wx fun e w'=>e=.returned (.bool true)∧Below wx.heap.size wx w'))
    (SP:Hid (∀ a4 c4 wx wy,P4 a4 c4 wx→Below wx.heap.size wx wy→P4 a4 c4 wy)) :
    Calls Tryz.prog 5 #[.agg #[.slice p n1 c]] w fun e w'=>e=.returned (.bool true)∧Below w.heap.size w w':=by
  have X1:Blk (w.alloc (.cells #[.slice p n1 c] 25)) w.heap.size #[.slice p n1 c] 25:=Blk.new _ _ _
  have B1:Hid (Below w.heap.size w (w.alloc (.cells #[.slice p n1 c] 25))):=bel1 _ _
  go_enter Tryz.func5,Tryz.ntmps5
  go_wp2_with fail
  generalize w.alloc (.cells #[.slice p n1 c] 25)=w1 at X1 B1 ⊢
  refine (CB.out _ B1.out).mono ?_
  rintro e w2 ⟨rfl,b2⟩
  replace X1:=(b2.block _ (lt_of_block X1)).trans X1
  have B2:Hid (Below w.heap.size w w2):=B1.out.trans (b2.mono B1.out.size)
  clear b2 B1 CB
  have c1:=cellOf X1 0 _ rfl
  go_wp2_with fail
  refine (C1.out _ B2.out).mono ?_
  rintro e w3 ⟨rfl,b3⟩
  replace X1:=(b3.block _ (lt_of_block X1)).trans X1
  have B3:Hid (Below w.heap.size w w3):=B2.out.trans (b3.mono B2.out.size)
  clear b3 B2 C1 c1
  cases g1 with
  | true =>
    clear C2 C3 C4 C5 SP X1
    go_wp2
    go_ret
    exact ⟨rfl,B3.out⟩
  | false =>
    replace C2:Hid (∀ wx,Below w.heap.size w wx→Calls Tryz.prog 19 #[.agg #[.slice p n1 c]] wx fun e w'=>∃ a4 c4,e=.returned (.agg #[.slice a4 n1 c4])∧P4 a4 c4 w'∧Below wx.heap.size wx w'):=C2.out rfl
    replace C3:Hid (∀ a4 c4 wx,Below w.heap.size w wx→P4 a4 c4 wx→Calls Tryz.prog 20 #[.agg #[.slice a4 n1 c4]] wx (Prints wx (s,f,a))):=C3.out rfl
    replace C4:Hid (∀ wx,Below w.heap.size w wx→Calls Tryz.prog 21 #[.agg #[.slice p n1 c]] wx (Prints wx (s,f,a))):=C4.out rfl
    replace C5:Hid (∀ a4 c4 wx,Below w.heap.size w wx→P4 a4 c4 wx→Calls Tryz.prog 11 #[.agg #[.slice a4 n1 c4],.agg #[.slice p n1 c]] wx fun e w'=>e=.returned (.bool true)∧Below wx.heap.size wx w'):=C5.out rfl
    have c1:=cellOf X1 0 _ rfl
    go_wp2_with fail
    refine (C2.out _ B3.out).mono ?_
    rintro e w4 ⟨a4,c4,rfl,p4,b4⟩
    have b5:Below w4.heap.size w4 (w4.alloc (.cells #[.slice a4 n1 c4] 25)):=bel1 _ _
    replace X1:=((b4.trans (b5.mono b4.size)).block _ (lt_of_block X1)).trans X1
    have B5:Hid (Below w.heap.size w (w4.alloc (.cells #[.slice a4 n1 c4] 25))):=B3.out.trans ((b4.trans (b5.mono b4.size)).mono B3.out.size)
    have P5:Hid (P4 a4 c4 (w4.alloc (.cells #[.slice a4 n1 c4] 25))):=SP.out _ _ _ _ p4 b5
    have X2:=Blk.new w4 #[.slice a4 n1 c4] 25
    clear b4 b5 p4 B3 C2 c1
    go_wp2_with fail
    generalize w4.alloc (.cells #[.slice a4 n1 c4] 25)=w5 at X1 X2 B5 P5 ⊢
    generalize w4.heap.size=G at X2 ⊢
    refine (C3.out _ _ _ B5.out P5.out).mono ?_
    rintro e w6 ⟨rfl,b6⟩
    unfold PrintV
    have b7:Below w5.heap.size w5 (w6.alloc (.cells #[.int .i64 f,.int .i64 a] 27)):=b6.trans ((bel1 _ _).mono b6.size)
    replace X1:=(b7.block _ (lt_of_block X1)).trans X1
    replace X2:=(b7.block _ (lt_of_block X2)).trans X2
    have X3:=Blk.new w6 #[.int .i64 f,.int .i64 a] 27
    have B7:Hid (Below w.heap.size w (w6.alloc (.cells #[.int .i64 f,.int .i64 a] 27))):=B5.out.trans (b7.mono B5.out.size)
    have P7:Hid (P4 a4 c4 (w6.alloc (.cells #[.int .i64 f,.int .i64 a] 27))):=SP.out _ _ _ _ P5.out b7
    have c1:=cellOf X1 0 _ rfl
    clear b6 b7 B5 P5 C3
    go_wp2_with fail
    clear c1
    generalize w6.alloc (.cells #[.int .i64 f,.int .i64 a] 27)=w7 at X1 X2 X3 B7 P7 ⊢
    generalize w6.heap.size=F1 at X3 ⊢
    refine (C4.out _ B7.out).mono ?_
    rintro e w8 ⟨rfl,b8⟩
    unfold PrintV
    have b9:Below w7.heap.size w7 (w8.alloc (.cells #[.int .i64 f,.int .i64 a] 27)):=b8.trans ((bel1 _ _).mono b8.size)
    replace X1:=(b9.block _ (lt_of_block X1)).trans X1
    replace X2:=(b9.block _ (lt_of_block X2)).trans X2
    replace X3:=(b9.block _ (lt_of_block X3)).trans X3
    have X4:=Blk.new w8 #[.int .i64 f,.int .i64 a] 27
    have B9:Hid (Below w.heap.size w (w8.alloc (.cells #[.int .i64 f,.int .i64 a] 27))):=B7.out.trans (b9.mono B7.out.size)
    have P9:Hid (P4 a4 c4 (w8.alloc (.cells #[.int .i64 f,.int .i64 a] 27))):=SP.out _ _ _ _ P7.out b9
    clear b8 b9 B7 P7 C4 SP
    go_upto_region 8 with fail
    generalize w8.alloc (.cells #[.int .i64 f,.int .i64 a] 27)=w9 at X1 X2 X3 X4 B9 P9 ⊢
    generalize w8.heap.size=F2 at X4 ⊢
    have d1:=cellOf X1 0 _ rfl
    have d2:=cellOf X2 0 _ rfl
    have d3:=cellOf X3 0 _ rfl
    have d4:=cellOf X3 1 _ rfl
    have d5:=cellOf X4 0 _ rfl
    have d6:=cellOf X4 1 _ rfl
    have hq:((str s).toList==(str s).toList)=true:=by simp
    clear X1 X2 X3 X4
    go_wp2_with fail
    refine (C5.out _ _ _ B9.out P9.out).mono ?_
    rintro e wb ⟨rfl,bb⟩
    have BB:Hid (Below w.heap.size w wb):=B9.out.trans (bb.mono B9.out.size)
    clear bb C5 d1 d2 d3 d4 d5 d6 B9 P9
    go_wp2
    go_ret
    exact ⟨rfl,BB.out⟩
theorem prints_any {n : Nat} {m : List (MFunc n)} {p : Option Addr} {c : Nat} {w : World} (hm : (modL n).In w All m [.slice p m.length c]) (hp : Pows w) :
    Calls Tryz.prog 5 #[.agg #[.slice p m.length c]] w fun e w'=>e=.returned (.bool true)∧Below w.heap.size w w':=by
  have hng:∀ {x:List (MFunc n)},bdec (greatMod x)=false→¬ greatMod x:=fun h hg=>by rw [bdec_true hg] at h;cases h
  refine prints_walk (g1:=bdec (greatMod m)) (s:=(printL m).1) (f:=(printL m).2.1) (a:=(printL m).2.2) (P4:=fun a4 c4 wx=>(modL n).In wx All m [.slice a4 m.length c4])
    (fun wx hx=>rBegun_any wx (hp.below hx)) (fun wx hx=>greatModule_any _ _ _ _ _ (Lay.below hm hx))
    (fun g1 wx hx=>(ownModule_any m p c wx (Lay.below hm hx) (msmall_of (hng g1))).mono ?_)
    (fun g1 a4 c4 wx hx h4=>print_any m a4 c4 wx h4 (hp.below hx) (msmall_of (hng g1)) (tiny_of (hng g1)))
    (fun g1 wx hx=>printed_any (Lay.below hm hx) (hp.below hx) (hng g1))
    (fun g1 a4 c4 wx hx h4=>?_) (fun a4 c4 wx wy h4 hb=>Lay.below h4 hb)
  · rintro e w' ⟨v,rfl,⟨a',c',rfl,h⟩,hb⟩
    exact ⟨a',c',rfl,Lay.mono h fun _ _ _=>trivial,hb⟩
  · have:=sameModule_any h4 (Lay.below hm hx) (msmall_of (hng g1))
    rwa [bdec_true rfl] at this
end Go.Proofs.YtalfbnllodhkiacGreatDoor
namespace Go.Proofs.YtalfbnllodhkiacGreatDoor
open Go.ChangeShapes Go.WideShapes Go.ChangeAt Go.RowKit Go.Deep
set_option linter.unusedVariables false
def Wt {H : Type} (P : Program) (t : TypeId) (d : DataW H) : Prop := ∀ n ∈ d.weights P t, n ≤ reachBytes
def ReadsB (P : Program) (t : TypeId) {α : Type} (A : Lay α) (n : Nat) (Bd : α → Prop) : Prop :=
  P.cellsOf t=A.size∧∀ {H:Type} {enc:TypeId × Value→H} {w:World} {base:Nat} {spare:Nat→Bool} {held:Bool} {fuel:Nat} {cs:List Value} {x:DataW H × List MemPlace},
    fuel≤n→DataW.trod enc P w base spare held fuel t cs=some x→Wt P t x.1→∃ d,A.In w (fun _=>True) d cs∧Bd d
theorem ReadsB.int {P : Program} {t : TypeId} (n : Nat) (h : P.underlying t = some (.int .i64)) (hc : P.cellsOf t = 1) : ReadsB P t Lay.int n (fun _ => True) :=
  ⟨hc,fun _ h' _=>by
    obtain ⟨k,e,_,wf⟩:=DataW.trod_int h h'
    exact ⟨k,⟨e,Go.bounds_i64 wf⟩,trivial⟩⟩
theorem weightsAll_mem {H : Type} {P : Program} {e : TypeId} : ∀ {l : List (DataW H)} {d : DataW H}, d ∈ l → ∀ n ∈ d.weights P e, n ∈ DataW.weightsAll P e l
  | d0::l,d,h,n,hn=>by
    simp only [DataW.weightsAll,List.mem_append]
    rcases List.mem_cons.1 h with rfl | h
    · exact .inl hn
    · exact .inr (weightsAll_mem h n hn)
theorem ReadsB.list {P : Program} {t e : TypeId} {α : Type} {A : Lay α} {n : Nat} {Bd : α → Prop} (h : P.underlying t = some (.slice e)) (hc : P.cellsOf t = 1) (hA : ReadsB P e A n Bd) (h0 : 0 < A.size) (hbe : 0 < P.bytesOf e) : ReadsB P t A.list n (fun l => l.length < 1152921504606846976) :=
  ⟨hc,fun {H enc w base spare held fuel cs x} hf h' hw=>by
    rcases DataW.trod_slice h h' with ⟨e2,_⟩ | ⟨a,len,cap,elems,rest,q,rfl,e2,ex,hb,hl,hm,hlen,hel,_,_⟩
    · exact ⟨[],by rw [e2];exact Lay.list_nil A _ _ _ _,by simp⟩
    · have hlw:(elems.length+rest.length)*P.bytesOf e≤reachBytes:=hw _ (by rw [ex];simp [DataW.weights,h])
      have hlb:len<1152921504606846976:=by
        have h1:elems.length*1≤(elems.length+rest.length)*P.bytesOf e:=Nat.mul_le_mul (by omega) hbe
        have h2:reachBytes<1152921504606846976:=by decide
        omega
      have hel':∀ i,i<len→∃ y,elems[i]?=some y∧Wt P e y.1:=fun i hi=>by
        refine ⟨elems[i]'(by omega),List.getElem?_eq_getElem (by omega),fun k hk=>hw k ?_⟩
        rw [ex]
        simp only [DataW.weights,h,List.mem_cons,List.mem_append]
        exact .inr (.inl (weightsAll_mem (List.mem_map_of_mem (List.getElem_mem (by omega))) k hk))
      obtain ⟨l,hll,hp⟩:=list_of' (P:=fun i (d:α)=>∃ ds,w.cells? base (a.add (i*A.size)) A.size=some ds∧A.In w (fun _=>True) d ds) len (fun i hi=>by
        have he:=hel i hi
        obtain ⟨y,hy,hwy⟩:=hel' i hi
        rw [hy,hA.1] at he
        rw [Option.bind_eq_some_iff] at he
        obtain ⟨ds,hds,htr⟩:=he
        obtain ⟨d,hd,_⟩:=hA.2 (by omega) htr hwy
        exact ⟨d,ds,hds,hd⟩)
      refine ⟨l,⟨some a,cap,by rw [e2,hll],fun i x hx=>?_⟩,by omega⟩
      obtain ⟨ds,hds,hd⟩:=hp i x hx
      obtain ⟨_,hcl,hcell⟩:=World.cells?_some hds
      obtain ⟨b,off,spot⟩:=a
      have hspot:spot=none:=by
        have hi:0<l.length:=Nat.lt_of_le_of_lt (Nat.zero_le i) (List.getElem?_eq_some_iff.1 hx).1
        obtain ⟨ds0,hds0,hd0⟩:=hp 0 l[0] (List.getElem?_eq_getElem hi)
        have hl0:0<ds0.length:=by rw [A.len hd0];exact h0
        have:=(World.cells?_some hds0).2.2 0 h0
        rw [List.getElem?_eq_getElem hl0] at this
        simpa [Addr.add] using World.cell?_spot this
      subst hspot
      have key:∀ j,j<A.size→w.cell? ⟨b,off+i*A.size+j,none⟩=ds[j]?:=fun j hj=>by
        have:=hcell j hj
        rw [Go.WideShapes.add_plain,Go.WideShapes.add_plain] at this
        exact this
      refine ⟨b,off,ds,rfl,trivial,?_,key,hd⟩
      have hl0:0<ds.length:=by rw [A.len hd];exact h0
      have:=key 0 h0
      rw [List.getElem?_eq_getElem hl0] at this
      exact World.block_lt_of_cell? w _ this⟩
def FieldsB (P : Program) (fs : Array Field) : Nat → Nat → {α : Type} → Lay α → Nat → (α → Prop) → Prop := fun i o α A n Bd =>
  ∀ (H:Type) (enc:TypeId × Value→H) (w:World) (base:Nat) (spare:Nat→Bool) (held:Bool) (fuel:Nat) (cs:List Value) (xs:List (DataW H × List MemPlace)),
    fuel≤n→cs.length=o+A.size→xs.length=fs.size→(∀ (j:Nat) (f:Field),fs[j]?=some f→DataW.trod enc P w base spare held fuel f.type ((cs.drop f.offset).take (P.cellsOf f.type))=xs[j]?) →
    (∀ (j:Nat) (f:Field) x,fs[j]?=some f→xs[j]?=some x→Wt P f.type x.1)→∃ d,A.In w (fun _=>True) d (cs.drop o)∧Bd d
theorem FieldsB.last {P : Program} {fs : Array Field} {i o n : Nat} {f : Field} {α : Type} {A : Lay α} {Bd : α → Prop} (hf : fs[i]? = some f) (ho : f.offset = o) (hA : ReadsB P f.type A n Bd) : FieldsB P fs i o A n Bd := by
  intro H enc w base spare held fuel cs xs hn hl hx h hw
  have g:=h i f hf
  have hi:i<fs.size:=(Array.getElem?_eq_some_iff.1 hf).1
  rw [List.getElem?_eq_getElem (by omega),ho,hA.1] at g
  obtain ⟨d,hd,hb⟩:=hA.2 hn g (hw i f _ hf (List.getElem?_eq_getElem (by omega)))
  refine ⟨d,?_,hb⟩
  rwa [List.take_of_length_le (by simp;omega)] at hd
theorem FieldsB.cons {P : Program} {fs : Array Field} {i o n : Nat} {f : Field} {α β : Type} {A : Lay α} {B : Lay β} {Bd : α → Prop} {Be : β → Prop} (hf : fs[i]? = some f) (ho : f.offset = o) (hA : ReadsB P f.type A n Bd) (hB : FieldsB P fs (i + 1) (o + A.size) B n Be) : FieldsB P fs i o (A.pair B) n (fun x => Bd x.1 ∧ Be x.2) := by
  intro H enc w base spare held fuel cs xs hn hl hx h hw
  have g:=h i f hf
  have hi:i<fs.size:=(Array.getElem?_eq_some_iff.1 hf).1
  rw [List.getElem?_eq_getElem (by omega),ho,hA.1] at g
  obtain ⟨d,hd,hb⟩:=hA.2 hn g (hw i f _ hf (List.getElem?_eq_getElem (by omega)))
  have hs:(A.pair B).size=A.size+B.size:=rfl
  obtain ⟨e,he,hb2⟩:=hB _ _ _ _ _ _ _ _ _ hn (by omega) hx h hw
  refine ⟨(d,e),⟨_,_,?_,hd,he⟩,hb,hb2⟩
  rw [← List.drop_drop,List.take_append_drop]
theorem ReadsB.struct {P : Program} {t : TypeId} {fs : Array Field} {α : Type} {A : Lay α} {n : Nat} {Bd : α → Prop} (h : P.underlying t = some (.struct fs)) (hc : P.cellsOf t = A.size) (hF : FieldsB P fs 0 0 A n Bd) : ReadsB P t A n Bd :=
  ⟨hc,fun {H enc w base spare held fuel cs x} hf h' hw=>by
    obtain ⟨xs,m,rfl,ex,hcl,hxl,hfl⟩:=DataW.trod_struct h h'
    obtain ⟨d,hd,hb⟩:=hF _ _ _ _ _ _ _ _ _ (by omega) (by rw [hcl,hc];omega) hxl hfl (fun j f y hj hy k hk=>hw k (by
      rw [ex]
      simp only [DataW.weights,h]
      exact DataW.weights_mem_each (j:=j) (t:=f.type) (d:=y.1) (by simp [hj]) (by simp [hy]) k hk))
    exact ⟨d,by simpa using hd,hb⟩⟩
theorem ReadsB.via {P : Program} {t : TypeId} {α β : Type} {A : Lay α} {n : Nat} {f : β → α} {Bd : α → Prop} (h : ReadsB P t A n Bd) (g : α → β) (hg : ∀ d, f (g d) = d) : ReadsB P t (A.via f) n (fun x => Bd (f x)) :=
  ⟨h.1,fun hf h' hw=>by
    obtain ⟨d,hd,hb⟩:=h.2 hf h' hw
    exact ⟨g d,by show A.In _ _ (f (g d)) _;rw [hg];exact hd,by show Bd (f (g d));rw [hg];exact hb⟩⟩
theorem own : ownKnob Tryz.prog.godebug = none := by kernel_rfl
theorem laidOut : laidOutB Tryz.prog = true := by kernel_rfl
theorem fieldsT : ∃ f0 f1 f2 : Field, Tryz.prog.underlying 78 = some (.struct #[f0, f1, f2]) ∧
    (f0.offset=0∧Tryz.prog.cellsOf f0.type=1∧Tryz.prog.underlying f0.type=some (.int .i64))∧(f1.offset=1∧Tryz.prog.cellsOf f1.type=1∧Tryz.prog.underlying f1.type=some (.int .i64)) ∧
    (f2.offset=2∧Tryz.prog.cellsOf f2.type=1∧f2.type=39) :=
  ⟨_,_,_,Tryz.underlying78,⟨rfl,by kernel_rfl,by kernel_rfl⟩,⟨rfl,by kernel_rfl,by kernel_rfl⟩,⟨rfl,by kernel_rfl,rfl⟩⟩
theorem readsT (n : Nat) : ReadsB Tryz.prog 78 (Lay.tt n) n (fun _ => True) :=
  ⟨by kernel_rfl,fun {H enc w base spare held fuel cs x} hf h' hw=>by
    obtain ⟨f0,f1,f2,e,h0,h1,h2⟩:=fieldsT
    obtain ⟨t,a,c,hc,h3,h4⟩:=tin_of (ti:=0) Tryz.underlying39 e (by kernel_rfl) h0 h1 h2 n fuel hf h'
    exact ⟨t,⟨a,c,hc,h3,h4⟩,trivial⟩⟩
theorem readsI (n : Nat) : ReadsB Tryz.prog 3 Lay.int n (fun _ => True) := ReadsB.int n Tryz.underlying3 (by kernel_rfl)
theorem readsI6 (n : Nat) : ReadsB Tryz.prog 2 Lay.int n (fun _ => True) := ReadsB.int n Tryz.underlying2 (by kernel_rfl)
theorem readsIs (n : Nat) : ReadsB Tryz.prog 43 intsL n (fun l => l.length < 1152921504606846976) := ReadsB.list Tryz.underlying43 (by kernel_rfl) (readsI n) (by decide) (by rw [show Tryz.prog.bytesOf 3 = 8 from by kernel_rfl]; decide)
theorem readsTs (n : Nat) : ReadsB Tryz.prog 39 (typesL n) n (fun l => l.length < 1152921504606846976) := ReadsB.list Tryz.underlying39 (by kernel_rfl) (readsT n) (by show 0 < 3; decide) (by rw [show Tryz.prog.bytesOf 78 = 40 from by kernel_rfl]; decide)
theorem readsIns (n : Nat) : ReadsB Tryz.prog 45 insL n (fun x => x.regs.length < 1152921504606846976 ∧ x.args.length < 1152921504606846976) := by
  have h:=ReadsB.struct (n:=n) (A:=Lay.int.pair (Lay.int.pair (Lay.int.pair (Lay.int.pair (Lay.int.pair (Lay.int.pair (intsL.pair intsL))))))) Tryz.underlying45 (by kernel_rfl) (FieldsB.cons rfl rfl (readsI n) (FieldsB.cons rfl rfl (readsI n) (FieldsB.cons rfl rfl (readsI n) (FieldsB.cons rfl rfl (readsI n) (FieldsB.cons rfl rfl (readsI n) (FieldsB.cons rfl rfl (readsI6 n) (FieldsB.cons rfl rfl (readsIs n) (FieldsB.last rfl rfl (readsIs n)))))))))
  have h2:=h.via (f:=fun x:MIns=>(x.op,x.a,x.b,x.c,x.k,x.n,x.regs,x.args)) (fun d=>⟨d.1,d.2.1,d.2.2.1,d.2.2.2.1,d.2.2.2.2.1,d.2.2.2.2.2.1,d.2.2.2.2.2.2.1,d.2.2.2.2.2.2.2⟩) (fun d=>rfl)
  exact ⟨h2.1,fun hf h' hw=>by obtain ⟨d,hd,hb⟩:=h2.2 hf h' hw;exact ⟨d,hd,hb.2.2.2.2.2.2⟩⟩
theorem readsTo (n : Nat) : ReadsB Tryz.prog 48 toL n (fun x => x.regs.length < 1152921504606846976 ∧ x.args.length < 1152921504606846976) := by
  have h:=ReadsB.struct (n:=n) (A:=Lay.int.pair (intsL.pair intsL)) Tryz.underlying48 (by kernel_rfl) (FieldsB.cons rfl rfl (readsI n) (FieldsB.cons rfl rfl (readsIs n) (FieldsB.last rfl rfl (readsIs n))))
  have h2:=h.via (f:=fun x:MTo=>(x.block,x.regs,x.args)) (fun d=>⟨d.1,d.2.1,d.2.2⟩) (fun d=>rfl)
  exact ⟨h2.1,fun hf h' hw=>by obtain ⟨d,hd,hb⟩:=h2.2 hf h' hw;exact ⟨d,hd,hb.2⟩⟩
theorem readsEnd (n : Nat) : ReadsB Tryz.prog 50 endL n (fun x => (x.yes.regs.length < 1152921504606846976 ∧ x.yes.args.length < 1152921504606846976) ∧ (x.no.regs.length < 1152921504606846976 ∧ x.no.args.length < 1152921504606846976) ∧ x.args.length < 1152921504606846976) := by
  have h:=ReadsB.struct (n:=n) (A:=Lay.int.pair (Lay.int.pair (toL.pair (toL.pair intsL)))) Tryz.underlying50 (by kernel_rfl) (FieldsB.cons rfl rfl (readsI n) (FieldsB.cons rfl rfl (readsI n) (FieldsB.cons rfl rfl (readsTo n) (FieldsB.cons rfl rfl (readsTo n) (FieldsB.last rfl rfl (readsIs n))))))
  have h2:=h.via (f:=fun x:MEnd=>(x.op,x.a,x.yes,x.no,x.args)) (fun d=>⟨d.1,d.2.1,d.2.2.1,d.2.2.2.1,d.2.2.2.2⟩) (fun d=>rfl)
  exact ⟨h2.1,fun hf h' hw=>by obtain ⟨d,hd,hb⟩:=h2.2 hf h' hw;exact ⟨d,hd,hb.2.2⟩⟩
theorem readsInss (n : Nat) : ReadsB Tryz.prog 46 insL.list n (fun l => l.length < 1152921504606846976) := ReadsB.list Tryz.underlying46 (by kernel_rfl) (readsIns n) (by decide) (by rw [show Tryz.prog.bytesOf 45 = 96 from by kernel_rfl]; decide)
theorem readsBlock (n : Nat) : ReadsB Tryz.prog 52 (blockL n) n (fun _ => True) := by
  have h:=ReadsB.struct (n:=n) (A:=Lay.int.pair ((typesL n).pair (insL.list.pair endL))) Tryz.underlying52 (by kernel_rfl) (FieldsB.cons rfl rfl (readsI n) (FieldsB.cons rfl rfl (readsTs n) (FieldsB.cons rfl rfl (readsInss n) (FieldsB.last rfl rfl (readsEnd n)))))
  have h2:=h.via (f:=fun x:MBlock n=>(x.regs,x.params,x.code,x.fin)) (fun d=>⟨d.1,d.2.1,d.2.2.1,d.2.2.2⟩) (fun d=>rfl)
  exact ⟨h2.1,fun hf h' hw=>by obtain ⟨d,hd,hb⟩:=h2.2 hf h' hw;exact ⟨d,hd,trivial⟩⟩
theorem readsBlocks (n : Nat) : ReadsB Tryz.prog 40 (blockL n).list n (fun l => l.length < 1152921504606846976) := ReadsB.list Tryz.underlying40 (by kernel_rfl) (readsBlock n) (by show 0 < 12; decide) (by rw [show Tryz.prog.bytesOf 52 = 208 from by kernel_rfl]; decide)
theorem readsFunc (n : Nat) : ReadsB Tryz.prog 42 (funcL n) n (fun _ => True) := by
  have h:=ReadsB.struct (n:=n) (A:=Lay.int.pair ((typesL n).pair ((typesL n).pair (blockL n).list))) Tryz.underlying42 (by kernel_rfl) (FieldsB.cons rfl rfl (readsI n) (FieldsB.cons rfl rfl (readsTs n) (FieldsB.cons rfl rfl (readsTs n) (FieldsB.last rfl rfl (readsBlocks n)))))
  have h2:=h.via (f:=fun x:MFunc n=>(x.regs,x.params,x.results,x.blocks)) (fun d=>⟨d.1,d.2.1,d.2.2.1,d.2.2.2⟩) (fun d=>rfl)
  exact ⟨h2.1,fun hf h' hw=>by obtain ⟨d,hd,hb⟩:=h2.2 hf h' hw;exact ⟨d,hd,trivial⟩⟩
theorem readsFuncs (n : Nat) : ReadsB Tryz.prog 23 (modL n) n (fun l => l.length < 1152921504606846976) := ReadsB.list Tryz.underlying23 (by kernel_rfl) (readsFunc n) (by show 0 < 4; decide) (by rw [show Tryz.prog.bytesOf 42 = 80 from by kernel_rfl]; decide)
theorem readsMod (n : Nat) : ReadsB Tryz.prog 25 (modL n) n (fun _ => True) := by
  have h:=ReadsB.struct (n:=n) (A:=modL n) Tryz.underlying25 (by kernel_rfl) (FieldsB.last rfl rfl (readsFuncs n))
  exact ⟨h.1,fun hf h' hw=>by obtain ⟨d,hd,hb⟩:=h.2 hf h' hw;exact ⟨d,hd,trivial⟩⟩
theorem rpowG : Tryz.prog.globalNamed powN = some 2 := by kernel_rfl
theorem rpowT : (Tryz.prog.globals[2]?).map (·.type) = some 216 := by kernel_rfl
theorem rpowD : (Rows.laid_internal_strconv_uint64pow10 : DataW Unit) = Lib.tabData .u64 Lib.pow10Tab := by kernel_rfl
theorem rpows_of {W : World} {a b : String × DataW Unit} (h : laidMet Tryz.prog [a, b, (powN, Rows.laid_internal_strconv_uint64pow10)] W) : Pows W := by
  have h3:laidMet Tryz.prog [(powN,Rows.laid_internal_strconv_uint64pow10)] W:=h.tail.tail
  rw [rpowD] at h3
  exact Lib.tabIs_of_head rpowG rpowT Tryz.underlying216 Tryz.underlying189 (by kernel_rfl) (by kernel_rfl) h3
theorem ragg_of {v : Value} {l : List Value} (hv : ∃ cs : Array Value, v = .agg cs ∧ True) (h : v.cells.toList = l) : v = .agg l.toArray := by
  obtain ⟨⟨cs⟩,rfl,_⟩:=hv
  simp only [Value.cells] at h
  rw [← h]
end Go.Proofs.YtalfbnllodhkiacGreatDoor
