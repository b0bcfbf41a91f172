import Derived.Test.YtalfbnllodhkiacGreatDoorP3
set_option maxHeartbeats 16000000
set_option maxRecDepth 100000
namespace Go.Proofs.YtalfbnllodhkiacGreatDoor
open Go.ChangeShapes Go.WideShapes Go.ChangeAt Go.RowKit
set_option linter.unusedSimpArgs false
set_option linter.unusedVariables false
theorem wf1 {xa xb xc xk xn : Int} {ra aa : Option Addr} {rl rc al ac : Nat} {w : World} :
    Rd Tryz.prog 175 #[.agg #[.int .i64 1,.int .i64 xa,.int .i64 xb,.int .i64 xc,.int .i64 xk,.int .i64 xn,.slice ra rl rc,.slice aa al ac]] w (.tuple #[.agg #[.int .i64 1,.int .i64 xa,.int .i64 xb,.int .i64 xc,.int .i64 xk,.int .i64 0,.slice ra rl rc,.slice aa al ac],.bool true]):=by
  refine fr_enter (n:=48) Tryz.func175 rfl rfl rfl ?_
  intro a hF
  have hW:=Wd.start w
  replace hF:Fr 48 a [(0,.agg #[.int .i64 1,.int .i64 xa,.int .i64 xb,.int .i64 xc,.int .i64 xk,.int .i64 xn,.slice ra rl rc,.slice aa al ac])]:=hF
  refine wp_seq_k fun K1 hK1=>?_
  refine rg hF fun ops=>?_;clear hF a
  refine sB hW trivial rfl rfl ?_
  clear hW;intro w2 B2 hW2 hN;clear hN
  refine sAIns hW2 trivial rfl ?_
  clear hW2;intro w3 B3 hW3 hN;clear hN
  refine sa trivial rfl rfl ?_
  refine St.nil fun a4 h4=>?_
  refine hK1 _ _ ?_
  refine wp_seq_k fun K5 hK5=>?_
  refine wp_seq_k fun K6 hK6=>?_
  refine rg h4 fun ops=>?_;clear h4 a4
  refine sfIns0 trivial rfl rfl ?_
  refine sbInt 1 hW3 trivial rfl rfl rfl rfl ?_
  refine St.nil fun a7 h7=>?_
  refine hK6 _ _ ?_
  refine wp_block ?_
  refine wp_seq_k fun K8 hK8=>?_
  refine rg h7 fun ops=>?_;clear h7 a7
  intro a9 h9
  refine fr_pure (t:=8) (v:=.bool true) (w':=w3) h9 rfl rfl rfl (fun K hK=>?_) ?_
  ·have k0:a9.tmps.getD 5 undef=.int .i64 1:=h9.sl 5 _ rfl
   go_simp
   exact hK
  clear h9;intro a10 hF10
  refine St.go hF10 ?_;clear hF10 a10
  refine sa trivial rfl rfl ?_
  refine St.nil fun a11 h11=>?_
  refine hK8 _ _ ?_
  refine fr_true (t:=7) h11 rfl ?_
  refine rg h11 fun ops=>?_;clear h11 a11
  refine sfIns5 trivial rfl rfl ?_
  refine s1 1 inf1Int6 hW3 rfl rfl rfl rfl rfl rfl ?_
  clear hW3;intro w12 hW12
  refine St.nil fun a13 h13=>?_
  refine hK5 _ _ ?_
  refine wp_seq_k fun K14 hK14=>?_
  refine rg h13 fun ops=>?_;clear h13 a13
  refine sS 1 8 Tryz.underlying45 rfl infIns hW12 trivial rfl rfl rfl rfl ?_
  refine sT 0 hW12 rfl rfl infIns rfl rfl rfl ?_
  clear hW12;intro w15 hW15
  refine sa trivial rfl rfl ?_
  refine St.nil fun a16 h16=>?_
  refine hK14 _ _ ?_
  refine wp_ret ?_;with_reducible repeat first | refine of_then_ret ?_ | refine of_block_ret ?_
  have k0:a16.tmps[2]?.getD undef=.pointer (some ⟨B3,0,none⟩):=h16.sl2 2 _ rfl
  have k1:a16.tmps[3]?.getD undef=.bool true:=h16.sl2 3 _ rfl
  have c0:w15.cell? ⟨B3,0,none⟩=some (.int .i64 1):=cellOf (hW15.get 0 rfl) 0 _ rfl
  have c1:w15.cell? ⟨B3,1,none⟩=some (.int .i64 xa):=cellOf (hW15.get 0 rfl) 1 _ rfl
  have c2:w15.cell? ⟨B3,2,none⟩=some (.int .i64 xb):=cellOf (hW15.get 0 rfl) 2 _ rfl
  have c3:w15.cell? ⟨B3,3,none⟩=some (.int .i64 xc):=cellOf (hW15.get 0 rfl) 3 _ rfl
  have c4:w15.cell? ⟨B3,4,none⟩=some (.int .i64 xk):=cellOf (hW15.get 0 rfl) 4 _ rfl
  have c5:w15.cell? ⟨B3,5,none⟩=some (.int .i64 0):=cellOf (hW15.get 0 rfl) 5 _ rfl
  have c6:w15.cell? ⟨B3,6,none⟩=some (.slice ra rl rc):=cellOf (hW15.get 0 rfl) 6 _ rfl
  have c7:w15.cell? ⟨B3,7,none⟩=some (.slice aa al ac):=cellOf (hW15.get 0 rfl) 7 _ rfl
  exact bodyPost_ret (v:=.tuple #[.agg #[.int .i64 1,.int .i64 xa,.int .i64 xb,.int .i64 xc,.int .i64 xk,.int .i64 0,.slice ra rl rc,.slice aa al ac],.bool true]) (by simp [results,Tryz.results175,go_sem,k0,k1,c0,c1,c2,c3,c4,c5,c6,c7]) h16.defers ⟨rfl,hW15.bel⟩
theorem wf2 {xa xb xc xk xn : Int} {ra aa : Option Addr} {rl rc al ac : Nat} {w : World} :
    Rd Tryz.prog 175 #[.agg #[.int .i64 2,.int .i64 xa,.int .i64 xb,.int .i64 xc,.int .i64 xk,.int .i64 xn,.slice ra rl rc,.slice aa al ac]] w (.tuple #[.agg #[.int .i64 2,.int .i64 0,.int .i64 0,.int .i64 xc,.int .i64 0,.int .i64 xn,.slice ra rl rc,.slice aa al ac],.bool true]):=by
  refine fr_enter (n:=48) Tryz.func175 rfl rfl rfl ?_
  intro a hF
  have hW:=Wd.start w
  replace hF:Fr 48 a [(0,.agg #[.int .i64 2,.int .i64 xa,.int .i64 xb,.int .i64 xc,.int .i64 xk,.int .i64 xn,.slice ra rl rc,.slice aa al ac])]:=hF
  refine wp_seq_k fun K1 hK1=>?_
  refine rg hF fun ops=>?_;clear hF a
  refine sB hW trivial rfl rfl ?_
  clear hW;intro w2 B2 hW2 hN;clear hN
  refine sAIns hW2 trivial rfl ?_
  clear hW2;intro w3 B3 hW3 hN;clear hN
  refine sa trivial rfl rfl ?_
  refine St.nil fun a4 h4=>?_
  refine hK1 _ _ ?_
  refine wp_seq_k fun K5 hK5=>?_
  refine wp_seq_k fun K6 hK6=>?_
  refine rg h4 fun ops=>?_;clear h4 a4
  refine sfIns0 trivial rfl rfl ?_
  refine sbInt 1 hW3 trivial rfl rfl rfl rfl ?_
  refine St.nil fun a7 h7=>?_
  refine hK6 _ _ ?_
  refine wp_block ?_
  refine wp_seq_k fun K8 hK8=>?_
  refine rg h7 fun ops=>?_;clear h7 a7
  refine seq trivial rfl rfl rfl ?_
  refine sa trivial rfl rfl ?_
  refine St.nil fun a9 h9=>?_
  refine hK8 _ _ ?_
  refine fr_false (t:=7) h9 rfl ?_
  refine wp_seq_k fun K10 hK10=>?_
  refine wp_seq_k fun K11 hK11=>?_
  refine rg h9 fun ops=>?_;clear h9 a9
  refine seq trivial rfl rfl rfl ?_
  refine sa trivial rfl rfl ?_
  refine St.nil fun a12 h12=>?_
  refine hK11 _ _ ?_
  refine fr_false (t:=10) h12 rfl ?_
  refine rg h12 fun ops=>?_;clear h12 a12
  refine seq trivial rfl rfl rfl ?_
  refine sa trivial rfl rfl ?_
  refine St.nil fun a13 h13=>?_
  refine hK10 _ _ ?_
  refine fr_false (t:=10) h13 rfl ?_
  refine wp_seq_k fun K14 hK14=>?_
  refine wp_seq_k fun K15 hK15=>?_
  refine rg h13 fun ops=>?_;clear h13 a13
  refine seq trivial rfl rfl rfl ?_
  refine sa trivial rfl rfl ?_
  refine St.nil fun a16 h16=>?_
  refine hK15 _ _ ?_
  refine fr_false (t:=13) h16 rfl ?_
  refine wp_seq_k fun K17 hK17=>?_
  refine rg h16 fun ops=>?_;clear h16 a16
  refine seq trivial rfl rfl rfl ?_
  refine sa trivial rfl rfl ?_
  refine St.nil fun a18 h18=>?_
  refine hK17 _ _ ?_
  refine fr_false (t:=13) h18 rfl ?_
  refine rg h18 fun ops=>?_;clear h18 a18
  refine seq trivial rfl rfl rfl ?_
  refine sa trivial rfl rfl ?_
  refine St.nil fun a19 h19=>?_
  refine hK14 _ _ ?_
  refine fr_false (t:=13) h19 rfl ?_
  refine wp_seq_k fun K20 hK20=>?_
  refine wp_seq_k fun K21 hK21=>?_
  refine rg h19 fun ops=>?_;clear h19 a19
  refine seq trivial rfl rfl rfl ?_
  refine sa trivial rfl rfl ?_
  refine St.nil fun a22 h22=>?_
  refine hK21 _ _ ?_
  refine fr_false (t:=18) h22 rfl ?_
  refine rg h22 fun ops=>?_;clear h22 a22
  refine seq trivial rfl rfl rfl ?_
  refine sa trivial rfl rfl ?_
  refine St.nil fun a23 h23=>?_
  refine hK20 _ _ ?_
  refine fr_false (t:=18) h23 rfl ?_
  refine wp_seq_k fun K24 hK24=>?_
  refine rg h23 fun ops=>?_;clear h23 a23
  refine seq trivial rfl rfl rfl ?_
  refine sa trivial rfl rfl ?_
  refine St.nil fun a25 h25=>?_
  refine hK24 _ _ ?_
  refine fr_false (t:=23) h25 rfl ?_
  refine wp_seq_k fun K26 hK26=>?_
  refine wp_seq_k fun K27 hK27=>?_
  refine rg h25 fun ops=>?_;clear h25 a25
  intro a28 h28
  refine fr_pure (t:=29) (v:=.bool true) (w':=w3) h28 rfl rfl rfl (fun K hK=>?_) ?_
  ·have k0:a28.tmps.getD 5 undef=.int .i64 2:=h28.sl 5 _ rfl
   go_simp
   exact hK
  clear h28;intro a29 hF29
  refine St.go hF29 ?_;clear hF29 a29
  refine sa trivial rfl rfl ?_
  refine St.nil fun a30 h30=>?_
  refine hK27 _ _ ?_
  refine fr_true (t:=28) h30 rfl ?_
  refine wp_skip ?_
  refine hK26 _ _ ?_
  refine fr_true (t:=28) h30 rfl ?_
  refine rg h30 fun ops=>?_;clear h30 a30
  refine sfIns1 trivial rfl rfl ?_
  refine s1 1 inf1Int hW3 rfl rfl rfl rfl rfl rfl ?_
  clear hW3;intro w31 hW31
  refine sfIns2 trivial rfl rfl ?_
  refine s1 1 inf1Int hW31 rfl rfl rfl rfl rfl rfl ?_
  clear hW31;intro w32 hW32
  refine sfIns4 trivial rfl rfl ?_
  refine s1 1 inf1Int hW32 rfl rfl rfl rfl rfl rfl ?_
  clear hW32;intro w33 hW33
  refine St.nil fun a34 h34=>?_
  refine hK5 _ _ ?_
  refine wp_seq_k fun K35 hK35=>?_
  refine rg h34 fun ops=>?_;clear h34 a34
  refine sS 1 8 Tryz.underlying45 rfl infIns hW33 trivial rfl rfl rfl rfl ?_
  refine sT 0 hW33 rfl rfl infIns rfl rfl rfl ?_
  clear hW33;intro w36 hW36
  refine sa trivial rfl rfl ?_
  refine St.nil fun a37 h37=>?_
  refine hK35 _ _ ?_
  refine wp_ret ?_;with_reducible repeat first | refine of_then_ret ?_ | refine of_block_ret ?_
  have k0:a37.tmps[2]?.getD undef=.pointer (some ⟨B3,0,none⟩):=h37.sl2 2 _ rfl
  have k1:a37.tmps[3]?.getD undef=.bool true:=h37.sl2 3 _ rfl
  have c0:w36.cell? ⟨B3,0,none⟩=some (.int .i64 2):=cellOf (hW36.get 0 rfl) 0 _ rfl
  have c1:w36.cell? ⟨B3,1,none⟩=some (.int .i64 0):=cellOf (hW36.get 0 rfl) 1 _ rfl
  have c2:w36.cell? ⟨B3,2,none⟩=some (.int .i64 0):=cellOf (hW36.get 0 rfl) 2 _ rfl
  have c3:w36.cell? ⟨B3,3,none⟩=some (.int .i64 xc):=cellOf (hW36.get 0 rfl) 3 _ rfl
  have c4:w36.cell? ⟨B3,4,none⟩=some (.int .i64 0):=cellOf (hW36.get 0 rfl) 4 _ rfl
  have c5:w36.cell? ⟨B3,5,none⟩=some (.int .i64 xn):=cellOf (hW36.get 0 rfl) 5 _ rfl
  have c6:w36.cell? ⟨B3,6,none⟩=some (.slice ra rl rc):=cellOf (hW36.get 0 rfl) 6 _ rfl
  have c7:w36.cell? ⟨B3,7,none⟩=some (.slice aa al ac):=cellOf (hW36.get 0 rfl) 7 _ rfl
  exact bodyPost_ret (v:=.tuple #[.agg #[.int .i64 2,.int .i64 0,.int .i64 0,.int .i64 xc,.int .i64 0,.int .i64 xn,.slice ra rl rc,.slice aa al ac],.bool true]) (by simp [results,Tryz.results175,go_sem,k0,k1,c0,c1,c2,c3,c4,c5,c6,c7]) h37.defers ⟨rfl,hW36.bel⟩
theorem wf3 {xa xb xc xk xn : Int} {ra aa : Option Addr} {rl rc al ac : Nat} {w : World} :
    Rd Tryz.prog 175 #[.agg #[.int .i64 3,.int .i64 xa,.int .i64 xb,.int .i64 xc,.int .i64 xk,.int .i64 xn,.slice ra rl rc,.slice aa al ac]] w (.tuple #[.agg #[.int .i64 3,.int .i64 xa,.int .i64 xb,.int .i64 xc,.int .i64 xk,.int .i64 xn,.slice ra rl rc,.slice aa al ac],.bool true]):=by
  refine fr_enter (n:=48) Tryz.func175 rfl rfl rfl ?_
  intro a hF
  have hW:=Wd.start w
  replace hF:Fr 48 a [(0,.agg #[.int .i64 3,.int .i64 xa,.int .i64 xb,.int .i64 xc,.int .i64 xk,.int .i64 xn,.slice ra rl rc,.slice aa al ac])]:=hF
  refine wp_seq_k fun K1 hK1=>?_
  refine rg hF fun ops=>?_;clear hF a
  refine sB hW trivial rfl rfl ?_
  clear hW;intro w2 B2 hW2 hN;clear hN
  refine sAIns hW2 trivial rfl ?_
  clear hW2;intro w3 B3 hW3 hN;clear hN
  refine sa trivial rfl rfl ?_
  refine St.nil fun a4 h4=>?_
  refine hK1 _ _ ?_
  refine wp_seq_k fun K5 hK5=>?_
  refine wp_seq_k fun K6 hK6=>?_
  refine rg h4 fun ops=>?_;clear h4 a4
  refine sfIns0 trivial rfl rfl ?_
  refine sbInt 1 hW3 trivial rfl rfl rfl rfl ?_
  refine St.nil fun a7 h7=>?_
  refine hK6 _ _ ?_
  refine wp_block ?_
  refine wp_seq_k fun K8 hK8=>?_
  refine rg h7 fun ops=>?_;clear h7 a7
  refine seq trivial rfl rfl rfl ?_
  refine sa trivial rfl rfl ?_
  refine St.nil fun a9 h9=>?_
  refine hK8 _ _ ?_
  refine fr_false (t:=7) h9 rfl ?_
  refine wp_seq_k fun K10 hK10=>?_
  refine wp_seq_k fun K11 hK11=>?_
  refine rg h9 fun ops=>?_;clear h9 a9
  intro a12 h12
  refine fr_pure (t:=11) (v:=.bool true) (w':=w3) h12 rfl rfl rfl (fun K hK=>?_) ?_
  ·have k0:a12.tmps.getD 5 undef=.int .i64 3:=h12.sl 5 _ rfl
   go_simp
   exact hK
  clear h12;intro a13 hF13
  refine St.go hF13 ?_;clear hF13 a13
  refine sa trivial rfl rfl ?_
  refine St.nil fun a14 h14=>?_
  refine hK11 _ _ ?_
  refine fr_true (t:=10) h14 rfl ?_
  refine wp_skip ?_
  refine hK10 _ _ ?_
  refine fr_true (t:=10) h14 rfl ?_
  refine wp_skip ?_
  refine hK5 _ _ ?_
  refine wp_seq_k fun K15 hK15=>?_
  refine rg h14 fun ops=>?_;clear h14 a14
  refine sS 1 8 Tryz.underlying45 rfl infIns hW3 trivial rfl rfl rfl rfl ?_
  refine sT 0 hW3 rfl rfl infIns rfl rfl rfl ?_
  clear hW3;intro w16 hW16
  refine sa trivial rfl rfl ?_
  refine St.nil fun a17 h17=>?_
  refine hK15 _ _ ?_
  refine wp_ret ?_;with_reducible repeat first | refine of_then_ret ?_ | refine of_block_ret ?_
  have k0:a17.tmps[2]?.getD undef=.pointer (some ⟨B3,0,none⟩):=h17.sl2 2 _ rfl
  have k1:a17.tmps[3]?.getD undef=.bool true:=h17.sl2 3 _ rfl
  have c0:w16.cell? ⟨B3,0,none⟩=some (.int .i64 3):=cellOf (hW16.get 0 rfl) 0 _ rfl
  have c1:w16.cell? ⟨B3,1,none⟩=some (.int .i64 xa):=cellOf (hW16.get 0 rfl) 1 _ rfl
  have c2:w16.cell? ⟨B3,2,none⟩=some (.int .i64 xb):=cellOf (hW16.get 0 rfl) 2 _ rfl
  have c3:w16.cell? ⟨B3,3,none⟩=some (.int .i64 xc):=cellOf (hW16.get 0 rfl) 3 _ rfl
  have c4:w16.cell? ⟨B3,4,none⟩=some (.int .i64 xk):=cellOf (hW16.get 0 rfl) 4 _ rfl
  have c5:w16.cell? ⟨B3,5,none⟩=some (.int .i64 xn):=cellOf (hW16.get 0 rfl) 5 _ rfl
  have c6:w16.cell? ⟨B3,6,none⟩=some (.slice ra rl rc):=cellOf (hW16.get 0 rfl) 6 _ rfl
  have c7:w16.cell? ⟨B3,7,none⟩=some (.slice aa al ac):=cellOf (hW16.get 0 rfl) 7 _ rfl
  exact bodyPost_ret (v:=.tuple #[.agg #[.int .i64 3,.int .i64 xa,.int .i64 xb,.int .i64 xc,.int .i64 xk,.int .i64 xn,.slice ra rl rc,.slice aa al ac],.bool true]) (by simp [results,Tryz.results175,go_sem,k0,k1,c0,c1,c2,c3,c4,c5,c6,c7]) h17.defers ⟨rfl,hW16.bel⟩
theorem wf4 {xa xb xc xk xn : Int} {ra aa : Option Addr} {rl rc al ac : Nat} {w : World} :
    Rd Tryz.prog 175 #[.agg #[.int .i64 4,.int .i64 xa,.int .i64 xb,.int .i64 xc,.int .i64 xk,.int .i64 xn,.slice ra rl rc,.slice aa al ac]] w (.tuple #[.agg #[.int .i64 4,.int .i64 0,.int .i64 xb,.int .i64 xc,.int .i64 xk,.int .i64 xn,.slice ra rl rc,.slice aa al ac],.bool true]):=by
  refine fr_enter (n:=48) Tryz.func175 rfl rfl rfl ?_
  intro a hF
  have hW:=Wd.start w
  replace hF:Fr 48 a [(0,.agg #[.int .i64 4,.int .i64 xa,.int .i64 xb,.int .i64 xc,.int .i64 xk,.int .i64 xn,.slice ra rl rc,.slice aa al ac])]:=hF
  refine wp_seq_k fun K1 hK1=>?_
  refine rg hF fun ops=>?_;clear hF a
  refine sB hW trivial rfl rfl ?_
  clear hW;intro w2 B2 hW2 hN;clear hN
  refine sAIns hW2 trivial rfl ?_
  clear hW2;intro w3 B3 hW3 hN;clear hN
  refine sa trivial rfl rfl ?_
  refine St.nil fun a4 h4=>?_
  refine hK1 _ _ ?_
  refine wp_seq_k fun K5 hK5=>?_
  refine wp_seq_k fun K6 hK6=>?_
  refine rg h4 fun ops=>?_;clear h4 a4
  refine sfIns0 trivial rfl rfl ?_
  refine sbInt 1 hW3 trivial rfl rfl rfl rfl ?_
  refine St.nil fun a7 h7=>?_
  refine hK6 _ _ ?_
  refine wp_block ?_
  refine wp_seq_k fun K8 hK8=>?_
  refine rg h7 fun ops=>?_;clear h7 a7
  refine seq trivial rfl rfl rfl ?_
  refine sa trivial rfl rfl ?_
  refine St.nil fun a9 h9=>?_
  refine hK8 _ _ ?_
  refine fr_false (t:=7) h9 rfl ?_
  refine wp_seq_k fun K10 hK10=>?_
  refine wp_seq_k fun K11 hK11=>?_
  refine rg h9 fun ops=>?_;clear h9 a9
  refine seq trivial rfl rfl rfl ?_
  refine sa trivial rfl rfl ?_
  refine St.nil fun a12 h12=>?_
  refine hK11 _ _ ?_
  refine fr_false (t:=10) h12 rfl ?_
  refine rg h12 fun ops=>?_;clear h12 a12
  refine seq trivial rfl rfl rfl ?_
  refine sa trivial rfl rfl ?_
  refine St.nil fun a13 h13=>?_
  refine hK10 _ _ ?_
  refine fr_false (t:=10) h13 rfl ?_
  refine wp_seq_k fun K14 hK14=>?_
  refine wp_seq_k fun K15 hK15=>?_
  refine rg h13 fun ops=>?_;clear h13 a13
  intro a16 h16
  refine fr_pure (t:=14) (v:=.bool true) (w':=w3) h16 rfl rfl rfl (fun K hK=>?_) ?_
  ·have k0:a16.tmps.getD 5 undef=.int .i64 4:=h16.sl 5 _ rfl
   go_simp
   exact hK
  clear h16;intro a17 hF17
  refine St.go hF17 ?_;clear hF17 a17
  refine sa trivial rfl rfl ?_
  refine St.nil fun a18 h18=>?_
  refine hK15 _ _ ?_
  refine fr_true (t:=13) h18 rfl ?_
  refine wp_skip ?_
  refine hK14 _ _ ?_
  refine fr_true (t:=13) h18 rfl ?_
  refine rg h18 fun ops=>?_;clear h18 a18
  refine sfIns1 trivial rfl rfl ?_
  refine s1 1 inf1Int hW3 rfl rfl rfl rfl rfl rfl ?_
  clear hW3;intro w19 hW19
  refine St.nil fun a20 h20=>?_
  refine hK5 _ _ ?_
  refine wp_seq_k fun K21 hK21=>?_
  refine rg h20 fun ops=>?_;clear h20 a20
  refine sS 1 8 Tryz.underlying45 rfl infIns hW19 trivial rfl rfl rfl rfl ?_
  refine sT 0 hW19 rfl rfl infIns rfl rfl rfl ?_
  clear hW19;intro w22 hW22
  refine sa trivial rfl rfl ?_
  refine St.nil fun a23 h23=>?_
  refine hK21 _ _ ?_
  refine wp_ret ?_;with_reducible repeat first | refine of_then_ret ?_ | refine of_block_ret ?_
  have k0:a23.tmps[2]?.getD undef=.pointer (some ⟨B3,0,none⟩):=h23.sl2 2 _ rfl
  have k1:a23.tmps[3]?.getD undef=.bool true:=h23.sl2 3 _ rfl
  have c0:w22.cell? ⟨B3,0,none⟩=some (.int .i64 4):=cellOf (hW22.get 0 rfl) 0 _ rfl
  have c1:w22.cell? ⟨B3,1,none⟩=some (.int .i64 0):=cellOf (hW22.get 0 rfl) 1 _ rfl
  have c2:w22.cell? ⟨B3,2,none⟩=some (.int .i64 xb):=cellOf (hW22.get 0 rfl) 2 _ rfl
  have c3:w22.cell? ⟨B3,3,none⟩=some (.int .i64 xc):=cellOf (hW22.get 0 rfl) 3 _ rfl
  have c4:w22.cell? ⟨B3,4,none⟩=some (.int .i64 xk):=cellOf (hW22.get 0 rfl) 4 _ rfl
  have c5:w22.cell? ⟨B3,5,none⟩=some (.int .i64 xn):=cellOf (hW22.get 0 rfl) 5 _ rfl
  have c6:w22.cell? ⟨B3,6,none⟩=some (.slice ra rl rc):=cellOf (hW22.get 0 rfl) 6 _ rfl
  have c7:w22.cell? ⟨B3,7,none⟩=some (.slice aa al ac):=cellOf (hW22.get 0 rfl) 7 _ rfl
  exact bodyPost_ret (v:=.tuple #[.agg #[.int .i64 4,.int .i64 0,.int .i64 xb,.int .i64 xc,.int .i64 xk,.int .i64 xn,.slice ra rl rc,.slice aa al ac],.bool true]) (by simp [results,Tryz.results175,go_sem,k0,k1,c0,c1,c2,c3,c4,c5,c6,c7]) h23.defers ⟨rfl,hW22.bel⟩
theorem wf5 {xa xb xc xk xn : Int} {ra aa : Option Addr} {rl rc al ac : Nat} {w : World} :
    Rd Tryz.prog 175 #[.agg #[.int .i64 5,.int .i64 xa,.int .i64 xb,.int .i64 xc,.int .i64 xk,.int .i64 xn,.slice ra rl rc,.slice aa al ac]] w (.tuple #[.agg #[.int .i64 5,.int .i64 0,.int .i64 xb,.int .i64 xc,.int .i64 xk,.int .i64 xn,.slice ra rl rc,.slice none 0 0],.bool true]):=by
  refine fr_enter (n:=48) Tryz.func175 rfl rfl rfl ?_
  intro a hF
  have hW:=Wd.start w
  replace hF:Fr 48 a [(0,.agg #[.int .i64 5,.int .i64 xa,.int .i64 xb,.int .i64 xc,.int .i64 xk,.int .i64 xn,.slice ra rl rc,.slice aa al ac])]:=hF
  refine wp_seq_k fun K1 hK1=>?_
  refine rg hF fun ops=>?_;clear hF a
  refine sB hW trivial rfl rfl ?_
  clear hW;intro w2 B2 hW2 hN;clear hN
  refine sAIns hW2 trivial rfl ?_
  clear hW2;intro w3 B3 hW3 hN;clear hN
  refine sa trivial rfl rfl ?_
  refine St.nil fun a4 h4=>?_
  refine hK1 _ _ ?_
  refine wp_seq_k fun K5 hK5=>?_
  refine wp_seq_k fun K6 hK6=>?_
  refine rg h4 fun ops=>?_;clear h4 a4
  refine sfIns0 trivial rfl rfl ?_
  refine sbInt 1 hW3 trivial rfl rfl rfl rfl ?_
  refine St.nil fun a7 h7=>?_
  refine hK6 _ _ ?_
  refine wp_block ?_
  refine wp_seq_k fun K8 hK8=>?_
  refine rg h7 fun ops=>?_;clear h7 a7
  refine seq trivial rfl rfl rfl ?_
  refine sa trivial rfl rfl ?_
  refine St.nil fun a9 h9=>?_
  refine hK8 _ _ ?_
  refine fr_false (t:=7) h9 rfl ?_
  refine wp_seq_k fun K10 hK10=>?_
  refine wp_seq_k fun K11 hK11=>?_
  refine rg h9 fun ops=>?_;clear h9 a9
  refine seq trivial rfl rfl rfl ?_
  refine sa trivial rfl rfl ?_
  refine St.nil fun a12 h12=>?_
  refine hK11 _ _ ?_
  refine fr_false (t:=10) h12 rfl ?_
  refine rg h12 fun ops=>?_;clear h12 a12
  refine seq trivial rfl rfl rfl ?_
  refine sa trivial rfl rfl ?_
  refine St.nil fun a13 h13=>?_
  refine hK10 _ _ ?_
  refine fr_false (t:=10) h13 rfl ?_
  refine wp_seq_k fun K14 hK14=>?_
  refine wp_seq_k fun K15 hK15=>?_
  refine rg h13 fun ops=>?_;clear h13 a13
  refine seq trivial rfl rfl rfl ?_
  refine sa trivial rfl rfl ?_
  refine St.nil fun a16 h16=>?_
  refine hK15 _ _ ?_
  refine fr_false (t:=13) h16 rfl ?_
  refine wp_seq_k fun K17 hK17=>?_
  refine rg h16 fun ops=>?_;clear h16 a16
  refine seq trivial rfl rfl rfl ?_
  refine sa trivial rfl rfl ?_
  refine St.nil fun a18 h18=>?_
  refine hK17 _ _ ?_
  refine fr_false (t:=13) h18 rfl ?_
  refine rg h18 fun ops=>?_;clear h18 a18
  refine seq trivial rfl rfl rfl ?_
  refine sa trivial rfl rfl ?_
  refine St.nil fun a19 h19=>?_
  refine hK14 _ _ ?_
  refine fr_false (t:=13) h19 rfl ?_
  refine wp_seq_k fun K20 hK20=>?_
  refine wp_seq_k fun K21 hK21=>?_
  refine rg h19 fun ops=>?_;clear h19 a19
  refine seq trivial rfl rfl rfl ?_
  refine sa trivial rfl rfl ?_
  refine St.nil fun a22 h22=>?_
  refine hK21 _ _ ?_
  refine fr_false (t:=18) h22 rfl ?_
  refine rg h22 fun ops=>?_;clear h22 a22
  refine seq trivial rfl rfl rfl ?_
  refine sa trivial rfl rfl ?_
  refine St.nil fun a23 h23=>?_
  refine hK20 _ _ ?_
  refine fr_false (t:=18) h23 rfl ?_
  refine wp_seq_k fun K24 hK24=>?_
  refine rg h23 fun ops=>?_;clear h23 a23
  refine seq trivial rfl rfl rfl ?_
  refine sa trivial rfl rfl ?_
  refine St.nil fun a25 h25=>?_
  refine hK24 _ _ ?_
  refine fr_false (t:=23) h25 rfl ?_
  refine wp_seq_k fun K26 hK26=>?_
  refine wp_seq_k fun K27 hK27=>?_
  refine rg h25 fun ops=>?_;clear h25 a25
  refine seq trivial rfl rfl rfl ?_
  refine sa trivial rfl rfl ?_
  refine St.nil fun a28 h28=>?_
  refine hK27 _ _ ?_
  refine fr_false (t:=28) h28 rfl ?_
  refine rg h28 fun ops=>?_;clear h28 a28
  refine seq trivial rfl rfl rfl ?_
  refine sa trivial rfl rfl ?_
  refine St.nil fun a29 h29=>?_
  refine hK26 _ _ ?_
  refine fr_false (t:=28) h29 rfl ?_
  refine wp_seq_k fun K30 hK30=>?_
  refine rg h29 fun ops=>?_;clear h29 a29
  refine seq trivial rfl rfl rfl ?_
  refine sa trivial rfl rfl ?_
  refine St.nil fun a31 h31=>?_
  refine hK30 _ _ ?_
  refine fr_false (t:=34) h31 rfl ?_
  refine wp_seq_k fun K32 hK32=>?_
  refine rg h31 fun ops=>?_;clear h31 a31
  intro a33 h33
  refine fr_pure (t:=39) (v:=.bool true) (w':=w3) h33 rfl rfl rfl (fun K hK=>?_) ?_
  ·have k0:a33.tmps.getD 5 undef=.int .i64 5:=h33.sl 5 _ rfl
   go_simp
   exact hK
  clear h33;intro a34 hF34
  refine St.go hF34 ?_;clear hF34 a34
  refine sa trivial rfl rfl ?_
  refine St.nil fun a35 h35=>?_
  refine hK32 _ _ ?_
  refine fr_true (t:=38) h35 rfl ?_
  refine rg h35 fun ops=>?_;clear h35 a35
  refine sfIns1 trivial rfl rfl ?_
  refine s1 1 inf1Int hW3 rfl rfl rfl rfl rfl rfl ?_
  clear hW3;intro w36 hW36
  refine sfIns7 trivial rfl rfl ?_
  refine s1 1 inf1Ints hW36 rfl rfl rfl rfl rfl rfl ?_
  clear hW36;intro w37 hW37
  refine St.nil fun a38 h38=>?_
  refine hK5 _ _ ?_
  refine wp_seq_k fun K39 hK39=>?_
  refine rg h38 fun ops=>?_;clear h38 a38
  refine sS 1 8 Tryz.underlying45 rfl infIns hW37 trivial rfl rfl rfl rfl ?_
  refine sT 0 hW37 rfl rfl infIns rfl rfl rfl ?_
  clear hW37;intro w40 hW40
  refine sa trivial rfl rfl ?_
  refine St.nil fun a41 h41=>?_
  refine hK39 _ _ ?_
  refine wp_ret ?_;with_reducible repeat first | refine of_then_ret ?_ | refine of_block_ret ?_
  have k0:a41.tmps[2]?.getD undef=.pointer (some ⟨B3,0,none⟩):=h41.sl2 2 _ rfl
  have k1:a41.tmps[3]?.getD undef=.bool true:=h41.sl2 3 _ rfl
  have c0:w40.cell? ⟨B3,0,none⟩=some (.int .i64 5):=cellOf (hW40.get 0 rfl) 0 _ rfl
  have c1:w40.cell? ⟨B3,1,none⟩=some (.int .i64 0):=cellOf (hW40.get 0 rfl) 1 _ rfl
  have c2:w40.cell? ⟨B3,2,none⟩=some (.int .i64 xb):=cellOf (hW40.get 0 rfl) 2 _ rfl
  have c3:w40.cell? ⟨B3,3,none⟩=some (.int .i64 xc):=cellOf (hW40.get 0 rfl) 3 _ rfl
  have c4:w40.cell? ⟨B3,4,none⟩=some (.int .i64 xk):=cellOf (hW40.get 0 rfl) 4 _ rfl
  have c5:w40.cell? ⟨B3,5,none⟩=some (.int .i64 xn):=cellOf (hW40.get 0 rfl) 5 _ rfl
  have c6:w40.cell? ⟨B3,6,none⟩=some (.slice ra rl rc):=cellOf (hW40.get 0 rfl) 6 _ rfl
  have c7:w40.cell? ⟨B3,7,none⟩=some (.slice none 0 0):=cellOf (hW40.get 0 rfl) 7 _ rfl
  exact bodyPost_ret (v:=.tuple #[.agg #[.int .i64 5,.int .i64 0,.int .i64 xb,.int .i64 xc,.int .i64 xk,.int .i64 xn,.slice ra rl rc,.slice none 0 0],.bool true]) (by simp [results,Tryz.results175,go_sem,k0,k1,c0,c1,c2,c3,c4,c5,c6,c7]) h41.defers ⟨rfl,hW40.bel⟩
theorem wf6 {xa xb xc xk xn : Int} {ra aa : Option Addr} {rl rc al ac : Nat} {w : World} :
    Rd Tryz.prog 175 #[.agg #[.int .i64 6,.int .i64 xa,.int .i64 xb,.int .i64 xc,.int .i64 xk,.int .i64 xn,.slice ra rl rc,.slice aa al ac]] w (.tuple #[.agg #[.int .i64 6,.int .i64 0,.int .i64 xb,.int .i64 xc,.int .i64 0,.int .i64 xn,.slice ra rl rc,.slice aa al ac],.bool true]):=by
  refine fr_enter (n:=48) Tryz.func175 rfl rfl rfl ?_
  intro a hF
  have hW:=Wd.start w
  replace hF:Fr 48 a [(0,.agg #[.int .i64 6,.int .i64 xa,.int .i64 xb,.int .i64 xc,.int .i64 xk,.int .i64 xn,.slice ra rl rc,.slice aa al ac])]:=hF
  refine wp_seq_k fun K1 hK1=>?_
  refine rg hF fun ops=>?_;clear hF a
  refine sB hW trivial rfl rfl ?_
  clear hW;intro w2 B2 hW2 hN;clear hN
  refine sAIns hW2 trivial rfl ?_
  clear hW2;intro w3 B3 hW3 hN;clear hN
  refine sa trivial rfl rfl ?_
  refine St.nil fun a4 h4=>?_
  refine hK1 _ _ ?_
  refine wp_seq_k fun K5 hK5=>?_
  refine wp_seq_k fun K6 hK6=>?_
  refine rg h4 fun ops=>?_;clear h4 a4
  refine sfIns0 trivial rfl rfl ?_
  refine sbInt 1 hW3 trivial rfl rfl rfl rfl ?_
  refine St.nil fun a7 h7=>?_
  refine hK6 _ _ ?_
  refine wp_block ?_
  refine wp_seq_k fun K8 hK8=>?_
  refine rg h7 fun ops=>?_;clear h7 a7
  refine seq trivial rfl rfl rfl ?_
  refine sa trivial rfl rfl ?_
  refine St.nil fun a9 h9=>?_
  refine hK8 _ _ ?_
  refine fr_false (t:=7) h9 rfl ?_
  refine wp_seq_k fun K10 hK10=>?_
  refine wp_seq_k fun K11 hK11=>?_
  refine rg h9 fun ops=>?_;clear h9 a9
  refine seq trivial rfl rfl rfl ?_
  refine sa trivial rfl rfl ?_
  refine St.nil fun a12 h12=>?_
  refine hK11 _ _ ?_
  refine fr_false (t:=10) h12 rfl ?_
  refine rg h12 fun ops=>?_;clear h12 a12
  refine seq trivial rfl rfl rfl ?_
  refine sa trivial rfl rfl ?_
  refine St.nil fun a13 h13=>?_
  refine hK10 _ _ ?_
  refine fr_false (t:=10) h13 rfl ?_
  refine wp_seq_k fun K14 hK14=>?_
  refine wp_seq_k fun K15 hK15=>?_
  refine rg h13 fun ops=>?_;clear h13 a13
  refine seq trivial rfl rfl rfl ?_
  refine sa trivial rfl rfl ?_
  refine St.nil fun a16 h16=>?_
  refine hK15 _ _ ?_
  refine fr_false (t:=13) h16 rfl ?_
  refine wp_seq_k fun K17 hK17=>?_
  refine rg h16 fun ops=>?_;clear h16 a16
  refine seq trivial rfl rfl rfl ?_
  refine sa trivial rfl rfl ?_
  refine St.nil fun a18 h18=>?_
  refine hK17 _ _ ?_
  refine fr_false (t:=13) h18 rfl ?_
  refine rg h18 fun ops=>?_;clear h18 a18
  refine seq trivial rfl rfl rfl ?_
  refine sa trivial rfl rfl ?_
  refine St.nil fun a19 h19=>?_
  refine hK14 _ _ ?_
  refine fr_false (t:=13) h19 rfl ?_
  refine wp_seq_k fun K20 hK20=>?_
  refine wp_seq_k fun K21 hK21=>?_
  refine rg h19 fun ops=>?_;clear h19 a19
  refine seq trivial rfl rfl rfl ?_
  refine sa trivial rfl rfl ?_
  refine St.nil fun a22 h22=>?_
  refine hK21 _ _ ?_
  refine fr_false (t:=18) h22 rfl ?_
  refine rg h22 fun ops=>?_;clear h22 a22
  refine seq trivial rfl rfl rfl ?_
  refine sa trivial rfl rfl ?_
  refine St.nil fun a23 h23=>?_
  refine hK20 _ _ ?_
  refine fr_false (t:=18) h23 rfl ?_
  refine wp_seq_k fun K24 hK24=>?_
  refine rg h23 fun ops=>?_;clear h23 a23
  refine seq trivial rfl rfl rfl ?_
  refine sa trivial rfl rfl ?_
  refine St.nil fun a25 h25=>?_
  refine hK24 _ _ ?_
  refine fr_false (t:=23) h25 rfl ?_
  refine wp_seq_k fun K26 hK26=>?_
  refine wp_seq_k fun K27 hK27=>?_
  refine rg h25 fun ops=>?_;clear h25 a25
  refine seq trivial rfl rfl rfl ?_
  refine sa trivial rfl rfl ?_
  refine St.nil fun a28 h28=>?_
  refine hK27 _ _ ?_
  refine fr_false (t:=28) h28 rfl ?_
  refine rg h28 fun ops=>?_;clear h28 a28
  refine seq trivial rfl rfl rfl ?_
  refine sa trivial rfl rfl ?_
  refine St.nil fun a29 h29=>?_
  refine hK26 _ _ ?_
  refine fr_false (t:=28) h29 rfl ?_
  refine wp_seq_k fun K30 hK30=>?_
  refine rg h29 fun ops=>?_;clear h29 a29
  intro a31 h31
  refine fr_pure (t:=35) (v:=.bool true) (w':=w3) h31 rfl rfl rfl (fun K hK=>?_) ?_
  ·have k0:a31.tmps.getD 5 undef=.int .i64 6:=h31.sl 5 _ rfl
   go_simp
   exact hK
  clear h31;intro a32 hF32
  refine St.go hF32 ?_;clear hF32 a32
  refine sa trivial rfl rfl ?_
  refine St.nil fun a33 h33=>?_
  refine hK30 _ _ ?_
  refine fr_true (t:=34) h33 rfl ?_
  refine rg h33 fun ops=>?_;clear h33 a33
  refine sfIns1 trivial rfl rfl ?_
  refine s1 1 inf1Int hW3 rfl rfl rfl rfl rfl rfl ?_
  clear hW3;intro w34 hW34
  refine sfIns4 trivial rfl rfl ?_
  refine s1 1 inf1Int hW34 rfl rfl rfl rfl rfl rfl ?_
  clear hW34;intro w35 hW35
  refine St.nil fun a36 h36=>?_
  refine hK5 _ _ ?_
  refine wp_seq_k fun K37 hK37=>?_
  refine rg h36 fun ops=>?_;clear h36 a36
  refine sS 1 8 Tryz.underlying45 rfl infIns hW35 trivial rfl rfl rfl rfl ?_
  refine sT 0 hW35 rfl rfl infIns rfl rfl rfl ?_
  clear hW35;intro w38 hW38
  refine sa trivial rfl rfl ?_
  refine St.nil fun a39 h39=>?_
  refine hK37 _ _ ?_
  refine wp_ret ?_;with_reducible repeat first | refine of_then_ret ?_ | refine of_block_ret ?_
  have k0:a39.tmps[2]?.getD undef=.pointer (some ⟨B3,0,none⟩):=h39.sl2 2 _ rfl
  have k1:a39.tmps[3]?.getD undef=.bool true:=h39.sl2 3 _ rfl
  have c0:w38.cell? ⟨B3,0,none⟩=some (.int .i64 6):=cellOf (hW38.get 0 rfl) 0 _ rfl
  have c1:w38.cell? ⟨B3,1,none⟩=some (.int .i64 0):=cellOf (hW38.get 0 rfl) 1 _ rfl
  have c2:w38.cell? ⟨B3,2,none⟩=some (.int .i64 xb):=cellOf (hW38.get 0 rfl) 2 _ rfl
  have c3:w38.cell? ⟨B3,3,none⟩=some (.int .i64 xc):=cellOf (hW38.get 0 rfl) 3 _ rfl
  have c4:w38.cell? ⟨B3,4,none⟩=some (.int .i64 0):=cellOf (hW38.get 0 rfl) 4 _ rfl
  have c5:w38.cell? ⟨B3,5,none⟩=some (.int .i64 xn):=cellOf (hW38.get 0 rfl) 5 _ rfl
  have c6:w38.cell? ⟨B3,6,none⟩=some (.slice ra rl rc):=cellOf (hW38.get 0 rfl) 6 _ rfl
  have c7:w38.cell? ⟨B3,7,none⟩=some (.slice aa al ac):=cellOf (hW38.get 0 rfl) 7 _ rfl
  exact bodyPost_ret (v:=.tuple #[.agg #[.int .i64 6,.int .i64 0,.int .i64 xb,.int .i64 xc,.int .i64 0,.int .i64 xn,.slice ra rl rc,.slice aa al ac],.bool true]) (by simp [results,Tryz.results175,go_sem,k0,k1,c0,c1,c2,c3,c4,c5,c6,c7]) h39.defers ⟨rfl,hW38.bel⟩
theorem wf7 {xa xb xc xk xn : Int} {ra aa : Option Addr} {rl rc al ac : Nat} {w : World} :
    Rd Tryz.prog 175 #[.agg #[.int .i64 7,.int .i64 xa,.int .i64 xb,.int .i64 xc,.int .i64 xk,.int .i64 xn,.slice ra rl rc,.slice aa al ac]] w (.tuple #[.agg #[.int .i64 7,.int .i64 0,.int .i64 0,.int .i64 xc,.int .i64 0,.int .i64 xn,.slice ra rl rc,.slice aa al ac],.bool true]):=by
  refine fr_enter (n:=48) Tryz.func175 rfl rfl rfl ?_
  intro a hF
  have hW:=Wd.start w
  replace hF:Fr 48 a [(0,.agg #[.int .i64 7,.int .i64 xa,.int .i64 xb,.int .i64 xc,.int .i64 xk,.int .i64 xn,.slice ra rl rc,.slice aa al ac])]:=hF
  refine wp_seq_k fun K1 hK1=>?_
  refine rg hF fun ops=>?_;clear hF a
  refine sB hW trivial rfl rfl ?_
  clear hW;intro w2 B2 hW2 hN;clear hN
  refine sAIns hW2 trivial rfl ?_
  clear hW2;intro w3 B3 hW3 hN;clear hN
  refine sa trivial rfl rfl ?_
  refine St.nil fun a4 h4=>?_
  refine hK1 _ _ ?_
  refine wp_seq_k fun K5 hK5=>?_
  refine wp_seq_k fun K6 hK6=>?_
  refine rg h4 fun ops=>?_;clear h4 a4
  refine sfIns0 trivial rfl rfl ?_
  refine sbInt 1 hW3 trivial rfl rfl rfl rfl ?_
  refine St.nil fun a7 h7=>?_
  refine hK6 _ _ ?_
  refine wp_block ?_
  refine wp_seq_k fun K8 hK8=>?_
  refine rg h7 fun ops=>?_;clear h7 a7
  refine seq trivial rfl rfl rfl ?_
  refine sa trivial rfl rfl ?_
  refine St.nil fun a9 h9=>?_
  refine hK8 _ _ ?_
  refine fr_false (t:=7) h9 rfl ?_
  refine wp_seq_k fun K10 hK10=>?_
  refine wp_seq_k fun K11 hK11=>?_
  refine rg h9 fun ops=>?_;clear h9 a9
  refine seq trivial rfl rfl rfl ?_
  refine sa trivial rfl rfl ?_
  refine St.nil fun a12 h12=>?_
  refine hK11 _ _ ?_
  refine fr_false (t:=10) h12 rfl ?_
  refine rg h12 fun ops=>?_;clear h12 a12
  refine seq trivial rfl rfl rfl ?_
  refine sa trivial rfl rfl ?_
  refine St.nil fun a13 h13=>?_
  refine hK10 _ _ ?_
  refine fr_false (t:=10) h13 rfl ?_
  refine wp_seq_k fun K14 hK14=>?_
  refine wp_seq_k fun K15 hK15=>?_
  refine rg h13 fun ops=>?_;clear h13 a13
  refine seq trivial rfl rfl rfl ?_
  refine sa trivial rfl rfl ?_
  refine St.nil fun a16 h16=>?_
  refine hK15 _ _ ?_
  refine fr_false (t:=13) h16 rfl ?_
  refine wp_seq_k fun K17 hK17=>?_
  refine rg h16 fun ops=>?_;clear h16 a16
  refine seq trivial rfl rfl rfl ?_
  refine sa trivial rfl rfl ?_
  refine St.nil fun a18 h18=>?_
  refine hK17 _ _ ?_
  refine fr_false (t:=13) h18 rfl ?_
  refine rg h18 fun ops=>?_;clear h18 a18
  refine seq trivial rfl rfl rfl ?_
  refine sa trivial rfl rfl ?_
  refine St.nil fun a19 h19=>?_
  refine hK14 _ _ ?_
  refine fr_false (t:=13) h19 rfl ?_
  refine wp_seq_k fun K20 hK20=>?_
  refine wp_seq_k fun K21 hK21=>?_
  refine rg h19 fun ops=>?_;clear h19 a19
  refine seq trivial rfl rfl rfl ?_
  refine sa trivial rfl rfl ?_
  refine St.nil fun a22 h22=>?_
  refine hK21 _ _ ?_
  refine fr_false (t:=18) h22 rfl ?_
  refine rg h22 fun ops=>?_;clear h22 a22
  refine seq trivial rfl rfl rfl ?_
  refine sa trivial rfl rfl ?_
  refine St.nil fun a23 h23=>?_
  refine hK20 _ _ ?_
  refine fr_false (t:=18) h23 rfl ?_
  refine wp_seq_k fun K24 hK24=>?_
  refine rg h23 fun ops=>?_;clear h23 a23
  refine seq trivial rfl rfl rfl ?_
  refine sa trivial rfl rfl ?_
  refine St.nil fun a25 h25=>?_
  refine hK24 _ _ ?_
  refine fr_false (t:=23) h25 rfl ?_
  refine wp_seq_k fun K26 hK26=>?_
  refine wp_seq_k fun K27 hK27=>?_
  refine rg h25 fun ops=>?_;clear h25 a25
  refine seq trivial rfl rfl rfl ?_
  refine sa trivial rfl rfl ?_
  refine St.nil fun a28 h28=>?_
  refine hK27 _ _ ?_
  refine fr_false (t:=28) h28 rfl ?_
  refine rg h28 fun ops=>?_;clear h28 a28
  intro a29 h29
  refine fr_pure (t:=30) (v:=.bool true) (w':=w3) h29 rfl rfl rfl (fun K hK=>?_) ?_
  ·have k0:a29.tmps.getD 5 undef=.int .i64 7:=h29.sl 5 _ rfl
   go_simp
   exact hK
  clear h29;intro a30 hF30
  refine St.go hF30 ?_;clear hF30 a30
  refine sa trivial rfl rfl ?_
  refine St.nil fun a31 h31=>?_
  refine hK26 _ _ ?_
  refine fr_true (t:=28) h31 rfl ?_
  refine rg h31 fun ops=>?_;clear h31 a31
  refine sfIns1 trivial rfl rfl ?_
  refine s1 1 inf1Int hW3 rfl rfl rfl rfl rfl rfl ?_
  clear hW3;intro w32 hW32
  refine sfIns2 trivial rfl rfl ?_
  refine s1 1 inf1Int hW32 rfl rfl rfl rfl rfl rfl ?_
  clear hW32;intro w33 hW33
  refine sfIns4 trivial rfl rfl ?_
  refine s1 1 inf1Int hW33 rfl rfl rfl rfl rfl rfl ?_
  clear hW33;intro w34 hW34
  refine St.nil fun a35 h35=>?_
  refine hK5 _ _ ?_
  refine wp_seq_k fun K36 hK36=>?_
  refine rg h35 fun ops=>?_;clear h35 a35
  refine sS 1 8 Tryz.underlying45 rfl infIns hW34 trivial rfl rfl rfl rfl ?_
  refine sT 0 hW34 rfl rfl infIns rfl rfl rfl ?_
  clear hW34;intro w37 hW37
  refine sa trivial rfl rfl ?_
  refine St.nil fun a38 h38=>?_
  refine hK36 _ _ ?_
  refine wp_ret ?_;with_reducible repeat first | refine of_then_ret ?_ | refine of_block_ret ?_
  have k0:a38.tmps[2]?.getD undef=.pointer (some ⟨B3,0,none⟩):=h38.sl2 2 _ rfl
  have k1:a38.tmps[3]?.getD undef=.bool true:=h38.sl2 3 _ rfl
  have c0:w37.cell? ⟨B3,0,none⟩=some (.int .i64 7):=cellOf (hW37.get 0 rfl) 0 _ rfl
  have c1:w37.cell? ⟨B3,1,none⟩=some (.int .i64 0):=cellOf (hW37.get 0 rfl) 1 _ rfl
  have c2:w37.cell? ⟨B3,2,none⟩=some (.int .i64 0):=cellOf (hW37.get 0 rfl) 2 _ rfl
  have c3:w37.cell? ⟨B3,3,none⟩=some (.int .i64 xc):=cellOf (hW37.get 0 rfl) 3 _ rfl
  have c4:w37.cell? ⟨B3,4,none⟩=some (.int .i64 0):=cellOf (hW37.get 0 rfl) 4 _ rfl
  have c5:w37.cell? ⟨B3,5,none⟩=some (.int .i64 xn):=cellOf (hW37.get 0 rfl) 5 _ rfl
  have c6:w37.cell? ⟨B3,6,none⟩=some (.slice ra rl rc):=cellOf (hW37.get 0 rfl) 6 _ rfl
  have c7:w37.cell? ⟨B3,7,none⟩=some (.slice aa al ac):=cellOf (hW37.get 0 rfl) 7 _ rfl
  exact bodyPost_ret (v:=.tuple #[.agg #[.int .i64 7,.int .i64 0,.int .i64 0,.int .i64 xc,.int .i64 0,.int .i64 xn,.slice ra rl rc,.slice aa al ac],.bool true]) (by simp [results,Tryz.results175,go_sem,k0,k1,c0,c1,c2,c3,c4,c5,c6,c7]) h38.defers ⟨rfl,hW37.bel⟩
theorem wf8 {xa xb xc xk xn : Int} {ra aa : Option Addr} {rl rc al ac : Nat} {w : World} :
    Rd Tryz.prog 175 #[.agg #[.int .i64 8,.int .i64 xa,.int .i64 xb,.int .i64 xc,.int .i64 xk,.int .i64 xn,.slice ra rl rc,.slice aa al ac]] w (.tuple #[.agg #[.int .i64 8,.int .i64 0,.int .i64 0,.int .i64 xc,.int .i64 xk,.int .i64 xn,.slice ra rl rc,.slice aa al ac],.bool true]):=by
  refine fr_enter (n:=48) Tryz.func175 rfl rfl rfl ?_
  intro a hF
  have hW:=Wd.start w
  replace hF:Fr 48 a [(0,.agg #[.int .i64 8,.int .i64 xa,.int .i64 xb,.int .i64 xc,.int .i64 xk,.int .i64 xn,.slice ra rl rc,.slice aa al ac])]:=hF
  refine wp_seq_k fun K1 hK1=>?_
  refine rg hF fun ops=>?_;clear hF a
  refine sB hW trivial rfl rfl ?_
  clear hW;intro w2 B2 hW2 hN;clear hN
  refine sAIns hW2 trivial rfl ?_
  clear hW2;intro w3 B3 hW3 hN;clear hN
  refine sa trivial rfl rfl ?_
  refine St.nil fun a4 h4=>?_
  refine hK1 _ _ ?_
  refine wp_seq_k fun K5 hK5=>?_
  refine wp_seq_k fun K6 hK6=>?_
  refine rg h4 fun ops=>?_;clear h4 a4
  refine sfIns0 trivial rfl rfl ?_
  refine sbInt 1 hW3 trivial rfl rfl rfl rfl ?_
  refine St.nil fun a7 h7=>?_
  refine hK6 _ _ ?_
  refine wp_block ?_
  refine wp_seq_k fun K8 hK8=>?_
  refine rg h7 fun ops=>?_;clear h7 a7
  refine seq trivial rfl rfl rfl ?_
  refine sa trivial rfl rfl ?_
  refine St.nil fun a9 h9=>?_
  refine hK8 _ _ ?_
  refine fr_false (t:=7) h9 rfl ?_
  refine wp_seq_k fun K10 hK10=>?_
  refine wp_seq_k fun K11 hK11=>?_
  refine rg h9 fun ops=>?_;clear h9 a9
  refine seq trivial rfl rfl rfl ?_
  refine sa trivial rfl rfl ?_
  refine St.nil fun a12 h12=>?_
  refine hK11 _ _ ?_
  refine fr_false (t:=10) h12 rfl ?_
  refine rg h12 fun ops=>?_;clear h12 a12
  refine seq trivial rfl rfl rfl ?_
  refine sa trivial rfl rfl ?_
  refine St.nil fun a13 h13=>?_
  refine hK10 _ _ ?_
  refine fr_false (t:=10) h13 rfl ?_
  refine wp_seq_k fun K14 hK14=>?_
  refine wp_seq_k fun K15 hK15=>?_
  refine rg h13 fun ops=>?_;clear h13 a13
  refine seq trivial rfl rfl rfl ?_
  refine sa trivial rfl rfl ?_
  refine St.nil fun a16 h16=>?_
  refine hK15 _ _ ?_
  refine fr_false (t:=13) h16 rfl ?_
  refine wp_seq_k fun K17 hK17=>?_
  refine rg h16 fun ops=>?_;clear h16 a16
  refine seq trivial rfl rfl rfl ?_
  refine sa trivial rfl rfl ?_
  refine St.nil fun a18 h18=>?_
  refine hK17 _ _ ?_
  refine fr_false (t:=13) h18 rfl ?_
  refine rg h18 fun ops=>?_;clear h18 a18
  refine seq trivial rfl rfl rfl ?_
  refine sa trivial rfl rfl ?_
  refine St.nil fun a19 h19=>?_
  refine hK14 _ _ ?_
  refine fr_false (t:=13) h19 rfl ?_
  refine wp_seq_k fun K20 hK20=>?_
  refine wp_seq_k fun K21 hK21=>?_
  refine rg h19 fun ops=>?_;clear h19 a19
  intro a22 h22
  refine fr_pure (t:=19) (v:=.bool true) (w':=w3) h22 rfl rfl rfl (fun K hK=>?_) ?_
  ·have k0:a22.tmps.getD 5 undef=.int .i64 8:=h22.sl 5 _ rfl
   go_simp
   exact hK
  clear h22;intro a23 hF23
  refine St.go hF23 ?_;clear hF23 a23
  refine sa trivial rfl rfl ?_
  refine St.nil fun a24 h24=>?_
  refine hK21 _ _ ?_
  refine fr_true (t:=18) h24 rfl ?_
  refine wp_skip ?_
  refine hK20 _ _ ?_
  refine fr_true (t:=18) h24 rfl ?_
  refine rg h24 fun ops=>?_;clear h24 a24
  refine sfIns1 trivial rfl rfl ?_
  refine s1 1 inf1Int hW3 rfl rfl rfl rfl rfl rfl ?_
  clear hW3;intro w25 hW25
  refine sfIns2 trivial rfl rfl ?_
  refine s1 1 inf1Int hW25 rfl rfl rfl rfl rfl rfl ?_
  clear hW25;intro w26 hW26
  refine St.nil fun a27 h27=>?_
  refine hK5 _ _ ?_
  refine wp_seq_k fun K28 hK28=>?_
  refine rg h27 fun ops=>?_;clear h27 a27
  refine sS 1 8 Tryz.underlying45 rfl infIns hW26 trivial rfl rfl rfl rfl ?_
  refine sT 0 hW26 rfl rfl infIns rfl rfl rfl ?_
  clear hW26;intro w29 hW29
  refine sa trivial rfl rfl ?_
  refine St.nil fun a30 h30=>?_
  refine hK28 _ _ ?_
  refine wp_ret ?_;with_reducible repeat first | refine of_then_ret ?_ | refine of_block_ret ?_
  have k0:a30.tmps[2]?.getD undef=.pointer (some ⟨B3,0,none⟩):=h30.sl2 2 _ rfl
  have k1:a30.tmps[3]?.getD undef=.bool true:=h30.sl2 3 _ rfl
  have c0:w29.cell? ⟨B3,0,none⟩=some (.int .i64 8):=cellOf (hW29.get 0 rfl) 0 _ rfl
  have c1:w29.cell? ⟨B3,1,none⟩=some (.int .i64 0):=cellOf (hW29.get 0 rfl) 1 _ rfl
  have c2:w29.cell? ⟨B3,2,none⟩=some (.int .i64 0):=cellOf (hW29.get 0 rfl) 2 _ rfl
  have c3:w29.cell? ⟨B3,3,none⟩=some (.int .i64 xc):=cellOf (hW29.get 0 rfl) 3 _ rfl
  have c4:w29.cell? ⟨B3,4,none⟩=some (.int .i64 xk):=cellOf (hW29.get 0 rfl) 4 _ rfl
  have c5:w29.cell? ⟨B3,5,none⟩=some (.int .i64 xn):=cellOf (hW29.get 0 rfl) 5 _ rfl
  have c6:w29.cell? ⟨B3,6,none⟩=some (.slice ra rl rc):=cellOf (hW29.get 0 rfl) 6 _ rfl
  have c7:w29.cell? ⟨B3,7,none⟩=some (.slice aa al ac):=cellOf (hW29.get 0 rfl) 7 _ rfl
  exact bodyPost_ret (v:=.tuple #[.agg #[.int .i64 8,.int .i64 0,.int .i64 0,.int .i64 xc,.int .i64 xk,.int .i64 xn,.slice ra rl rc,.slice aa al ac],.bool true]) (by simp [results,Tryz.results175,go_sem,k0,k1,c0,c1,c2,c3,c4,c5,c6,c7]) h30.defers ⟨rfl,hW29.bel⟩
theorem wf9 {xa xb xc xk xn : Int} {ra aa : Option Addr} {rl rc al ac : Nat} {w : World} :
    Rd Tryz.prog 175 #[.agg #[.int .i64 9,.int .i64 xa,.int .i64 xb,.int .i64 xc,.int .i64 xk,.int .i64 xn,.slice ra rl rc,.slice aa al ac]] w (.tuple #[.agg #[.int .i64 9,.int .i64 0,.int .i64 0,.int .i64 xc,.int .i64 xk,.int .i64 xn,.slice ra rl rc,.slice aa al ac],.bool true]):=by
  refine fr_enter (n:=48) Tryz.func175 rfl rfl rfl ?_
  intro a hF
  have hW:=Wd.start w
  replace hF:Fr 48 a [(0,.agg #[.int .i64 9,.int .i64 xa,.int .i64 xb,.int .i64 xc,.int .i64 xk,.int .i64 xn,.slice ra rl rc,.slice aa al ac])]:=hF
  refine wp_seq_k fun K1 hK1=>?_
  refine rg hF fun ops=>?_;clear hF a
  refine sB hW trivial rfl rfl ?_
  clear hW;intro w2 B2 hW2 hN;clear hN
  refine sAIns hW2 trivial rfl ?_
  clear hW2;intro w3 B3 hW3 hN;clear hN
  refine sa trivial rfl rfl ?_
  refine St.nil fun a4 h4=>?_
  refine hK1 _ _ ?_
  refine wp_seq_k fun K5 hK5=>?_
  refine wp_seq_k fun K6 hK6=>?_
  refine rg h4 fun ops=>?_;clear h4 a4
  refine sfIns0 trivial rfl rfl ?_
  refine sbInt 1 hW3 trivial rfl rfl rfl rfl ?_
  refine St.nil fun a7 h7=>?_
  refine hK6 _ _ ?_
  refine wp_block ?_
  refine wp_seq_k fun K8 hK8=>?_
  refine rg h7 fun ops=>?_;clear h7 a7
  refine seq trivial rfl rfl rfl ?_
  refine sa trivial rfl rfl ?_
  refine St.nil fun a9 h9=>?_
  refine hK8 _ _ ?_
  refine fr_false (t:=7) h9 rfl ?_
  refine wp_seq_k fun K10 hK10=>?_
  refine wp_seq_k fun K11 hK11=>?_
  refine rg h9 fun ops=>?_;clear h9 a9
  refine seq trivial rfl rfl rfl ?_
  refine sa trivial rfl rfl ?_
  refine St.nil fun a12 h12=>?_
  refine hK11 _ _ ?_
  refine fr_false (t:=10) h12 rfl ?_
  refine rg h12 fun ops=>?_;clear h12 a12
  refine seq trivial rfl rfl rfl ?_
  refine sa trivial rfl rfl ?_
  refine St.nil fun a13 h13=>?_
  refine hK10 _ _ ?_
  refine fr_false (t:=10) h13 rfl ?_
  refine wp_seq_k fun K14 hK14=>?_
  refine wp_seq_k fun K15 hK15=>?_
  refine rg h13 fun ops=>?_;clear h13 a13
  refine seq trivial rfl rfl rfl ?_
  refine sa trivial rfl rfl ?_
  refine St.nil fun a16 h16=>?_
  refine hK15 _ _ ?_
  refine fr_false (t:=13) h16 rfl ?_
  refine wp_seq_k fun K17 hK17=>?_
  refine rg h16 fun ops=>?_;clear h16 a16
  refine seq trivial rfl rfl rfl ?_
  refine sa trivial rfl rfl ?_
  refine St.nil fun a18 h18=>?_
  refine hK17 _ _ ?_
  refine fr_false (t:=13) h18 rfl ?_
  refine rg h18 fun ops=>?_;clear h18 a18
  refine seq trivial rfl rfl rfl ?_
  refine sa trivial rfl rfl ?_
  refine St.nil fun a19 h19=>?_
  refine hK14 _ _ ?_
  refine fr_false (t:=13) h19 rfl ?_
  refine wp_seq_k fun K20 hK20=>?_
  refine wp_seq_k fun K21 hK21=>?_
  refine rg h19 fun ops=>?_;clear h19 a19
  refine seq trivial rfl rfl rfl ?_
  refine sa trivial rfl rfl ?_
  refine St.nil fun a22 h22=>?_
  refine hK21 _ _ ?_
  refine fr_false (t:=18) h22 rfl ?_
  refine rg h22 fun ops=>?_;clear h22 a22
  intro a23 h23
  refine fr_pure (t:=20) (v:=.bool true) (w':=w3) h23 rfl rfl rfl (fun K hK=>?_) ?_
  ·have k0:a23.tmps.getD 5 undef=.int .i64 9:=h23.sl 5 _ rfl
   go_simp
   exact hK
  clear h23;intro a24 hF24
  refine St.go hF24 ?_;clear hF24 a24
  refine sa trivial rfl rfl ?_
  refine St.nil fun a25 h25=>?_
  refine hK20 _ _ ?_
  refine fr_true (t:=18) h25 rfl ?_
  refine rg h25 fun ops=>?_;clear h25 a25
  refine sfIns1 trivial rfl rfl ?_
  refine s1 1 inf1Int hW3 rfl rfl rfl rfl rfl rfl ?_
  clear hW3;intro w26 hW26
  refine sfIns2 trivial rfl rfl ?_
  refine s1 1 inf1Int hW26 rfl rfl rfl rfl rfl rfl ?_
  clear hW26;intro w27 hW27
  refine St.nil fun a28 h28=>?_
  refine hK5 _ _ ?_
  refine wp_seq_k fun K29 hK29=>?_
  refine rg h28 fun ops=>?_;clear h28 a28
  refine sS 1 8 Tryz.underlying45 rfl infIns hW27 trivial rfl rfl rfl rfl ?_
  refine sT 0 hW27 rfl rfl infIns rfl rfl rfl ?_
  clear hW27;intro w30 hW30
  refine sa trivial rfl rfl ?_
  refine St.nil fun a31 h31=>?_
  refine hK29 _ _ ?_
  refine wp_ret ?_;with_reducible repeat first | refine of_then_ret ?_ | refine of_block_ret ?_
  have k0:a31.tmps[2]?.getD undef=.pointer (some ⟨B3,0,none⟩):=h31.sl2 2 _ rfl
  have k1:a31.tmps[3]?.getD undef=.bool true:=h31.sl2 3 _ rfl
  have c0:w30.cell? ⟨B3,0,none⟩=some (.int .i64 9):=cellOf (hW30.get 0 rfl) 0 _ rfl
  have c1:w30.cell? ⟨B3,1,none⟩=some (.int .i64 0):=cellOf (hW30.get 0 rfl) 1 _ rfl
  have c2:w30.cell? ⟨B3,2,none⟩=some (.int .i64 0):=cellOf (hW30.get 0 rfl) 2 _ rfl
  have c3:w30.cell? ⟨B3,3,none⟩=some (.int .i64 xc):=cellOf (hW30.get 0 rfl) 3 _ rfl
  have c4:w30.cell? ⟨B3,4,none⟩=some (.int .i64 xk):=cellOf (hW30.get 0 rfl) 4 _ rfl
  have c5:w30.cell? ⟨B3,5,none⟩=some (.int .i64 xn):=cellOf (hW30.get 0 rfl) 5 _ rfl
  have c6:w30.cell? ⟨B3,6,none⟩=some (.slice ra rl rc):=cellOf (hW30.get 0 rfl) 6 _ rfl
  have c7:w30.cell? ⟨B3,7,none⟩=some (.slice aa al ac):=cellOf (hW30.get 0 rfl) 7 _ rfl
  exact bodyPost_ret (v:=.tuple #[.agg #[.int .i64 9,.int .i64 0,.int .i64 0,.int .i64 xc,.int .i64 xk,.int .i64 xn,.slice ra rl rc,.slice aa al ac],.bool true]) (by simp [results,Tryz.results175,go_sem,k0,k1,c0,c1,c2,c3,c4,c5,c6,c7]) h31.defers ⟨rfl,hW30.bel⟩
theorem wf10 {xa xb xc xk xn : Int} {ra aa : Option Addr} {rl rc al ac : Nat} {w : World} :
    Rd Tryz.prog 175 #[.agg #[.int .i64 10,.int .i64 xa,.int .i64 xb,.int .i64 xc,.int .i64 xk,.int .i64 xn,.slice ra rl rc,.slice aa al ac]] w (.tuple #[.agg #[.int .i64 10,.int .i64 0,.int .i64 0,.int .i64 0,.int .i64 xk,.int .i64 xn,.slice ra rl rc,.slice aa al ac],.bool true]):=by
  refine fr_enter (n:=48) Tryz.func175 rfl rfl rfl ?_
  intro a hF
  have hW:=Wd.start w
  replace hF:Fr 48 a [(0,.agg #[.int .i64 10,.int .i64 xa,.int .i64 xb,.int .i64 xc,.int .i64 xk,.int .i64 xn,.slice ra rl rc,.slice aa al ac])]:=hF
  refine wp_seq_k fun K1 hK1=>?_
  refine rg hF fun ops=>?_;clear hF a
  refine sB hW trivial rfl rfl ?_
  clear hW;intro w2 B2 hW2 hN;clear hN
  refine sAIns hW2 trivial rfl ?_
  clear hW2;intro w3 B3 hW3 hN;clear hN
  refine sa trivial rfl rfl ?_
  refine St.nil fun a4 h4=>?_
  refine hK1 _ _ ?_
  refine wp_seq_k fun K5 hK5=>?_
  refine wp_seq_k fun K6 hK6=>?_
  refine rg h4 fun ops=>?_;clear h4 a4
  refine sfIns0 trivial rfl rfl ?_
  refine sbInt 1 hW3 trivial rfl rfl rfl rfl ?_
  refine St.nil fun a7 h7=>?_
  refine hK6 _ _ ?_
  refine wp_block ?_
  refine wp_seq_k fun K8 hK8=>?_
  refine rg h7 fun ops=>?_;clear h7 a7
  refine seq trivial rfl rfl rfl ?_
  refine sa trivial rfl rfl ?_
  refine St.nil fun a9 h9=>?_
  refine hK8 _ _ ?_
  refine fr_false (t:=7) h9 rfl ?_
  refine wp_seq_k fun K10 hK10=>?_
  refine wp_seq_k fun K11 hK11=>?_
  refine rg h9 fun ops=>?_;clear h9 a9
  refine seq trivial rfl rfl rfl ?_
  refine sa trivial rfl rfl ?_
  refine St.nil fun a12 h12=>?_
  refine hK11 _ _ ?_
  refine fr_false (t:=10) h12 rfl ?_
  refine rg h12 fun ops=>?_;clear h12 a12
  refine seq trivial rfl rfl rfl ?_
  refine sa trivial rfl rfl ?_
  refine St.nil fun a13 h13=>?_
  refine hK10 _ _ ?_
  refine fr_false (t:=10) h13 rfl ?_
  refine wp_seq_k fun K14 hK14=>?_
  refine wp_seq_k fun K15 hK15=>?_
  refine rg h13 fun ops=>?_;clear h13 a13
  refine seq trivial rfl rfl rfl ?_
  refine sa trivial rfl rfl ?_
  refine St.nil fun a16 h16=>?_
  refine hK15 _ _ ?_
  refine fr_false (t:=13) h16 rfl ?_
  refine wp_seq_k fun K17 hK17=>?_
  refine rg h16 fun ops=>?_;clear h16 a16
  refine seq trivial rfl rfl rfl ?_
  refine sa trivial rfl rfl ?_
  refine St.nil fun a18 h18=>?_
  refine hK17 _ _ ?_
  refine fr_false (t:=13) h18 rfl ?_
  refine rg h18 fun ops=>?_;clear h18 a18
  refine seq trivial rfl rfl rfl ?_
  refine sa trivial rfl rfl ?_
  refine St.nil fun a19 h19=>?_
  refine hK14 _ _ ?_
  refine fr_false (t:=13) h19 rfl ?_
  refine wp_seq_k fun K20 hK20=>?_
  refine wp_seq_k fun K21 hK21=>?_
  refine rg h19 fun ops=>?_;clear h19 a19
  refine seq trivial rfl rfl rfl ?_
  refine sa trivial rfl rfl ?_
  refine St.nil fun a22 h22=>?_
  refine hK21 _ _ ?_
  refine fr_false (t:=18) h22 rfl ?_
  refine rg h22 fun ops=>?_;clear h22 a22
  refine seq trivial rfl rfl rfl ?_
  refine sa trivial rfl rfl ?_
  refine St.nil fun a23 h23=>?_
  refine hK20 _ _ ?_
  refine fr_false (t:=18) h23 rfl ?_
  refine wp_seq_k fun K24 hK24=>?_
  refine rg h23 fun ops=>?_;clear h23 a23
  intro a25 h25
  refine fr_pure (t:=24) (v:=.bool true) (w':=w3) h25 rfl rfl rfl (fun K hK=>?_) ?_
  ·have k0:a25.tmps.getD 5 undef=.int .i64 10:=h25.sl 5 _ rfl
   go_simp
   exact hK
  clear h25;intro a26 hF26
  refine St.go hF26 ?_;clear hF26 a26
  refine sa trivial rfl rfl ?_
  refine St.nil fun a27 h27=>?_
  refine hK24 _ _ ?_
  refine fr_true (t:=23) h27 rfl ?_
  refine rg h27 fun ops=>?_;clear h27 a27
  refine sfIns1 trivial rfl rfl ?_
  refine s1 1 inf1Int hW3 rfl rfl rfl rfl rfl rfl ?_
  clear hW3;intro w28 hW28
  refine sfIns2 trivial rfl rfl ?_
  refine s1 1 inf1Int hW28 rfl rfl rfl rfl rfl rfl ?_
  clear hW28;intro w29 hW29
  refine sfIns3 trivial rfl rfl ?_
  refine s1 1 inf1Int hW29 rfl rfl rfl rfl rfl rfl ?_
  clear hW29;intro w30 hW30
  refine St.nil fun a31 h31=>?_
  refine hK5 _ _ ?_
  refine wp_seq_k fun K32 hK32=>?_
  refine rg h31 fun ops=>?_;clear h31 a31
  refine sS 1 8 Tryz.underlying45 rfl infIns hW30 trivial rfl rfl rfl rfl ?_
  refine sT 0 hW30 rfl rfl infIns rfl rfl rfl ?_
  clear hW30;intro w33 hW33
  refine sa trivial rfl rfl ?_
  refine St.nil fun a34 h34=>?_
  refine hK32 _ _ ?_
  refine wp_ret ?_;with_reducible repeat first | refine of_then_ret ?_ | refine of_block_ret ?_
  have k0:a34.tmps[2]?.getD undef=.pointer (some ⟨B3,0,none⟩):=h34.sl2 2 _ rfl
  have k1:a34.tmps[3]?.getD undef=.bool true:=h34.sl2 3 _ rfl
  have c0:w33.cell? ⟨B3,0,none⟩=some (.int .i64 10):=cellOf (hW33.get 0 rfl) 0 _ rfl
  have c1:w33.cell? ⟨B3,1,none⟩=some (.int .i64 0):=cellOf (hW33.get 0 rfl) 1 _ rfl
  have c2:w33.cell? ⟨B3,2,none⟩=some (.int .i64 0):=cellOf (hW33.get 0 rfl) 2 _ rfl
  have c3:w33.cell? ⟨B3,3,none⟩=some (.int .i64 0):=cellOf (hW33.get 0 rfl) 3 _ rfl
  have c4:w33.cell? ⟨B3,4,none⟩=some (.int .i64 xk):=cellOf (hW33.get 0 rfl) 4 _ rfl
  have c5:w33.cell? ⟨B3,5,none⟩=some (.int .i64 xn):=cellOf (hW33.get 0 rfl) 5 _ rfl
  have c6:w33.cell? ⟨B3,6,none⟩=some (.slice ra rl rc):=cellOf (hW33.get 0 rfl) 6 _ rfl
  have c7:w33.cell? ⟨B3,7,none⟩=some (.slice aa al ac):=cellOf (hW33.get 0 rfl) 7 _ rfl
  exact bodyPost_ret (v:=.tuple #[.agg #[.int .i64 10,.int .i64 0,.int .i64 0,.int .i64 0,.int .i64 xk,.int .i64 xn,.slice ra rl rc,.slice aa al ac],.bool true]) (by simp [results,Tryz.results175,go_sem,k0,k1,c0,c1,c2,c3,c4,c5,c6,c7]) h34.defers ⟨rfl,hW33.bel⟩
theorem wf11 {xa xb xc xk xn : Int} {ra aa : Option Addr} {rl rc al ac : Nat} {w : World} :
    Rd Tryz.prog 175 #[.agg #[.int .i64 11,.int .i64 xa,.int .i64 xb,.int .i64 xc,.int .i64 xk,.int .i64 xn,.slice ra rl rc,.slice aa al ac]] w (.tuple #[.agg #[.int .i64 11,.int .i64 0,.int .i64 xb,.int .i64 xc,.int .i64 xk,.int .i64 xn,.slice ra rl rc,.slice aa al ac],.bool true]):=by
  refine fr_enter (n:=48) Tryz.func175 rfl rfl rfl ?_
  intro a hF
  have hW:=Wd.start w
  replace hF:Fr 48 a [(0,.agg #[.int .i64 11,.int .i64 xa,.int .i64 xb,.int .i64 xc,.int .i64 xk,.int .i64 xn,.slice ra rl rc,.slice aa al ac])]:=hF
  refine wp_seq_k fun K1 hK1=>?_
  refine rg hF fun ops=>?_;clear hF a
  refine sB hW trivial rfl rfl ?_
  clear hW;intro w2 B2 hW2 hN;clear hN
  refine sAIns hW2 trivial rfl ?_
  clear hW2;intro w3 B3 hW3 hN;clear hN
  refine sa trivial rfl rfl ?_
  refine St.nil fun a4 h4=>?_
  refine hK1 _ _ ?_
  refine wp_seq_k fun K5 hK5=>?_
  refine wp_seq_k fun K6 hK6=>?_
  refine rg h4 fun ops=>?_;clear h4 a4
  refine sfIns0 trivial rfl rfl ?_
  refine sbInt 1 hW3 trivial rfl rfl rfl rfl ?_
  refine St.nil fun a7 h7=>?_
  refine hK6 _ _ ?_
  refine wp_block ?_
  refine wp_seq_k fun K8 hK8=>?_
  refine rg h7 fun ops=>?_;clear h7 a7
  refine seq trivial rfl rfl rfl ?_
  refine sa trivial rfl rfl ?_
  refine St.nil fun a9 h9=>?_
  refine hK8 _ _ ?_
  refine fr_false (t:=7) h9 rfl ?_
  refine wp_seq_k fun K10 hK10=>?_
  refine wp_seq_k fun K11 hK11=>?_
  refine rg h9 fun ops=>?_;clear h9 a9
  refine seq trivial rfl rfl rfl ?_
  refine sa trivial rfl rfl ?_
  refine St.nil fun a12 h12=>?_
  refine hK11 _ _ ?_
  refine fr_false (t:=10) h12 rfl ?_
  refine rg h12 fun ops=>?_;clear h12 a12
  refine seq trivial rfl rfl rfl ?_
  refine sa trivial rfl rfl ?_
  refine St.nil fun a13 h13=>?_
  refine hK10 _ _ ?_
  refine fr_false (t:=10) h13 rfl ?_
  refine wp_seq_k fun K14 hK14=>?_
  refine wp_seq_k fun K15 hK15=>?_
  refine rg h13 fun ops=>?_;clear h13 a13
  refine seq trivial rfl rfl rfl ?_
  refine sa trivial rfl rfl ?_
  refine St.nil fun a16 h16=>?_
  refine hK15 _ _ ?_
  refine fr_false (t:=13) h16 rfl ?_
  refine wp_seq_k fun K17 hK17=>?_
  refine rg h16 fun ops=>?_;clear h16 a16
  intro a18 h18
  refine fr_pure (t:=15) (v:=.bool true) (w':=w3) h18 rfl rfl rfl (fun K hK=>?_) ?_
  ·have k0:a18.tmps.getD 5 undef=.int .i64 11:=h18.sl 5 _ rfl
   go_simp
   exact hK
  clear h18;intro a19 hF19
  refine St.go hF19 ?_;clear hF19 a19
  refine sa trivial rfl rfl ?_
  refine St.nil fun a20 h20=>?_
  refine hK17 _ _ ?_
  refine fr_true (t:=13) h20 rfl ?_
  refine wp_skip ?_
  refine hK14 _ _ ?_
  refine fr_true (t:=13) h20 rfl ?_
  refine rg h20 fun ops=>?_;clear h20 a20
  refine sfIns1 trivial rfl rfl ?_
  refine s1 1 inf1Int hW3 rfl rfl rfl rfl rfl rfl ?_
  clear hW3;intro w21 hW21
  refine St.nil fun a22 h22=>?_
  refine hK5 _ _ ?_
  refine wp_seq_k fun K23 hK23=>?_
  refine rg h22 fun ops=>?_;clear h22 a22
  refine sS 1 8 Tryz.underlying45 rfl infIns hW21 trivial rfl rfl rfl rfl ?_
  refine sT 0 hW21 rfl rfl infIns rfl rfl rfl ?_
  clear hW21;intro w24 hW24
  refine sa trivial rfl rfl ?_
  refine St.nil fun a25 h25=>?_
  refine hK23 _ _ ?_
  refine wp_ret ?_;with_reducible repeat first | refine of_then_ret ?_ | refine of_block_ret ?_
  have k0:a25.tmps[2]?.getD undef=.pointer (some ⟨B3,0,none⟩):=h25.sl2 2 _ rfl
  have k1:a25.tmps[3]?.getD undef=.bool true:=h25.sl2 3 _ rfl
  have c0:w24.cell? ⟨B3,0,none⟩=some (.int .i64 11):=cellOf (hW24.get 0 rfl) 0 _ rfl
  have c1:w24.cell? ⟨B3,1,none⟩=some (.int .i64 0):=cellOf (hW24.get 0 rfl) 1 _ rfl
  have c2:w24.cell? ⟨B3,2,none⟩=some (.int .i64 xb):=cellOf (hW24.get 0 rfl) 2 _ rfl
  have c3:w24.cell? ⟨B3,3,none⟩=some (.int .i64 xc):=cellOf (hW24.get 0 rfl) 3 _ rfl
  have c4:w24.cell? ⟨B3,4,none⟩=some (.int .i64 xk):=cellOf (hW24.get 0 rfl) 4 _ rfl
  have c5:w24.cell? ⟨B3,5,none⟩=some (.int .i64 xn):=cellOf (hW24.get 0 rfl) 5 _ rfl
  have c6:w24.cell? ⟨B3,6,none⟩=some (.slice ra rl rc):=cellOf (hW24.get 0 rfl) 6 _ rfl
  have c7:w24.cell? ⟨B3,7,none⟩=some (.slice aa al ac):=cellOf (hW24.get 0 rfl) 7 _ rfl
  exact bodyPost_ret (v:=.tuple #[.agg #[.int .i64 11,.int .i64 0,.int .i64 xb,.int .i64 xc,.int .i64 xk,.int .i64 xn,.slice ra rl rc,.slice aa al ac],.bool true]) (by simp [results,Tryz.results175,go_sem,k0,k1,c0,c1,c2,c3,c4,c5,c6,c7]) h25.defers ⟨rfl,hW24.bel⟩
theorem wf12 {xa xb xc xk xn : Int} {ra aa : Option Addr} {rl rc al ac : Nat} {w : World} :
    Rd Tryz.prog 175 #[.agg #[.int .i64 12,.int .i64 xa,.int .i64 xb,.int .i64 xc,.int .i64 xk,.int .i64 xn,.slice ra rl rc,.slice aa al ac]] w (.tuple #[.agg #[.int .i64 12,.int .i64 xa,.int .i64 xb,.int .i64 xc,.int .i64 xk,.int .i64 xn,.slice ra rl rc,.slice aa al ac],.bool true]):=by
  refine fr_enter (n:=48) Tryz.func175 rfl rfl rfl ?_
  intro a hF
  have hW:=Wd.start w
  replace hF:Fr 48 a [(0,.agg #[.int .i64 12,.int .i64 xa,.int .i64 xb,.int .i64 xc,.int .i64 xk,.int .i64 xn,.slice ra rl rc,.slice aa al ac])]:=hF
  refine wp_seq_k fun K1 hK1=>?_
  refine rg hF fun ops=>?_;clear hF a
  refine sB hW trivial rfl rfl ?_
  clear hW;intro w2 B2 hW2 hN;clear hN
  refine sAIns hW2 trivial rfl ?_
  clear hW2;intro w3 B3 hW3 hN;clear hN
  refine sa trivial rfl rfl ?_
  refine St.nil fun a4 h4=>?_
  refine hK1 _ _ ?_
  refine wp_seq_k fun K5 hK5=>?_
  refine wp_seq_k fun K6 hK6=>?_
  refine rg h4 fun ops=>?_;clear h4 a4
  refine sfIns0 trivial rfl rfl ?_
  refine sbInt 1 hW3 trivial rfl rfl rfl rfl ?_
  refine St.nil fun a7 h7=>?_
  refine hK6 _ _ ?_
  refine wp_block ?_
  refine wp_seq_k fun K8 hK8=>?_
  refine rg h7 fun ops=>?_;clear h7 a7
  refine seq trivial rfl rfl rfl ?_
  refine sa trivial rfl rfl ?_
  refine St.nil fun a9 h9=>?_
  refine hK8 _ _ ?_
  refine fr_false (t:=7) h9 rfl ?_
  refine wp_seq_k fun K10 hK10=>?_
  refine wp_seq_k fun K11 hK11=>?_
  refine rg h9 fun ops=>?_;clear h9 a9
  refine seq trivial rfl rfl rfl ?_
  refine sa trivial rfl rfl ?_
  refine St.nil fun a12 h12=>?_
  refine hK11 _ _ ?_
  refine fr_false (t:=10) h12 rfl ?_
  refine rg h12 fun ops=>?_;clear h12 a12
  intro a13 h13
  refine fr_pure (t:=12) (v:=.bool true) (w':=w3) h13 rfl rfl rfl (fun K hK=>?_) ?_
  ·have k0:a13.tmps.getD 5 undef=.int .i64 12:=h13.sl 5 _ rfl
   go_simp
   exact hK
  clear h13;intro a14 hF14
  refine St.go hF14 ?_;clear hF14 a14
  refine sa trivial rfl rfl ?_
  refine St.nil fun a15 h15=>?_
  refine hK10 _ _ ?_
  refine fr_true (t:=10) h15 rfl ?_
  refine wp_skip ?_
  refine hK5 _ _ ?_
  refine wp_seq_k fun K16 hK16=>?_
  refine rg h15 fun ops=>?_;clear h15 a15
  refine sS 1 8 Tryz.underlying45 rfl infIns hW3 trivial rfl rfl rfl rfl ?_
  refine sT 0 hW3 rfl rfl infIns rfl rfl rfl ?_
  clear hW3;intro w17 hW17
  refine sa trivial rfl rfl ?_
  refine St.nil fun a18 h18=>?_
  refine hK16 _ _ ?_
  refine wp_ret ?_;with_reducible repeat first | refine of_then_ret ?_ | refine of_block_ret ?_
  have k0:a18.tmps[2]?.getD undef=.pointer (some ⟨B3,0,none⟩):=h18.sl2 2 _ rfl
  have k1:a18.tmps[3]?.getD undef=.bool true:=h18.sl2 3 _ rfl
  have c0:w17.cell? ⟨B3,0,none⟩=some (.int .i64 12):=cellOf (hW17.get 0 rfl) 0 _ rfl
  have c1:w17.cell? ⟨B3,1,none⟩=some (.int .i64 xa):=cellOf (hW17.get 0 rfl) 1 _ rfl
  have c2:w17.cell? ⟨B3,2,none⟩=some (.int .i64 xb):=cellOf (hW17.get 0 rfl) 2 _ rfl
  have c3:w17.cell? ⟨B3,3,none⟩=some (.int .i64 xc):=cellOf (hW17.get 0 rfl) 3 _ rfl
  have c4:w17.cell? ⟨B3,4,none⟩=some (.int .i64 xk):=cellOf (hW17.get 0 rfl) 4 _ rfl
  have c5:w17.cell? ⟨B3,5,none⟩=some (.int .i64 xn):=cellOf (hW17.get 0 rfl) 5 _ rfl
  have c6:w17.cell? ⟨B3,6,none⟩=some (.slice ra rl rc):=cellOf (hW17.get 0 rfl) 6 _ rfl
  have c7:w17.cell? ⟨B3,7,none⟩=some (.slice aa al ac):=cellOf (hW17.get 0 rfl) 7 _ rfl
  exact bodyPost_ret (v:=.tuple #[.agg #[.int .i64 12,.int .i64 xa,.int .i64 xb,.int .i64 xc,.int .i64 xk,.int .i64 xn,.slice ra rl rc,.slice aa al ac],.bool true]) (by simp [results,Tryz.results175,go_sem,k0,k1,c0,c1,c2,c3,c4,c5,c6,c7]) h18.defers ⟨rfl,hW17.bel⟩
theorem wf13 {xa xb xc xk xn : Int} {ra aa : Option Addr} {rl rc al ac : Nat} {w : World} :
    Rd Tryz.prog 175 #[.agg #[.int .i64 13,.int .i64 xa,.int .i64 xb,.int .i64 xc,.int .i64 xk,.int .i64 xn,.slice ra rl rc,.slice aa al ac]] w (.tuple #[.agg #[.int .i64 13,.int .i64 0,.int .i64 xb,.int .i64 xc,.int .i64 xk,.int .i64 xn,.slice ra rl rc,.slice aa al ac],.bool true]):=by
  refine fr_enter (n:=48) Tryz.func175 rfl rfl rfl ?_
  intro a hF
  have hW:=Wd.start w
  replace hF:Fr 48 a [(0,.agg #[.int .i64 13,.int .i64 xa,.int .i64 xb,.int .i64 xc,.int .i64 xk,.int .i64 xn,.slice ra rl rc,.slice aa al ac])]:=hF
  refine wp_seq_k fun K1 hK1=>?_
  refine rg hF fun ops=>?_;clear hF a
  refine sB hW trivial rfl rfl ?_
  clear hW;intro w2 B2 hW2 hN;clear hN
  refine sAIns hW2 trivial rfl ?_
  clear hW2;intro w3 B3 hW3 hN;clear hN
  refine sa trivial rfl rfl ?_
  refine St.nil fun a4 h4=>?_
  refine hK1 _ _ ?_
  refine wp_seq_k fun K5 hK5=>?_
  refine wp_seq_k fun K6 hK6=>?_
  refine rg h4 fun ops=>?_;clear h4 a4
  refine sfIns0 trivial rfl rfl ?_
  refine sbInt 1 hW3 trivial rfl rfl rfl rfl ?_
  refine St.nil fun a7 h7=>?_
  refine hK6 _ _ ?_
  refine wp_block ?_
  refine wp_seq_k fun K8 hK8=>?_
  refine rg h7 fun ops=>?_;clear h7 a7
  refine seq trivial rfl rfl rfl ?_
  refine sa trivial rfl rfl ?_
  refine St.nil fun a9 h9=>?_
  refine hK8 _ _ ?_
  refine fr_false (t:=7) h9 rfl ?_
  refine wp_seq_k fun K10 hK10=>?_
  refine wp_seq_k fun K11 hK11=>?_
  refine rg h9 fun ops=>?_;clear h9 a9
  refine seq trivial rfl rfl rfl ?_
  refine sa trivial rfl rfl ?_
  refine St.nil fun a12 h12=>?_
  refine hK11 _ _ ?_
  refine fr_false (t:=10) h12 rfl ?_
  refine rg h12 fun ops=>?_;clear h12 a12
  refine seq trivial rfl rfl rfl ?_
  refine sa trivial rfl rfl ?_
  refine St.nil fun a13 h13=>?_
  refine hK10 _ _ ?_
  refine fr_false (t:=10) h13 rfl ?_
  refine wp_seq_k fun K14 hK14=>?_
  refine wp_seq_k fun K15 hK15=>?_
  refine rg h13 fun ops=>?_;clear h13 a13
  refine seq trivial rfl rfl rfl ?_
  refine sa trivial rfl rfl ?_
  refine St.nil fun a16 h16=>?_
  refine hK15 _ _ ?_
  refine fr_false (t:=13) h16 rfl ?_
  refine wp_seq_k fun K17 hK17=>?_
  refine rg h16 fun ops=>?_;clear h16 a16
  refine seq trivial rfl rfl rfl ?_
  refine sa trivial rfl rfl ?_
  refine St.nil fun a18 h18=>?_
  refine hK17 _ _ ?_
  refine fr_false (t:=13) h18 rfl ?_
  refine rg h18 fun ops=>?_;clear h18 a18
  intro a19 h19
  refine fr_pure (t:=16) (v:=.bool true) (w':=w3) h19 rfl rfl rfl (fun K hK=>?_) ?_
  ·have k0:a19.tmps.getD 5 undef=.int .i64 13:=h19.sl 5 _ rfl
   go_simp
   exact hK
  clear h19;intro a20 hF20
  refine St.go hF20 ?_;clear hF20 a20
  refine sa trivial rfl rfl ?_
  refine St.nil fun a21 h21=>?_
  refine hK14 _ _ ?_
  refine fr_true (t:=13) h21 rfl ?_
  refine rg h21 fun ops=>?_;clear h21 a21
  refine sfIns1 trivial rfl rfl ?_
  refine s1 1 inf1Int hW3 rfl rfl rfl rfl rfl rfl ?_
  clear hW3;intro w22 hW22
  refine St.nil fun a23 h23=>?_
  refine hK5 _ _ ?_
  refine wp_seq_k fun K24 hK24=>?_
  refine rg h23 fun ops=>?_;clear h23 a23
  refine sS 1 8 Tryz.underlying45 rfl infIns hW22 trivial rfl rfl rfl rfl ?_
  refine sT 0 hW22 rfl rfl infIns rfl rfl rfl ?_
  clear hW22;intro w25 hW25
  refine sa trivial rfl rfl ?_
  refine St.nil fun a26 h26=>?_
  refine hK24 _ _ ?_
  refine wp_ret ?_;with_reducible repeat first | refine of_then_ret ?_ | refine of_block_ret ?_
  have k0:a26.tmps[2]?.getD undef=.pointer (some ⟨B3,0,none⟩):=h26.sl2 2 _ rfl
  have k1:a26.tmps[3]?.getD undef=.bool true:=h26.sl2 3 _ rfl
  have c0:w25.cell? ⟨B3,0,none⟩=some (.int .i64 13):=cellOf (hW25.get 0 rfl) 0 _ rfl
  have c1:w25.cell? ⟨B3,1,none⟩=some (.int .i64 0):=cellOf (hW25.get 0 rfl) 1 _ rfl
  have c2:w25.cell? ⟨B3,2,none⟩=some (.int .i64 xb):=cellOf (hW25.get 0 rfl) 2 _ rfl
  have c3:w25.cell? ⟨B3,3,none⟩=some (.int .i64 xc):=cellOf (hW25.get 0 rfl) 3 _ rfl
  have c4:w25.cell? ⟨B3,4,none⟩=some (.int .i64 xk):=cellOf (hW25.get 0 rfl) 4 _ rfl
  have c5:w25.cell? ⟨B3,5,none⟩=some (.int .i64 xn):=cellOf (hW25.get 0 rfl) 5 _ rfl
  have c6:w25.cell? ⟨B3,6,none⟩=some (.slice ra rl rc):=cellOf (hW25.get 0 rfl) 6 _ rfl
  have c7:w25.cell? ⟨B3,7,none⟩=some (.slice aa al ac):=cellOf (hW25.get 0 rfl) 7 _ rfl
  exact bodyPost_ret (v:=.tuple #[.agg #[.int .i64 13,.int .i64 0,.int .i64 xb,.int .i64 xc,.int .i64 xk,.int .i64 xn,.slice ra rl rc,.slice aa al ac],.bool true]) (by simp [results,Tryz.results175,go_sem,k0,k1,c0,c1,c2,c3,c4,c5,c6,c7]) h26.defers ⟨rfl,hW25.bel⟩
theorem wf14 {xa xb xc xk xn : Int} {ra aa : Option Addr} {rl rc al ac : Nat} {w : World} :
    Rd Tryz.prog 175 #[.agg #[.int .i64 14,.int .i64 xa,.int .i64 xb,.int .i64 xc,.int .i64 xk,.int .i64 xn,.slice ra rl rc,.slice aa al ac]] w (.tuple #[.agg #[.int .i64 14,.int .i64 xa,.int .i64 xb,.int .i64 xc,.int .i64 0,.int .i64 xn,.slice none 0 0,.slice none 0 0],.bool true]):=by
  refine fr_enter (n:=48) Tryz.func175 rfl rfl rfl ?_
  intro a hF
  have hW:=Wd.start w
  replace hF:Fr 48 a [(0,.agg #[.int .i64 14,.int .i64 xa,.int .i64 xb,.int .i64 xc,.int .i64 xk,.int .i64 xn,.slice ra rl rc,.slice aa al ac])]:=hF
  refine wp_seq_k fun K1 hK1=>?_
  refine rg hF fun ops=>?_;clear hF a
  refine sB hW trivial rfl rfl ?_
  clear hW;intro w2 B2 hW2 hN;clear hN
  refine sAIns hW2 trivial rfl ?_
  clear hW2;intro w3 B3 hW3 hN;clear hN
  refine sa trivial rfl rfl ?_
  refine St.nil fun a4 h4=>?_
  refine hK1 _ _ ?_
  refine wp_seq_k fun K5 hK5=>?_
  refine wp_seq_k fun K6 hK6=>?_
  refine rg h4 fun ops=>?_;clear h4 a4
  refine sfIns0 trivial rfl rfl ?_
  refine sbInt 1 hW3 trivial rfl rfl rfl rfl ?_
  refine St.nil fun a7 h7=>?_
  refine hK6 _ _ ?_
  refine wp_block ?_
  refine wp_seq_k fun K8 hK8=>?_
  refine rg h7 fun ops=>?_;clear h7 a7
  refine seq trivial rfl rfl rfl ?_
  refine sa trivial rfl rfl ?_
  refine St.nil fun a9 h9=>?_
  refine hK8 _ _ ?_
  refine fr_false (t:=7) h9 rfl ?_
  refine wp_seq_k fun K10 hK10=>?_
  refine wp_seq_k fun K11 hK11=>?_
  refine rg h9 fun ops=>?_;clear h9 a9
  refine seq trivial rfl rfl rfl ?_
  refine sa trivial rfl rfl ?_
  refine St.nil fun a12 h12=>?_
  refine hK11 _ _ ?_
  refine fr_false (t:=10) h12 rfl ?_
  refine rg h12 fun ops=>?_;clear h12 a12
  refine seq trivial rfl rfl rfl ?_
  refine sa trivial rfl rfl ?_
  refine St.nil fun a13 h13=>?_
  refine hK10 _ _ ?_
  refine fr_false (t:=10) h13 rfl ?_
  refine wp_seq_k fun K14 hK14=>?_
  refine wp_seq_k fun K15 hK15=>?_
  refine rg h13 fun ops=>?_;clear h13 a13
  refine seq trivial rfl rfl rfl ?_
  refine sa trivial rfl rfl ?_
  refine St.nil fun a16 h16=>?_
  refine hK15 _ _ ?_
  refine fr_false (t:=13) h16 rfl ?_
  refine wp_seq_k fun K17 hK17=>?_
  refine rg h16 fun ops=>?_;clear h16 a16
  refine seq trivial rfl rfl rfl ?_
  refine sa trivial rfl rfl ?_
  refine St.nil fun a18 h18=>?_
  refine hK17 _ _ ?_
  refine fr_false (t:=13) h18 rfl ?_
  refine rg h18 fun ops=>?_;clear h18 a18
  refine seq trivial rfl rfl rfl ?_
  refine sa trivial rfl rfl ?_
  refine St.nil fun a19 h19=>?_
  refine hK14 _ _ ?_
  refine fr_false (t:=13) h19 rfl ?_
  refine wp_seq_k fun K20 hK20=>?_
  refine wp_seq_k fun K21 hK21=>?_
  refine rg h19 fun ops=>?_;clear h19 a19
  refine seq trivial rfl rfl rfl ?_
  refine sa trivial rfl rfl ?_
  refine St.nil fun a22 h22=>?_
  refine hK21 _ _ ?_
  refine fr_false (t:=18) h22 rfl ?_
  refine rg h22 fun ops=>?_;clear h22 a22
  refine seq trivial rfl rfl rfl ?_
  refine sa trivial rfl rfl ?_
  refine St.nil fun a23 h23=>?_
  refine hK20 _ _ ?_
  refine fr_false (t:=18) h23 rfl ?_
  refine wp_seq_k fun K24 hK24=>?_
  refine rg h23 fun ops=>?_;clear h23 a23
  refine seq trivial rfl rfl rfl ?_
  refine sa trivial rfl rfl ?_
  refine St.nil fun a25 h25=>?_
  refine hK24 _ _ ?_
  refine fr_false (t:=23) h25 rfl ?_
  refine wp_seq_k fun K26 hK26=>?_
  refine wp_seq_k fun K27 hK27=>?_
  refine rg h25 fun ops=>?_;clear h25 a25
  refine seq trivial rfl rfl rfl ?_
  refine sa trivial rfl rfl ?_
  refine St.nil fun a28 h28=>?_
  refine hK27 _ _ ?_
  refine fr_false (t:=28) h28 rfl ?_
  refine rg h28 fun ops=>?_;clear h28 a28
  refine seq trivial rfl rfl rfl ?_
  refine sa trivial rfl rfl ?_
  refine St.nil fun a29 h29=>?_
  refine hK26 _ _ ?_
  refine fr_false (t:=28) h29 rfl ?_
  refine wp_seq_k fun K30 hK30=>?_
  refine rg h29 fun ops=>?_;clear h29 a29
  refine seq trivial rfl rfl rfl ?_
  refine sa trivial rfl rfl ?_
  refine St.nil fun a31 h31=>?_
  refine hK30 _ _ ?_
  refine fr_false (t:=34) h31 rfl ?_
  refine wp_seq_k fun K32 hK32=>?_
  refine rg h31 fun ops=>?_;clear h31 a31
  refine seq trivial rfl rfl rfl ?_
  refine sa trivial rfl rfl ?_
  refine St.nil fun a33 h33=>?_
  refine hK32 _ _ ?_
  refine fr_false (t:=38) h33 rfl ?_
  refine wp_seq_k fun K34 hK34=>?_
  refine rg h33 fun ops=>?_;clear h33 a33
  intro a35 h35
  refine fr_pure (t:=43) (v:=.bool true) (w':=w3) h35 rfl rfl rfl (fun K hK=>?_) ?_
  ·have k0:a35.tmps.getD 5 undef=.int .i64 14:=h35.sl 5 _ rfl
   go_simp
   exact hK
  clear h35;intro a36 hF36
  refine St.go hF36 ?_;clear hF36 a36
  refine sa trivial rfl rfl ?_
  refine St.nil fun a37 h37=>?_
  refine hK34 _ _ ?_
  refine fr_true (t:=42) h37 rfl ?_
  refine rg h37 fun ops=>?_;clear h37 a37
  refine sfIns4 trivial rfl rfl ?_
  refine s1 1 inf1Int hW3 rfl rfl rfl rfl rfl rfl ?_
  clear hW3;intro w38 hW38
  refine sfIns6 trivial rfl rfl ?_
  refine s1 1 inf1Ints hW38 rfl rfl rfl rfl rfl rfl ?_
  clear hW38;intro w39 hW39
  refine sfIns7 trivial rfl rfl ?_
  refine s1 1 inf1Ints hW39 rfl rfl rfl rfl rfl rfl ?_
  clear hW39;intro w40 hW40
  refine St.nil fun a41 h41=>?_
  refine hK5 _ _ ?_
  refine wp_seq_k fun K42 hK42=>?_
  refine rg h41 fun ops=>?_;clear h41 a41
  refine sS 1 8 Tryz.underlying45 rfl infIns hW40 trivial rfl rfl rfl rfl ?_
  refine sT 0 hW40 rfl rfl infIns rfl rfl rfl ?_
  clear hW40;intro w43 hW43
  refine sa trivial rfl rfl ?_
  refine St.nil fun a44 h44=>?_
  refine hK42 _ _ ?_
  refine wp_ret ?_;with_reducible repeat first | refine of_then_ret ?_ | refine of_block_ret ?_
  have k0:a44.tmps[2]?.getD undef=.pointer (some ⟨B3,0,none⟩):=h44.sl2 2 _ rfl
  have k1:a44.tmps[3]?.getD undef=.bool true:=h44.sl2 3 _ rfl
  have c0:w43.cell? ⟨B3,0,none⟩=some (.int .i64 14):=cellOf (hW43.get 0 rfl) 0 _ rfl
  have c1:w43.cell? ⟨B3,1,none⟩=some (.int .i64 xa):=cellOf (hW43.get 0 rfl) 1 _ rfl
  have c2:w43.cell? ⟨B3,2,none⟩=some (.int .i64 xb):=cellOf (hW43.get 0 rfl) 2 _ rfl
  have c3:w43.cell? ⟨B3,3,none⟩=some (.int .i64 xc):=cellOf (hW43.get 0 rfl) 3 _ rfl
  have c4:w43.cell? ⟨B3,4,none⟩=some (.int .i64 0):=cellOf (hW43.get 0 rfl) 4 _ rfl
  have c5:w43.cell? ⟨B3,5,none⟩=some (.int .i64 xn):=cellOf (hW43.get 0 rfl) 5 _ rfl
  have c6:w43.cell? ⟨B3,6,none⟩=some (.slice none 0 0):=cellOf (hW43.get 0 rfl) 6 _ rfl
  have c7:w43.cell? ⟨B3,7,none⟩=some (.slice none 0 0):=cellOf (hW43.get 0 rfl) 7 _ rfl
  exact bodyPost_ret (v:=.tuple #[.agg #[.int .i64 14,.int .i64 xa,.int .i64 xb,.int .i64 xc,.int .i64 0,.int .i64 xn,.slice none 0 0,.slice none 0 0],.bool true]) (by simp [results,Tryz.results175,go_sem,k0,k1,c0,c1,c2,c3,c4,c5,c6,c7]) h44.defers ⟨rfl,hW43.bel⟩
theorem wfNo {xop xa xb xc xk xn : Int} {ra aa : Option Addr} {rl rc al ac : Nat} {w : World} (h : xop ≠ 1 ∧ xop ≠ 2 ∧ xop ≠ 3 ∧ xop ≠ 4 ∧ xop ≠ 5 ∧ xop ≠ 6 ∧ xop ≠ 7 ∧ xop ≠ 8 ∧ xop ≠ 9 ∧ xop ≠ 10 ∧ xop ≠ 11 ∧ xop ≠ 12 ∧ xop ≠ 13 ∧ xop ≠ 14) :
    Rd Tryz.prog 175 #[.agg #[.int .i64 xop,.int .i64 xa,.int .i64 xb,.int .i64 xc,.int .i64 xk,.int .i64 xn,.slice ra rl rc,.slice aa al ac]] w (.tuple #[.agg #[.int .i64 xop,.int .i64 xa,.int .i64 xb,.int .i64 xc,.int .i64 xk,.int .i64 xn,.slice ra rl rc,.slice aa al ac],.bool false]):=by
  refine fr_enter (n:=48) Tryz.func175 rfl rfl rfl ?_
  intro a hF
  have hW:=Wd.start w
  replace hF:Fr 48 a [(0,.agg #[.int .i64 xop,.int .i64 xa,.int .i64 xb,.int .i64 xc,.int .i64 xk,.int .i64 xn,.slice ra rl rc,.slice aa al ac])]:=hF
  refine wp_seq_k fun K1 hK1=>?_
  refine rg hF fun ops=>?_;clear hF a
  refine sB hW trivial rfl rfl ?_
  clear hW;intro w2 B2 hW2 hN;clear hN
  refine sAIns hW2 trivial rfl ?_
  clear hW2;intro w3 B3 hW3 hN;clear hN
  refine sa trivial rfl rfl ?_
  refine St.nil fun a4 h4=>?_
  refine hK1 _ _ ?_
  refine wp_seq_k fun K5 hK5=>?_
  refine wp_seq_k fun K6 hK6=>?_
  refine rg h4 fun ops=>?_;clear h4 a4
  refine sfIns0 trivial rfl rfl ?_
  refine sbInt 1 hW3 trivial rfl rfl rfl rfl ?_
  refine St.nil fun a7 h7=>?_
  refine hK6 _ _ ?_
  refine wp_block ?_
  refine wp_seq_k fun K8 hK8=>?_
  refine rg h7 fun ops=>?_;clear h7 a7
  refine seq trivial rfl rfl rfl ?_
  refine sa trivial rfl rfl ?_
  refine St.nil fun a9 h9=>?_
  refine hK8 _ _ ?_
  refine fr_cond (t:=7) h9 rfl (fun hb=>?_) (fun hb=>?_)
  ·exact absurd (by simpa using hb) (h.1)
  clear hb
  refine wp_seq_k fun K10 hK10=>?_
  refine wp_seq_k fun K11 hK11=>?_
  refine rg h9 fun ops=>?_;clear h9 a9
  refine seq trivial rfl rfl rfl ?_
  refine sa trivial rfl rfl ?_
  refine St.nil fun a12 h12=>?_
  refine hK11 _ _ ?_
  refine fr_cond (t:=10) h12 rfl (fun hb=>?_) (fun hb=>?_)
  ·rw [hb] at h12
   exact absurd (by simpa using hb) (h.2.2.1)
  rw [hb] at h12
  clear hb
  refine rg h12 fun ops=>?_;clear h12 a12
  refine seq trivial rfl rfl rfl ?_
  refine sa trivial rfl rfl ?_
  refine St.nil fun a13 h13=>?_
  refine hK10 _ _ ?_
  refine fr_cond (t:=10) h13 rfl (fun hb=>?_) (fun hb=>?_)
  ·rw [hb] at h13
   exact absurd (by simpa using hb) (h.2.2.2.2.2.2.2.2.2.2.2.1)
  rw [hb] at h13
  clear hb
  refine wp_seq_k fun K14 hK14=>?_
  refine wp_seq_k fun K15 hK15=>?_
  refine rg h13 fun ops=>?_;clear h13 a13
  refine seq trivial rfl rfl rfl ?_
  refine sa trivial rfl rfl ?_
  refine St.nil fun a16 h16=>?_
  refine hK15 _ _ ?_
  refine fr_cond (t:=13) h16 rfl (fun hb=>?_) (fun hb=>?_)
  ·rw [hb] at h16
   exact absurd (by simpa using hb) (h.2.2.2.1)
  rw [hb] at h16
  clear hb
  refine wp_seq_k fun K17 hK17=>?_
  refine rg h16 fun ops=>?_;clear h16 a16
  refine seq trivial rfl rfl rfl ?_
  refine sa trivial rfl rfl ?_
  refine St.nil fun a18 h18=>?_
  refine hK17 _ _ ?_
  refine fr_cond (t:=13) h18 rfl (fun hb=>?_) (fun hb=>?_)
  ·rw [hb] at h18
   exact absurd (by simpa using hb) (h.2.2.2.2.2.2.2.2.2.2.1)
  rw [hb] at h18
  clear hb
  refine rg h18 fun ops=>?_;clear h18 a18
  refine seq trivial rfl rfl rfl ?_
  refine sa trivial rfl rfl ?_
  refine St.nil fun a19 h19=>?_
  refine hK14 _ _ ?_
  refine fr_cond (t:=13) h19 rfl (fun hb=>?_) (fun hb=>?_)
  ·rw [hb] at h19
   exact absurd (by simpa using hb) (h.2.2.2.2.2.2.2.2.2.2.2.2.1)
  rw [hb] at h19
  clear hb
  refine wp_seq_k fun K20 hK20=>?_
  refine wp_seq_k fun K21 hK21=>?_
  refine rg h19 fun ops=>?_;clear h19 a19
  refine seq trivial rfl rfl rfl ?_
  refine sa trivial rfl rfl ?_
  refine St.nil fun a22 h22=>?_
  refine hK21 _ _ ?_
  refine fr_cond (t:=18) h22 rfl (fun hb=>?_) (fun hb=>?_)
  ·rw [hb] at h22
   exact absurd (by simpa using hb) (h.2.2.2.2.2.2.2.1)
  rw [hb] at h22
  clear hb
  refine rg h22 fun ops=>?_;clear h22 a22
  refine seq trivial rfl rfl rfl ?_
  refine sa trivial rfl rfl ?_
  refine St.nil fun a23 h23=>?_
  refine hK20 _ _ ?_
  refine fr_cond (t:=18) h23 rfl (fun hb=>?_) (fun hb=>?_)
  ·rw [hb] at h23
   exact absurd (by simpa using hb) (h.2.2.2.2.2.2.2.2.1)
  rw [hb] at h23
  clear hb
  refine wp_seq_k fun K24 hK24=>?_
  refine rg h23 fun ops=>?_;clear h23 a23
  refine seq trivial rfl rfl rfl ?_
  refine sa trivial rfl rfl ?_
  refine St.nil fun a25 h25=>?_
  refine hK24 _ _ ?_
  refine fr_cond (t:=23) h25 rfl (fun hb=>?_) (fun hb=>?_)
  ·exact absurd (by simpa using hb) (h.2.2.2.2.2.2.2.2.2.1)
  clear hb
  refine wp_seq_k fun K26 hK26=>?_
  refine wp_seq_k fun K27 hK27=>?_
  refine rg h25 fun ops=>?_;clear h25 a25
  refine seq trivial rfl rfl rfl ?_
  refine sa trivial rfl rfl ?_
  refine St.nil fun a28 h28=>?_
  refine hK27 _ _ ?_
  refine fr_cond (t:=28) h28 rfl (fun hb=>?_) (fun hb=>?_)
  ·rw [hb] at h28
   exact absurd (by simpa using hb) (h.2.1)
  rw [hb] at h28
  clear hb
  refine rg h28 fun ops=>?_;clear h28 a28
  refine seq trivial rfl rfl rfl ?_
  refine sa trivial rfl rfl ?_
  refine St.nil fun a29 h29=>?_
  refine hK26 _ _ ?_
  refine fr_cond (t:=28) h29 rfl (fun hb=>?_) (fun hb=>?_)
  ·rw [hb] at h29
   exact absurd (by simpa using hb) (h.2.2.2.2.2.2.1)
  rw [hb] at h29
  clear hb
  refine wp_seq_k fun K30 hK30=>?_
  refine rg h29 fun ops=>?_;clear h29 a29
  refine seq trivial rfl rfl rfl ?_
  refine sa trivial rfl rfl ?_
  refine St.nil fun a31 h31=>?_
  refine hK30 _ _ ?_
  refine fr_cond (t:=34) h31 rfl (fun hb=>?_) (fun hb=>?_)
  ·exact absurd (by simpa using hb) (h.2.2.2.2.2.1)
  clear hb
  refine wp_seq_k fun K32 hK32=>?_
  refine rg h31 fun ops=>?_;clear h31 a31
  refine seq trivial rfl rfl rfl ?_
  refine sa trivial rfl rfl ?_
  refine St.nil fun a33 h33=>?_
  refine hK32 _ _ ?_
  refine fr_cond (t:=38) h33 rfl (fun hb=>?_) (fun hb=>?_)
  ·exact absurd (by simpa using hb) (h.2.2.2.2.1)
  clear hb
  refine wp_seq_k fun K34 hK34=>?_
  refine rg h33 fun ops=>?_;clear h33 a33
  refine seq trivial rfl rfl rfl ?_
  refine sa trivial rfl rfl ?_
  refine St.nil fun a35 h35=>?_
  refine hK34 _ _ ?_
  refine fr_cond (t:=42) h35 rfl (fun hb=>?_) (fun hb=>?_)
  ·exact absurd (by simpa using hb) (h.2.2.2.2.2.2.2.2.2.2.2.2.2)
  clear hb
  refine wp_seq_k fun K36 hK36=>?_
  refine rg h35 fun ops=>?_;clear h35 a35
  refine sS 1 8 Tryz.underlying45 rfl infIns hW3 trivial rfl rfl rfl rfl ?_
  refine sT 0 hW3 rfl rfl infIns rfl rfl rfl ?_
  clear hW3;intro w37 hW37
  refine sa trivial rfl rfl ?_
  refine St.nil fun a38 h38=>?_
  refine hK36 _ _ ?_
  refine wp_ret ?_;with_reducible repeat first | refine of_then_ret ?_ | refine of_block_ret ?_
  have k0:a38.tmps[2]?.getD undef=.pointer (some ⟨B3,0,none⟩):=h38.sl2 2 _ rfl
  have k1:a38.tmps[3]?.getD undef=.bool false:=h38.sl2 3 _ rfl
  have c0:w37.cell? ⟨B3,0,none⟩=some (.int .i64 xop):=cellOf (hW37.get 0 rfl) 0 _ rfl
  have c1:w37.cell? ⟨B3,1,none⟩=some (.int .i64 xa):=cellOf (hW37.get 0 rfl) 1 _ rfl
  have c2:w37.cell? ⟨B3,2,none⟩=some (.int .i64 xb):=cellOf (hW37.get 0 rfl) 2 _ rfl
  have c3:w37.cell? ⟨B3,3,none⟩=some (.int .i64 xc):=cellOf (hW37.get 0 rfl) 3 _ rfl
  have c4:w37.cell? ⟨B3,4,none⟩=some (.int .i64 xk):=cellOf (hW37.get 0 rfl) 4 _ rfl
  have c5:w37.cell? ⟨B3,5,none⟩=some (.int .i64 xn):=cellOf (hW37.get 0 rfl) 5 _ rfl
  have c6:w37.cell? ⟨B3,6,none⟩=some (.slice ra rl rc):=cellOf (hW37.get 0 rfl) 6 _ rfl
  have c7:w37.cell? ⟨B3,7,none⟩=some (.slice aa al ac):=cellOf (hW37.get 0 rfl) 7 _ rfl
  exact bodyPost_ret (v:=.tuple #[.agg #[.int .i64 xop,.int .i64 xa,.int .i64 xb,.int .i64 xc,.int .i64 xk,.int .i64 xn,.slice ra rl rc,.slice aa al ac],.bool false]) (by simp [results,Tryz.results175,go_sem,k0,k1,c0,c1,c2,c3,c4,c5,c6,c7]) h38.defers ⟨rfl,hW37.bel⟩
theorem fb (f : Bool) (a : Int) : (!f && a != 0) = !((bif f then 0 else a) == 0) := by cases f <;> simp [bne]
theorem fbn (f : Bool) (l : Nat) : (!f && decide (0 < l)) = !(((bif f then 0 else l : Nat) : Int) == 0) := by
  cases f
  · by_cases h:l=0
    · simp [h]
    · have:0 < l:=by omega
      simp [this,h]
  · simp
theorem bounds_eq (lm : Nat) (op k : Int) (rl al : Nat) : (if op = 2 ∧ (k < 1 ∨ 9 < k) then 1
    else if op=5∧8 < al then 2
    else if (op=6 ∨ op=7)∧(k < 0 ∨ 7 < k) then 1
    else if op=14∧(k < 0 ∨ (lm:Int)≤k) then 1
    else if op=14∧(6 < rl ∨ 8 < al) then 2
    else 0)=boundsC lm op k rl al:=by
  unfold boundsC
  by_cases h2:op=2
  · subst h2;simp [rangeC]
  · by_cases h6:op=6 ∨ op=7
    · have h5:¬ op=5:=by omega
      have h14:¬ op=14:=by omega
      simp [h2,h5,h6,h14,rangeC]
    · by_cases h5:op=5
      · subst h5;simp [manyC];split <;> split <;> omega
      · by_cases h14:op=14
        · subst h14
          simp [rangeC,handedC,manyC]
          repeat' split
          all_goals omega
        · simp [h2,h5,h6,h14]
theorem insForm_bare {lm : Nat} {op a b c k n : Int} {rl al : Nat} {fa fb' fc fk fn fr fs : Bool} (e : fieldsOf op = some (fa, fb', fc, fk, fn, fr, fs)) :
    insForm lm op a b c k n rl al=if bareB (bif fa then 0 else a) (bif fb' then 0 else b) (bif fc then 0 else c) (bif fk then 0 else k) (bif fn then 0 else n) (bif fr then 0 else rl) (bif fs then 0 else al)=true then boundsC lm op k rl al else 4:=by
  simp only [insForm,e,bounds_eq]
  rw [fb,fb,fb,fb,fb,fbn,fbn]
  unfold bareB
  generalize ((bif fa then 0 else a) == 0)=q1
  generalize ((bif fb' then 0 else b) == 0)=q2
  generalize ((bif fc then 0 else c) == 0)=q3
  generalize ((bif fk then 0 else k) == 0)=q4
  generalize ((bif fn then 0 else n) == 0)=q5
  generalize (((bif fr then 0 else rl:Nat):Int) == 0)=q6
  generalize (((bif fs then 0 else al:Nat):Int) == 0)=q7
  cases q1 <;> cases q2 <;> cases q3 <;> cases q4 <;> cases q5 <;> cases q6 <;> cases q7 <;> rfl
theorem cIns1 {xa xb xc xk xn : Int} {ra aa : Option Addr} {rl rc al ac : Nat} {am : Option Addr} {lm cm : Nat} {w : World} (hlm : lm < 2305843009213693952) :
    Rd Tryz.prog 140 #[.agg #[.slice am lm cm],.agg #[.int .i64 1,.int .i64 xa,.int .i64 xb,.int .i64 xc,.int .i64 xk,.int .i64 xn,.slice ra rl rc,.slice aa al ac]] w (.int .i64 (insForm lm 1 xa xb xc xk xn rl al)):=by
  refine fr_enter (n:=20) Tryz.func140 rfl rfl rfl ?_
  intro a hF
  have hW:=Wd.start w
  replace hF:Fr 20 a [(0,.agg #[.slice am lm cm]),(1,.agg #[.int .i64 1,.int .i64 xa,.int .i64 xb,.int .i64 xc,.int .i64 xk,.int .i64 xn,.slice ra rl rc,.slice aa al ac])]:=hF
  refine wp_seq_k fun K1 hK1=>?_
  refine rg hF fun ops=>?_;clear hF a
  refine sB hW trivial rfl rfl ?_
  clear hW;intro w2 B2 hW2 hN;clear hN
  refine sB hW2 trivial rfl rfl ?_
  clear hW2;intro w3 B3 hW3 hN;clear hN
  refine sa trivial rfl rfl ?_
  refine St.nil fun a4 h4=>?_
  refine hK1 _ _ ?_
  refine wp_seq_k fun K5 hK5=>?_
  refine rg h4 fun ops=>?_;clear h4 a4
  refine sS 0 8 Tryz.underlying45 rfl infIns hW3 trivial rfl rfl rfl rfl ?_
  refine sc_1 cf175 hW3 (wf1) trivial rfl rfl ?_
  clear hW3;intro w6 hW6
  refine sm trivial rfl rfl ?_
  intro a7 h7
  refine fr_pure (t:=10) (v:=.agg #[.int .i64 1,.int .i64 xa,.int .i64 xb,.int .i64 xc,.int .i64 xk,.int .i64 0,.slice ra rl rc,.slice aa al ac]) (w':=w6) h7 rfl rfl rfl (fun K hK=>?_) ?_
  ·have k0:a7.tmps.getD 7 undef=.tuple #[.agg #[.int .i64 1,.int .i64 xa,.int .i64 xb,.int .i64 xc,.int .i64 xk,.int .i64 0,.slice ra rl rc,.slice aa al ac],.bool true]:=h7.sl 7 _ rfl
   go_simp
   exact hK
  clear h7;intro a8 hF8
  refine fr_pure (t:=11) (v:=.bool true) (w':=w6) hF8 rfl rfl rfl (fun K hK=>?_) ?_
  ·have k0:a8.tmps.getD 7 undef=.tuple #[.agg #[.int .i64 1,.int .i64 xa,.int .i64 xb,.int .i64 xc,.int .i64 xk,.int .i64 0,.slice ra rl rc,.slice aa al ac],.bool true]:=hF8.sl 7 _ rfl
   go_simp
   exact hK
  clear hF8;intro a9 hF9
  refine St.go hF9 ?_;clear hF9 a9
  refine sAIns hW6 trivial rfl ?_
  clear hW6;intro w10 B10 hW10 hN;clear hN
  refine sT 0 hW10 rfl rfl infIns rfl rfl rfl ?_
  clear hW10;intro w11 hW11
  refine sa trivial rfl rfl ?_
  refine St.nil fun a12 h12=>?_
  refine hK5 _ _ ?_
  refine wp_seq_k fun K13 hK13=>?_
  refine wp_seq_k fun K14 hK14=>?_
  refine rg h12 fun ops=>?_;clear h12 a12
  refine sm trivial rfl rfl ?_
  refine sn trivial rfl rfl ?_
  refine St.nil fun a15 h15=>?_
  refine hK14 _ _ ?_
  refine fr_false (t:=13) h15 rfl ?_
  refine wp_skip ?_
  refine hK13 _ _ ?_
  refine wp_seq_k fun K16 hK16=>?_
  refine wp_seq_k fun K17 hK17=>?_
  refine rg h15 fun ops=>?_;clear h15 a15
  refine sS 0 8 Tryz.underlying45 rfl infIns hW11 trivial rfl rfl rfl rfl ?_
  refine sc_1 cf176 hW11 (isBare_any) trivial rfl rfl ?_
  clear hW11;intro w18 hW18
  refine sn trivial rfl rfl ?_
  refine St.nil fun a19 h19=>?_
  refine hK17 _ _ ?_
  refine fr_cond (t:=16) h19 rfl (fun hb=>?_) (fun hb=>?_)
  ·have hc20:(bareB xa xb xc xk 0 rl al)=false:=by simpa using hb
   clear hb
   refine wp_seq_k fun K21 hK21=>?_
   refine rg h19 fun ops=>?_;clear h19 a19
   refine sa trivial rfl rfl ?_
   refine St.nil fun a22 h22=>?_
   refine hK21 _ _ ?_
   refine wp_ret ?_;with_reducible repeat first | refine of_then_ret ?_ | refine of_block_ret ?_
   have hB:=hc20
   skip
   have R:insForm lm 1 xa xb xc xk xn rl al=4:=(insForm_bare (show fieldsOf 1=some (false,false,false,false,true,false,false) from rfl)).trans (if_neg (fun hh=>Bool.noConfusion (hh.symm.trans hc20)))
   exact ret_tmp (t:=4) h22 rfl rfl ⟨by rw [R],hW18.bel⟩
  have hc23:(bareB xa xb xc xk 0 rl al)=true:=by simpa using hb
  clear hb
  refine wp_skip ?_
  refine hK16 _ _ ?_
  refine wp_seq_k fun K24 hK24=>?_
  refine rg h19 fun ops=>?_;clear h19 a19
  refine sS 2 1 Tryz.underlying25 rfl infModule hW18 trivial rfl rfl rfl rfl ?_
  refine sS 1 8 Tryz.underlying45 rfl infIns hW18 trivial rfl rfl rfl rfl ?_
  refine sc_2 cf177 hW18 (boundsNo hlm (by decide)) trivial rfl rfl rfl ?_
  clear hW18;intro w25 hW25
  refine sa trivial rfl rfl ?_
  refine St.nil fun a26 h26=>?_
  refine hK24 _ _ ?_
  refine wp_ret ?_;with_reducible repeat first | refine of_then_ret ?_ | refine of_block_ret ?_
  have hB:=hc23
  skip
  have R:insForm lm 1 xa xb xc xk xn rl al=boundsC lm 1 xk rl al:=(insForm_bare (show fieldsOf 1=some (false,false,false,false,true,false,false) from rfl)).trans (if_pos hc23)
  exact ret_tmp (t:=4) h26 rfl rfl ⟨by rw [R],hW25.bel⟩
theorem cIns2 {xa xb xc xk xn : Int} {ra aa : Option Addr} {rl rc al ac : Nat} {am : Option Addr} {lm cm : Nat} {w : World} (hlm : lm < 2305843009213693952) :
    Rd Tryz.prog 140 #[.agg #[.slice am lm cm],.agg #[.int .i64 2,.int .i64 xa,.int .i64 xb,.int .i64 xc,.int .i64 xk,.int .i64 xn,.slice ra rl rc,.slice aa al ac]] w (.int .i64 (insForm lm 2 xa xb xc xk xn rl al)):=by
  refine fr_enter (n:=20) Tryz.func140 rfl rfl rfl ?_
  intro a hF
  have hW:=Wd.start w
  replace hF:Fr 20 a [(0,.agg #[.slice am lm cm]),(1,.agg #[.int .i64 2,.int .i64 xa,.int .i64 xb,.int .i64 xc,.int .i64 xk,.int .i64 xn,.slice ra rl rc,.slice aa al ac])]:=hF
  refine wp_seq_k fun K1 hK1=>?_
  refine rg hF fun ops=>?_;clear hF a
  refine sB hW trivial rfl rfl ?_
  clear hW;intro w2 B2 hW2 hN;clear hN
  refine sB hW2 trivial rfl rfl ?_
  clear hW2;intro w3 B3 hW3 hN;clear hN
  refine sa trivial rfl rfl ?_
  refine St.nil fun a4 h4=>?_
  refine hK1 _ _ ?_
  refine wp_seq_k fun K5 hK5=>?_
  refine rg h4 fun ops=>?_;clear h4 a4
  refine sS 0 8 Tryz.underlying45 rfl infIns hW3 trivial rfl rfl rfl rfl ?_
  refine sc_1 cf175 hW3 (wf2) trivial rfl rfl ?_
  clear hW3;intro w6 hW6
  refine sm trivial rfl rfl ?_
  intro a7 h7
  refine fr_pure (t:=10) (v:=.agg #[.int .i64 2,.int .i64 0,.int .i64 0,.int .i64 xc,.int .i64 0,.int .i64 xn,.slice ra rl rc,.slice aa al ac]) (w':=w6) h7 rfl rfl rfl (fun K hK=>?_) ?_
  ·have k0:a7.tmps.getD 7 undef=.tuple #[.agg #[.int .i64 2,.int .i64 0,.int .i64 0,.int .i64 xc,.int .i64 0,.int .i64 xn,.slice ra rl rc,.slice aa al ac],.bool true]:=h7.sl 7 _ rfl
   go_simp
   exact hK
  clear h7;intro a8 hF8
  refine fr_pure (t:=11) (v:=.bool true) (w':=w6) hF8 rfl rfl rfl (fun K hK=>?_) ?_
  ·have k0:a8.tmps.getD 7 undef=.tuple #[.agg #[.int .i64 2,.int .i64 0,.int .i64 0,.int .i64 xc,.int .i64 0,.int .i64 xn,.slice ra rl rc,.slice aa al ac],.bool true]:=hF8.sl 7 _ rfl
   go_simp
   exact hK
  clear hF8;intro a9 hF9
  refine St.go hF9 ?_;clear hF9 a9
  refine sAIns hW6 trivial rfl ?_
  clear hW6;intro w10 B10 hW10 hN;clear hN
  refine sT 0 hW10 rfl rfl infIns rfl rfl rfl ?_
  clear hW10;intro w11 hW11
  refine sa trivial rfl rfl ?_
  refine St.nil fun a12 h12=>?_
  refine hK5 _ _ ?_
  refine wp_seq_k fun K13 hK13=>?_
  refine wp_seq_k fun K14 hK14=>?_
  refine rg h12 fun ops=>?_;clear h12 a12
  refine sm trivial rfl rfl ?_
  refine sn trivial rfl rfl ?_
  refine St.nil fun a15 h15=>?_
  refine hK14 _ _ ?_
  refine fr_false (t:=13) h15 rfl ?_
  refine wp_skip ?_
  refine hK13 _ _ ?_
  refine wp_seq_k fun K16 hK16=>?_
  refine wp_seq_k fun K17 hK17=>?_
  refine rg h15 fun ops=>?_;clear h15 a15
  refine sS 0 8 Tryz.underlying45 rfl infIns hW11 trivial rfl rfl rfl rfl ?_
  refine sc_1 cf176 hW11 (isBare_any) trivial rfl rfl ?_
  clear hW11;intro w18 hW18
  refine sn trivial rfl rfl ?_
  refine St.nil fun a19 h19=>?_
  refine hK17 _ _ ?_
  refine fr_cond (t:=16) h19 rfl (fun hb=>?_) (fun hb=>?_)
  ·have hc20:(bareB 0 0 xc 0 xn rl al)=false:=by simpa using hb
   clear hb
   refine wp_seq_k fun K21 hK21=>?_
   refine rg h19 fun ops=>?_;clear h19 a19
   refine sa trivial rfl rfl ?_
   refine St.nil fun a22 h22=>?_
   refine hK21 _ _ ?_
   refine wp_ret ?_;with_reducible repeat first | refine of_then_ret ?_ | refine of_block_ret ?_
   have hB:=hc20
   skip
   have R:insForm lm 2 xa xb xc xk xn rl al=4:=(insForm_bare (show fieldsOf 2=some (true,true,false,true,false,false,false) from rfl)).trans (if_neg (fun hh=>Bool.noConfusion (hh.symm.trans hc20)))
   exact ret_tmp (t:=4) h22 rfl rfl ⟨by rw [R],hW18.bel⟩
  have hc23:(bareB 0 0 xc 0 xn rl al)=true:=by simpa using hb
  clear hb
  refine wp_skip ?_
  refine hK16 _ _ ?_
  refine wp_seq_k fun K24 hK24=>?_
  refine rg h19 fun ops=>?_;clear h19 a19
  refine sS 2 1 Tryz.underlying25 rfl infModule hW18 trivial rfl rfl rfl rfl ?_
  refine sS 1 8 Tryz.underlying45 rfl infIns hW18 trivial rfl rfl rfl rfl ?_
  refine sc_2 cf177 hW18 (bounds2 hlm) trivial rfl rfl rfl ?_
  clear hW18;intro w25 hW25
  refine sa trivial rfl rfl ?_
  refine St.nil fun a26 h26=>?_
  refine hK24 _ _ ?_
  refine wp_ret ?_;with_reducible repeat first | refine of_then_ret ?_ | refine of_block_ret ?_
  have hB:=hc23
  skip
  have R:insForm lm 2 xa xb xc xk xn rl al=boundsC lm 2 xk rl al:=(insForm_bare (show fieldsOf 2=some (true,true,false,true,false,false,false) from rfl)).trans (if_pos hc23)
  exact ret_tmp (t:=4) h26 rfl rfl ⟨by rw [R],hW25.bel⟩
theorem cIns3 {xa xb xc xk xn : Int} {ra aa : Option Addr} {rl rc al ac : Nat} {am : Option Addr} {lm cm : Nat} {w : World} (hlm : lm < 2305843009213693952) :
    Rd Tryz.prog 140 #[.agg #[.slice am lm cm],.agg #[.int .i64 3,.int .i64 xa,.int .i64 xb,.int .i64 xc,.int .i64 xk,.int .i64 xn,.slice ra rl rc,.slice aa al ac]] w (.int .i64 (insForm lm 3 xa xb xc xk xn rl al)):=by
  refine fr_enter (n:=20) Tryz.func140 rfl rfl rfl ?_
  intro a hF
  have hW:=Wd.start w
  replace hF:Fr 20 a [(0,.agg #[.slice am lm cm]),(1,.agg #[.int .i64 3,.int .i64 xa,.int .i64 xb,.int .i64 xc,.int .i64 xk,.int .i64 xn,.slice ra rl rc,.slice aa al ac])]:=hF
  refine wp_seq_k fun K1 hK1=>?_
  refine rg hF fun ops=>?_;clear hF a
  refine sB hW trivial rfl rfl ?_
  clear hW;intro w2 B2 hW2 hN;clear hN
  refine sB hW2 trivial rfl rfl ?_
  clear hW2;intro w3 B3 hW3 hN;clear hN
  refine sa trivial rfl rfl ?_
  refine St.nil fun a4 h4=>?_
  refine hK1 _ _ ?_
  refine wp_seq_k fun K5 hK5=>?_
  refine rg h4 fun ops=>?_;clear h4 a4
  refine sS 0 8 Tryz.underlying45 rfl infIns hW3 trivial rfl rfl rfl rfl ?_
  refine sc_1 cf175 hW3 (wf3) trivial rfl rfl ?_
  clear hW3;intro w6 hW6
  refine sm trivial rfl rfl ?_
  intro a7 h7
  refine fr_pure (t:=10) (v:=.agg #[.int .i64 3,.int .i64 xa,.int .i64 xb,.int .i64 xc,.int .i64 xk,.int .i64 xn,.slice ra rl rc,.slice aa al ac]) (w':=w6) h7 rfl rfl rfl (fun K hK=>?_) ?_
  ·have k0:a7.tmps.getD 7 undef=.tuple #[.agg #[.int .i64 3,.int .i64 xa,.int .i64 xb,.int .i64 xc,.int .i64 xk,.int .i64 xn,.slice ra rl rc,.slice aa al ac],.bool true]:=h7.sl 7 _ rfl
   go_simp
   exact hK
  clear h7;intro a8 hF8
  refine fr_pure (t:=11) (v:=.bool true) (w':=w6) hF8 rfl rfl rfl (fun K hK=>?_) ?_
  ·have k0:a8.tmps.getD 7 undef=.tuple #[.agg #[.int .i64 3,.int .i64 xa,.int .i64 xb,.int .i64 xc,.int .i64 xk,.int .i64 xn,.slice ra rl rc,.slice aa al ac],.bool true]:=hF8.sl 7 _ rfl
   go_simp
   exact hK
  clear hF8;intro a9 hF9
  refine St.go hF9 ?_;clear hF9 a9
  refine sAIns hW6 trivial rfl ?_
  clear hW6;intro w10 B10 hW10 hN;clear hN
  refine sT 0 hW10 rfl rfl infIns rfl rfl rfl ?_
  clear hW10;intro w11 hW11
  refine sa trivial rfl rfl ?_
  refine St.nil fun a12 h12=>?_
  refine hK5 _ _ ?_
  refine wp_seq_k fun K13 hK13=>?_
  refine wp_seq_k fun K14 hK14=>?_
  refine rg h12 fun ops=>?_;clear h12 a12
  refine sm trivial rfl rfl ?_
  refine sn trivial rfl rfl ?_
  refine St.nil fun a15 h15=>?_
  refine hK14 _ _ ?_
  refine fr_false (t:=13) h15 rfl ?_
  refine wp_skip ?_
  refine hK13 _ _ ?_
  refine wp_seq_k fun K16 hK16=>?_
  refine wp_seq_k fun K17 hK17=>?_
  refine rg h15 fun ops=>?_;clear h15 a15
  refine sS 0 8 Tryz.underlying45 rfl infIns hW11 trivial rfl rfl rfl rfl ?_
  refine sc_1 cf176 hW11 (isBare_any) trivial rfl rfl ?_
  clear hW11;intro w18 hW18
  refine sn trivial rfl rfl ?_
  refine St.nil fun a19 h19=>?_
  refine hK17 _ _ ?_
  refine fr_cond (t:=16) h19 rfl (fun hb=>?_) (fun hb=>?_)
  ·have hc20:(bareB xa xb xc xk xn rl al)=false:=by simpa using hb
   clear hb
   refine wp_seq_k fun K21 hK21=>?_
   refine rg h19 fun ops=>?_;clear h19 a19
   refine sa trivial rfl rfl ?_
   refine St.nil fun a22 h22=>?_
   refine hK21 _ _ ?_
   refine wp_ret ?_;with_reducible repeat first | refine of_then_ret ?_ | refine of_block_ret ?_
   have hB:=hc20
   skip
   have R:insForm lm 3 xa xb xc xk xn rl al=4:=(insForm_bare (show fieldsOf 3=some (false,false,false,false,false,false,false) from rfl)).trans (if_neg (fun hh=>Bool.noConfusion (hh.symm.trans hc20)))
   exact ret_tmp (t:=4) h22 rfl rfl ⟨by rw [R],hW18.bel⟩
  have hc23:(bareB xa xb xc xk xn rl al)=true:=by simpa using hb
  clear hb
  refine wp_skip ?_
  refine hK16 _ _ ?_
  refine wp_seq_k fun K24 hK24=>?_
  refine rg h19 fun ops=>?_;clear h19 a19
  refine sS 2 1 Tryz.underlying25 rfl infModule hW18 trivial rfl rfl rfl rfl ?_
  refine sS 1 8 Tryz.underlying45 rfl infIns hW18 trivial rfl rfl rfl rfl ?_
  refine sc_2 cf177 hW18 (boundsNo hlm (by decide)) trivial rfl rfl rfl ?_
  clear hW18;intro w25 hW25
  refine sa trivial rfl rfl ?_
  refine St.nil fun a26 h26=>?_
  refine hK24 _ _ ?_
  refine wp_ret ?_;with_reducible repeat first | refine of_then_ret ?_ | refine of_block_ret ?_
  have hB:=hc23
  skip
  have R:insForm lm 3 xa xb xc xk xn rl al=boundsC lm 3 xk rl al:=(insForm_bare (show fieldsOf 3=some (false,false,false,false,false,false,false) from rfl)).trans (if_pos hc23)
  exact ret_tmp (t:=4) h26 rfl rfl ⟨by rw [R],hW25.bel⟩
theorem cIns4 {xa xb xc xk xn : Int} {ra aa : Option Addr} {rl rc al ac : Nat} {am : Option Addr} {lm cm : Nat} {w : World} (hlm : lm < 2305843009213693952) :
    Rd Tryz.prog 140 #[.agg #[.slice am lm cm],.agg #[.int .i64 4,.int .i64 xa,.int .i64 xb,.int .i64 xc,.int .i64 xk,.int .i64 xn,.slice ra rl rc,.slice aa al ac]] w (.int .i64 (insForm lm 4 xa xb xc xk xn rl al)):=by
  refine fr_enter (n:=20) Tryz.func140 rfl rfl rfl ?_
  intro a hF
  have hW:=Wd.start w
  replace hF:Fr 20 a [(0,.agg #[.slice am lm cm]),(1,.agg #[.int .i64 4,.int .i64 xa,.int .i64 xb,.int .i64 xc,.int .i64 xk,.int .i64 xn,.slice ra rl rc,.slice aa al ac])]:=hF
  refine wp_seq_k fun K1 hK1=>?_
  refine rg hF fun ops=>?_;clear hF a
  refine sB hW trivial rfl rfl ?_
  clear hW;intro w2 B2 hW2 hN;clear hN
  refine sB hW2 trivial rfl rfl ?_
  clear hW2;intro w3 B3 hW3 hN;clear hN
  refine sa trivial rfl rfl ?_
  refine St.nil fun a4 h4=>?_
  refine hK1 _ _ ?_
  refine wp_seq_k fun K5 hK5=>?_
  refine rg h4 fun ops=>?_;clear h4 a4
  refine sS 0 8 Tryz.underlying45 rfl infIns hW3 trivial rfl rfl rfl rfl ?_
  refine sc_1 cf175 hW3 (wf4) trivial rfl rfl ?_
  clear hW3;intro w6 hW6
  refine sm trivial rfl rfl ?_
  intro a7 h7
  refine fr_pure (t:=10) (v:=.agg #[.int .i64 4,.int .i64 0,.int .i64 xb,.int .i64 xc,.int .i64 xk,.int .i64 xn,.slice ra rl rc,.slice aa al ac]) (w':=w6) h7 rfl rfl rfl (fun K hK=>?_) ?_
  ·have k0:a7.tmps.getD 7 undef=.tuple #[.agg #[.int .i64 4,.int .i64 0,.int .i64 xb,.int .i64 xc,.int .i64 xk,.int .i64 xn,.slice ra rl rc,.slice aa al ac],.bool true]:=h7.sl 7 _ rfl
   go_simp
   exact hK
  clear h7;intro a8 hF8
  refine fr_pure (t:=11) (v:=.bool true) (w':=w6) hF8 rfl rfl rfl (fun K hK=>?_) ?_
  ·have k0:a8.tmps.getD 7 undef=.tuple #[.agg #[.int .i64 4,.int .i64 0,.int .i64 xb,.int .i64 xc,.int .i64 xk,.int .i64 xn,.slice ra rl rc,.slice aa al ac],.bool true]:=hF8.sl 7 _ rfl
   go_simp
   exact hK
  clear hF8;intro a9 hF9
  refine St.go hF9 ?_;clear hF9 a9
  refine sAIns hW6 trivial rfl ?_
  clear hW6;intro w10 B10 hW10 hN;clear hN
  refine sT 0 hW10 rfl rfl infIns rfl rfl rfl ?_
  clear hW10;intro w11 hW11
  refine sa trivial rfl rfl ?_
  refine St.nil fun a12 h12=>?_
  refine hK5 _ _ ?_
  refine wp_seq_k fun K13 hK13=>?_
  refine wp_seq_k fun K14 hK14=>?_
  refine rg h12 fun ops=>?_;clear h12 a12
  refine sm trivial rfl rfl ?_
  refine sn trivial rfl rfl ?_
  refine St.nil fun a15 h15=>?_
  refine hK14 _ _ ?_
  refine fr_false (t:=13) h15 rfl ?_
  refine wp_skip ?_
  refine hK13 _ _ ?_
  refine wp_seq_k fun K16 hK16=>?_
  refine wp_seq_k fun K17 hK17=>?_
  refine rg h15 fun ops=>?_;clear h15 a15
  refine sS 0 8 Tryz.underlying45 rfl infIns hW11 trivial rfl rfl rfl rfl ?_
  refine sc_1 cf176 hW11 (isBare_any) trivial rfl rfl ?_
  clear hW11;intro w18 hW18
  refine sn trivial rfl rfl ?_
  refine St.nil fun a19 h19=>?_
  refine hK17 _ _ ?_
  refine fr_cond (t:=16) h19 rfl (fun hb=>?_) (fun hb=>?_)
  ·have hc20:(bareB 0 xb xc xk xn rl al)=false:=by simpa using hb
   clear hb
   refine wp_seq_k fun K21 hK21=>?_
   refine rg h19 fun ops=>?_;clear h19 a19
   refine sa trivial rfl rfl ?_
   refine St.nil fun a22 h22=>?_
   refine hK21 _ _ ?_
   refine wp_ret ?_;with_reducible repeat first | refine of_then_ret ?_ | refine of_block_ret ?_
   have hB:=hc20
   skip
   have R:insForm lm 4 xa xb xc xk xn rl al=4:=(insForm_bare (show fieldsOf 4=some (true,false,false,false,false,false,false) from rfl)).trans (if_neg (fun hh=>Bool.noConfusion (hh.symm.trans hc20)))
   exact ret_tmp (t:=4) h22 rfl rfl ⟨by rw [R],hW18.bel⟩
  have hc23:(bareB 0 xb xc xk xn rl al)=true:=by simpa using hb
  clear hb
  refine wp_skip ?_
  refine hK16 _ _ ?_
  refine wp_seq_k fun K24 hK24=>?_
  refine rg h19 fun ops=>?_;clear h19 a19
  refine sS 2 1 Tryz.underlying25 rfl infModule hW18 trivial rfl rfl rfl rfl ?_
  refine sS 1 8 Tryz.underlying45 rfl infIns hW18 trivial rfl rfl rfl rfl ?_
  refine sc_2 cf177 hW18 (boundsNo hlm (by decide)) trivial rfl rfl rfl ?_
  clear hW18;intro w25 hW25
  refine sa trivial rfl rfl ?_
  refine St.nil fun a26 h26=>?_
  refine hK24 _ _ ?_
  refine wp_ret ?_;with_reducible repeat first | refine of_then_ret ?_ | refine of_block_ret ?_
  have hB:=hc23
  skip
  have R:insForm lm 4 xa xb xc xk xn rl al=boundsC lm 4 xk rl al:=(insForm_bare (show fieldsOf 4=some (true,false,false,false,false,false,false) from rfl)).trans (if_pos hc23)
  exact ret_tmp (t:=4) h26 rfl rfl ⟨by rw [R],hW25.bel⟩
theorem cIns5 {xa xb xc xk xn : Int} {ra aa : Option Addr} {rl rc al ac : Nat} {am : Option Addr} {lm cm : Nat} {w : World} (hlm : lm < 2305843009213693952) :
    Rd Tryz.prog 140 #[.agg #[.slice am lm cm],.agg #[.int .i64 5,.int .i64 xa,.int .i64 xb,.int .i64 xc,.int .i64 xk,.int .i64 xn,.slice ra rl rc,.slice aa al ac]] w (.int .i64 (insForm lm 5 xa xb xc xk xn rl al)):=by
  refine fr_enter (n:=20) Tryz.func140 rfl rfl rfl ?_
  intro a hF
  have hW:=Wd.start w
  replace hF:Fr 20 a [(0,.agg #[.slice am lm cm]),(1,.agg #[.int .i64 5,.int .i64 xa,.int .i64 xb,.int .i64 xc,.int .i64 xk,.int .i64 xn,.slice ra rl rc,.slice aa al ac])]:=hF
  refine wp_seq_k fun K1 hK1=>?_
  refine rg hF fun ops=>?_;clear hF a
  refine sB hW trivial rfl rfl ?_
  clear hW;intro w2 B2 hW2 hN;clear hN
  refine sB hW2 trivial rfl rfl ?_
  clear hW2;intro w3 B3 hW3 hN;clear hN
  refine sa trivial rfl rfl ?_
  refine St.nil fun a4 h4=>?_
  refine hK1 _ _ ?_
  refine wp_seq_k fun K5 hK5=>?_
  refine rg h4 fun ops=>?_;clear h4 a4
  refine sS 0 8 Tryz.underlying45 rfl infIns hW3 trivial rfl rfl rfl rfl ?_
  refine sc_1 cf175 hW3 (wf5) trivial rfl rfl ?_
  clear hW3;intro w6 hW6
  refine sm trivial rfl rfl ?_
  intro a7 h7
  refine fr_pure (t:=10) (v:=.agg #[.int .i64 5,.int .i64 0,.int .i64 xb,.int .i64 xc,.int .i64 xk,.int .i64 xn,.slice ra rl rc,.slice none 0 0]) (w':=w6) h7 rfl rfl rfl (fun K hK=>?_) ?_
  ·have k0:a7.tmps.getD 7 undef=.tuple #[.agg #[.int .i64 5,.int .i64 0,.int .i64 xb,.int .i64 xc,.int .i64 xk,.int .i64 xn,.slice ra rl rc,.slice none 0 0],.bool true]:=h7.sl 7 _ rfl
   go_simp
   exact hK
  clear h7;intro a8 hF8
  refine fr_pure (t:=11) (v:=.bool true) (w':=w6) hF8 rfl rfl rfl (fun K hK=>?_) ?_
  ·have k0:a8.tmps.getD 7 undef=.tuple #[.agg #[.int .i64 5,.int .i64 0,.int .i64 xb,.int .i64 xc,.int .i64 xk,.int .i64 xn,.slice ra rl rc,.slice none 0 0],.bool true]:=hF8.sl 7 _ rfl
   go_simp
   exact hK
  clear hF8;intro a9 hF9
  refine St.go hF9 ?_;clear hF9 a9
  refine sAIns hW6 trivial rfl ?_
  clear hW6;intro w10 B10 hW10 hN;clear hN
  refine sT 0 hW10 rfl rfl infIns rfl rfl rfl ?_
  clear hW10;intro w11 hW11
  refine sa trivial rfl rfl ?_
  refine St.nil fun a12 h12=>?_
  refine hK5 _ _ ?_
  refine wp_seq_k fun K13 hK13=>?_
  refine wp_seq_k fun K14 hK14=>?_
  refine rg h12 fun ops=>?_;clear h12 a12
  refine sm trivial rfl rfl ?_
  refine sn trivial rfl rfl ?_
  refine St.nil fun a15 h15=>?_
  refine hK14 _ _ ?_
  refine fr_false (t:=13) h15 rfl ?_
  refine wp_skip ?_
  refine hK13 _ _ ?_
  refine wp_seq_k fun K16 hK16=>?_
  refine wp_seq_k fun K17 hK17=>?_
  refine rg h15 fun ops=>?_;clear h15 a15
  refine sS 0 8 Tryz.underlying45 rfl infIns hW11 trivial rfl rfl rfl rfl ?_
  refine sc_1 cf176 hW11 (isBare_any) trivial rfl rfl ?_
  clear hW11;intro w18 hW18
  refine sn trivial rfl rfl ?_
  refine St.nil fun a19 h19=>?_
  refine hK17 _ _ ?_
  refine fr_cond (t:=16) h19 rfl (fun hb=>?_) (fun hb=>?_)
  ·have hc20:(bareB 0 xb xc xk xn rl 0)=false:=by simpa using hb
   clear hb
   refine wp_seq_k fun K21 hK21=>?_
   refine rg h19 fun ops=>?_;clear h19 a19
   refine sa trivial rfl rfl ?_
   refine St.nil fun a22 h22=>?_
   refine hK21 _ _ ?_
   refine wp_ret ?_;with_reducible repeat first | refine of_then_ret ?_ | refine of_block_ret ?_
   have hB:=hc20
   skip
   have R:insForm lm 5 xa xb xc xk xn rl al=4:=(insForm_bare (show fieldsOf 5=some (true,false,false,false,false,false,true) from rfl)).trans (if_neg (fun hh=>Bool.noConfusion (hh.symm.trans hc20)))
   exact ret_tmp (t:=4) h22 rfl rfl ⟨by rw [R],hW18.bel⟩
  have hc23:(bareB 0 xb xc xk xn rl 0)=true:=by simpa using hb
  clear hb
  refine wp_skip ?_
  refine hK16 _ _ ?_
  refine wp_seq_k fun K24 hK24=>?_
  refine rg h19 fun ops=>?_;clear h19 a19
  refine sS 2 1 Tryz.underlying25 rfl infModule hW18 trivial rfl rfl rfl rfl ?_
  refine sS 1 8 Tryz.underlying45 rfl infIns hW18 trivial rfl rfl rfl rfl ?_
  refine sc_2 cf177 hW18 (bounds5 hlm) trivial rfl rfl rfl ?_
  clear hW18;intro w25 hW25
  refine sa trivial rfl rfl ?_
  refine St.nil fun a26 h26=>?_
  refine hK24 _ _ ?_
  refine wp_ret ?_;with_reducible repeat first | refine of_then_ret ?_ | refine of_block_ret ?_
  have hB:=hc23
  skip
  have R:insForm lm 5 xa xb xc xk xn rl al=boundsC lm 5 xk rl al:=(insForm_bare (show fieldsOf 5=some (true,false,false,false,false,false,true) from rfl)).trans (if_pos hc23)
  exact ret_tmp (t:=4) h26 rfl rfl ⟨by rw [R],hW25.bel⟩
theorem cIns6 {xa xb xc xk xn : Int} {ra aa : Option Addr} {rl rc al ac : Nat} {am : Option Addr} {lm cm : Nat} {w : World} (hlm : lm < 2305843009213693952) :
    Rd Tryz.prog 140 #[.agg #[.slice am lm cm],.agg #[.int .i64 6,.int .i64 xa,.int .i64 xb,.int .i64 xc,.int .i64 xk,.int .i64 xn,.slice ra rl rc,.slice aa al ac]] w (.int .i64 (insForm lm 6 xa xb xc xk xn rl al)):=by
  refine fr_enter (n:=20) Tryz.func140 rfl rfl rfl ?_
  intro a hF
  have hW:=Wd.start w
  replace hF:Fr 20 a [(0,.agg #[.slice am lm cm]),(1,.agg #[.int .i64 6,.int .i64 xa,.int .i64 xb,.int .i64 xc,.int .i64 xk,.int .i64 xn,.slice ra rl rc,.slice aa al ac])]:=hF
  refine wp_seq_k fun K1 hK1=>?_
  refine rg hF fun ops=>?_;clear hF a
  refine sB hW trivial rfl rfl ?_
  clear hW;intro w2 B2 hW2 hN;clear hN
  refine sB hW2 trivial rfl rfl ?_
  clear hW2;intro w3 B3 hW3 hN;clear hN
  refine sa trivial rfl rfl ?_
  refine St.nil fun a4 h4=>?_
  refine hK1 _ _ ?_
  refine wp_seq_k fun K5 hK5=>?_
  refine rg h4 fun ops=>?_;clear h4 a4
  refine sS 0 8 Tryz.underlying45 rfl infIns hW3 trivial rfl rfl rfl rfl ?_
  refine sc_1 cf175 hW3 (wf6) trivial rfl rfl ?_
  clear hW3;intro w6 hW6
  refine sm trivial rfl rfl ?_
  intro a7 h7
  refine fr_pure (t:=10) (v:=.agg #[.int .i64 6,.int .i64 0,.int .i64 xb,.int .i64 xc,.int .i64 0,.int .i64 xn,.slice ra rl rc,.slice aa al ac]) (w':=w6) h7 rfl rfl rfl (fun K hK=>?_) ?_
  ·have k0:a7.tmps.getD 7 undef=.tuple #[.agg #[.int .i64 6,.int .i64 0,.int .i64 xb,.int .i64 xc,.int .i64 0,.int .i64 xn,.slice ra rl rc,.slice aa al ac],.bool true]:=h7.sl 7 _ rfl
   go_simp
   exact hK
  clear h7;intro a8 hF8
  refine fr_pure (t:=11) (v:=.bool true) (w':=w6) hF8 rfl rfl rfl (fun K hK=>?_) ?_
  ·have k0:a8.tmps.getD 7 undef=.tuple #[.agg #[.int .i64 6,.int .i64 0,.int .i64 xb,.int .i64 xc,.int .i64 0,.int .i64 xn,.slice ra rl rc,.slice aa al ac],.bool true]:=hF8.sl 7 _ rfl
   go_simp
   exact hK
  clear hF8;intro a9 hF9
  refine St.go hF9 ?_;clear hF9 a9
  refine sAIns hW6 trivial rfl ?_
  clear hW6;intro w10 B10 hW10 hN;clear hN
  refine sT 0 hW10 rfl rfl infIns rfl rfl rfl ?_
  clear hW10;intro w11 hW11
  refine sa trivial rfl rfl ?_
  refine St.nil fun a12 h12=>?_
  refine hK5 _ _ ?_
  refine wp_seq_k fun K13 hK13=>?_
  refine wp_seq_k fun K14 hK14=>?_
  refine rg h12 fun ops=>?_;clear h12 a12
  refine sm trivial rfl rfl ?_
  refine sn trivial rfl rfl ?_
  refine St.nil fun a15 h15=>?_
  refine hK14 _ _ ?_
  refine fr_false (t:=13) h15 rfl ?_
  refine wp_skip ?_
  refine hK13 _ _ ?_
  refine wp_seq_k fun K16 hK16=>?_
  refine wp_seq_k fun K17 hK17=>?_
  refine rg h15 fun ops=>?_;clear h15 a15
  refine sS 0 8 Tryz.underlying45 rfl infIns hW11 trivial rfl rfl rfl rfl ?_
  refine sc_1 cf176 hW11 (isBare_any) trivial rfl rfl ?_
  clear hW11;intro w18 hW18
  refine sn trivial rfl rfl ?_
  refine St.nil fun a19 h19=>?_
  refine hK17 _ _ ?_
  refine fr_cond (t:=16) h19 rfl (fun hb=>?_) (fun hb=>?_)
  ·have hc20:(bareB 0 xb xc 0 xn rl al)=false:=by simpa using hb
   clear hb
   refine wp_seq_k fun K21 hK21=>?_
   refine rg h19 fun ops=>?_;clear h19 a19
   refine sa trivial rfl rfl ?_
   refine St.nil fun a22 h22=>?_
   refine hK21 _ _ ?_
   refine wp_ret ?_;with_reducible repeat first | refine of_then_ret ?_ | refine of_block_ret ?_
   have hB:=hc20
   skip
   have R:insForm lm 6 xa xb xc xk xn rl al=4:=(insForm_bare (show fieldsOf 6=some (true,false,false,true,false,false,false) from rfl)).trans (if_neg (fun hh=>Bool.noConfusion (hh.symm.trans hc20)))
   exact ret_tmp (t:=4) h22 rfl rfl ⟨by rw [R],hW18.bel⟩
  have hc23:(bareB 0 xb xc 0 xn rl al)=true:=by simpa using hb
  clear hb
  refine wp_skip ?_
  refine hK16 _ _ ?_
  refine wp_seq_k fun K24 hK24=>?_
  refine rg h19 fun ops=>?_;clear h19 a19
  refine sS 2 1 Tryz.underlying25 rfl infModule hW18 trivial rfl rfl rfl rfl ?_
  refine sS 1 8 Tryz.underlying45 rfl infIns hW18 trivial rfl rfl rfl rfl ?_
  refine sc_2 cf177 hW18 (bounds6 hlm) trivial rfl rfl rfl ?_
  clear hW18;intro w25 hW25
  refine sa trivial rfl rfl ?_
  refine St.nil fun a26 h26=>?_
  refine hK24 _ _ ?_
  refine wp_ret ?_;with_reducible repeat first | refine of_then_ret ?_ | refine of_block_ret ?_
  have hB:=hc23
  skip
  have R:insForm lm 6 xa xb xc xk xn rl al=boundsC lm 6 xk rl al:=(insForm_bare (show fieldsOf 6=some (true,false,false,true,false,false,false) from rfl)).trans (if_pos hc23)
  exact ret_tmp (t:=4) h26 rfl rfl ⟨by rw [R],hW25.bel⟩
theorem cIns7 {xa xb xc xk xn : Int} {ra aa : Option Addr} {rl rc al ac : Nat} {am : Option Addr} {lm cm : Nat} {w : World} (hlm : lm < 2305843009213693952) :
    Rd Tryz.prog 140 #[.agg #[.slice am lm cm],.agg #[.int .i64 7,.int .i64 xa,.int .i64 xb,.int .i64 xc,.int .i64 xk,.int .i64 xn,.slice ra rl rc,.slice aa al ac]] w (.int .i64 (insForm lm 7 xa xb xc xk xn rl al)):=by
  refine fr_enter (n:=20) Tryz.func140 rfl rfl rfl ?_
  intro a hF
  have hW:=Wd.start w
  replace hF:Fr 20 a [(0,.agg #[.slice am lm cm]),(1,.agg #[.int .i64 7,.int .i64 xa,.int .i64 xb,.int .i64 xc,.int .i64 xk,.int .i64 xn,.slice ra rl rc,.slice aa al ac])]:=hF
  refine wp_seq_k fun K1 hK1=>?_
  refine rg hF fun ops=>?_;clear hF a
  refine sB hW trivial rfl rfl ?_
  clear hW;intro w2 B2 hW2 hN;clear hN
  refine sB hW2 trivial rfl rfl ?_
  clear hW2;intro w3 B3 hW3 hN;clear hN
  refine sa trivial rfl rfl ?_
  refine St.nil fun a4 h4=>?_
  refine hK1 _ _ ?_
  refine wp_seq_k fun K5 hK5=>?_
  refine rg h4 fun ops=>?_;clear h4 a4
  refine sS 0 8 Tryz.underlying45 rfl infIns hW3 trivial rfl rfl rfl rfl ?_
  refine sc_1 cf175 hW3 (wf7) trivial rfl rfl ?_
  clear hW3;intro w6 hW6
  refine sm trivial rfl rfl ?_
  intro a7 h7
  refine fr_pure (t:=10) (v:=.agg #[.int .i64 7,.int .i64 0,.int .i64 0,.int .i64 xc,.int .i64 0,.int .i64 xn,.slice ra rl rc,.slice aa al ac]) (w':=w6) h7 rfl rfl rfl (fun K hK=>?_) ?_
  ·have k0:a7.tmps.getD 7 undef=.tuple #[.agg #[.int .i64 7,.int .i64 0,.int .i64 0,.int .i64 xc,.int .i64 0,.int .i64 xn,.slice ra rl rc,.slice aa al ac],.bool true]:=h7.sl 7 _ rfl
   go_simp
   exact hK
  clear h7;intro a8 hF8
  refine fr_pure (t:=11) (v:=.bool true) (w':=w6) hF8 rfl rfl rfl (fun K hK=>?_) ?_
  ·have k0:a8.tmps.getD 7 undef=.tuple #[.agg #[.int .i64 7,.int .i64 0,.int .i64 0,.int .i64 xc,.int .i64 0,.int .i64 xn,.slice ra rl rc,.slice aa al ac],.bool true]:=hF8.sl 7 _ rfl
   go_simp
   exact hK
  clear hF8;intro a9 hF9
  refine St.go hF9 ?_;clear hF9 a9
  refine sAIns hW6 trivial rfl ?_
  clear hW6;intro w10 B10 hW10 hN;clear hN
  refine sT 0 hW10 rfl rfl infIns rfl rfl rfl ?_
  clear hW10;intro w11 hW11
  refine sa trivial rfl rfl ?_
  refine St.nil fun a12 h12=>?_
  refine hK5 _ _ ?_
  refine wp_seq_k fun K13 hK13=>?_
  refine wp_seq_k fun K14 hK14=>?_
  refine rg h12 fun ops=>?_;clear h12 a12
  refine sm trivial rfl rfl ?_
  refine sn trivial rfl rfl ?_
  refine St.nil fun a15 h15=>?_
  refine hK14 _ _ ?_
  refine fr_false (t:=13) h15 rfl ?_
  refine wp_skip ?_
  refine hK13 _ _ ?_
  refine wp_seq_k fun K16 hK16=>?_
  refine wp_seq_k fun K17 hK17=>?_
  refine rg h15 fun ops=>?_;clear h15 a15
  refine sS 0 8 Tryz.underlying45 rfl infIns hW11 trivial rfl rfl rfl rfl ?_
  refine sc_1 cf176 hW11 (isBare_any) trivial rfl rfl ?_
  clear hW11;intro w18 hW18
  refine sn trivial rfl rfl ?_
  refine St.nil fun a19 h19=>?_
  refine hK17 _ _ ?_
  refine fr_cond (t:=16) h19 rfl (fun hb=>?_) (fun hb=>?_)
  ·have hc20:(bareB 0 0 xc 0 xn rl al)=false:=by simpa using hb
   clear hb
   refine wp_seq_k fun K21 hK21=>?_
   refine rg h19 fun ops=>?_;clear h19 a19
   refine sa trivial rfl rfl ?_
   refine St.nil fun a22 h22=>?_
   refine hK21 _ _ ?_
   refine wp_ret ?_;with_reducible repeat first | refine of_then_ret ?_ | refine of_block_ret ?_
   have hB:=hc20
   skip
   have R:insForm lm 7 xa xb xc xk xn rl al=4:=(insForm_bare (show fieldsOf 7=some (true,true,false,true,false,false,false) from rfl)).trans (if_neg (fun hh=>Bool.noConfusion (hh.symm.trans hc20)))
   exact ret_tmp (t:=4) h22 rfl rfl ⟨by rw [R],hW18.bel⟩
  have hc23:(bareB 0 0 xc 0 xn rl al)=true:=by simpa using hb
  clear hb
  refine wp_skip ?_
  refine hK16 _ _ ?_
  refine wp_seq_k fun K24 hK24=>?_
  refine rg h19 fun ops=>?_;clear h19 a19
  refine sS 2 1 Tryz.underlying25 rfl infModule hW18 trivial rfl rfl rfl rfl ?_
  refine sS 1 8 Tryz.underlying45 rfl infIns hW18 trivial rfl rfl rfl rfl ?_
  refine sc_2 cf177 hW18 (bounds7 hlm) trivial rfl rfl rfl ?_
  clear hW18;intro w25 hW25
  refine sa trivial rfl rfl ?_
  refine St.nil fun a26 h26=>?_
  refine hK24 _ _ ?_
  refine wp_ret ?_;with_reducible repeat first | refine of_then_ret ?_ | refine of_block_ret ?_
  have hB:=hc23
  skip
  have R:insForm lm 7 xa xb xc xk xn rl al=boundsC lm 7 xk rl al:=(insForm_bare (show fieldsOf 7=some (true,true,false,true,false,false,false) from rfl)).trans (if_pos hc23)
  exact ret_tmp (t:=4) h26 rfl rfl ⟨by rw [R],hW25.bel⟩
theorem cIns8 {xa xb xc xk xn : Int} {ra aa : Option Addr} {rl rc al ac : Nat} {am : Option Addr} {lm cm : Nat} {w : World} (hlm : lm < 2305843009213693952) :
    Rd Tryz.prog 140 #[.agg #[.slice am lm cm],.agg #[.int .i64 8,.int .i64 xa,.int .i64 xb,.int .i64 xc,.int .i64 xk,.int .i64 xn,.slice ra rl rc,.slice aa al ac]] w (.int .i64 (insForm lm 8 xa xb xc xk xn rl al)):=by
  refine fr_enter (n:=20) Tryz.func140 rfl rfl rfl ?_
  intro a hF
  have hW:=Wd.start w
  replace hF:Fr 20 a [(0,.agg #[.slice am lm cm]),(1,.agg #[.int .i64 8,.int .i64 xa,.int .i64 xb,.int .i64 xc,.int .i64 xk,.int .i64 xn,.slice ra rl rc,.slice aa al ac])]:=hF
  refine wp_seq_k fun K1 hK1=>?_
  refine rg hF fun ops=>?_;clear hF a
  refine sB hW trivial rfl rfl ?_
  clear hW;intro w2 B2 hW2 hN;clear hN
  refine sB hW2 trivial rfl rfl ?_
  clear hW2;intro w3 B3 hW3 hN;clear hN
  refine sa trivial rfl rfl ?_
  refine St.nil fun a4 h4=>?_
  refine hK1 _ _ ?_
  refine wp_seq_k fun K5 hK5=>?_
  refine rg h4 fun ops=>?_;clear h4 a4
  refine sS 0 8 Tryz.underlying45 rfl infIns hW3 trivial rfl rfl rfl rfl ?_
  refine sc_1 cf175 hW3 (wf8) trivial rfl rfl ?_
  clear hW3;intro w6 hW6
  refine sm trivial rfl rfl ?_
  intro a7 h7
  refine fr_pure (t:=10) (v:=.agg #[.int .i64 8,.int .i64 0,.int .i64 0,.int .i64 xc,.int .i64 xk,.int .i64 xn,.slice ra rl rc,.slice aa al ac]) (w':=w6) h7 rfl rfl rfl (fun K hK=>?_) ?_
  ·have k0:a7.tmps.getD 7 undef=.tuple #[.agg #[.int .i64 8,.int .i64 0,.int .i64 0,.int .i64 xc,.int .i64 xk,.int .i64 xn,.slice ra rl rc,.slice aa al ac],.bool true]:=h7.sl 7 _ rfl
   go_simp
   exact hK
  clear h7;intro a8 hF8
  refine fr_pure (t:=11) (v:=.bool true) (w':=w6) hF8 rfl rfl rfl (fun K hK=>?_) ?_
  ·have k0:a8.tmps.getD 7 undef=.tuple #[.agg #[.int .i64 8,.int .i64 0,.int .i64 0,.int .i64 xc,.int .i64 xk,.int .i64 xn,.slice ra rl rc,.slice aa al ac],.bool true]:=hF8.sl 7 _ rfl
   go_simp
   exact hK
  clear hF8;intro a9 hF9
  refine St.go hF9 ?_;clear hF9 a9
  refine sAIns hW6 trivial rfl ?_
  clear hW6;intro w10 B10 hW10 hN;clear hN
  refine sT 0 hW10 rfl rfl infIns rfl rfl rfl ?_
  clear hW10;intro w11 hW11
  refine sa trivial rfl rfl ?_
  refine St.nil fun a12 h12=>?_
  refine hK5 _ _ ?_
  refine wp_seq_k fun K13 hK13=>?_
  refine wp_seq_k fun K14 hK14=>?_
  refine rg h12 fun ops=>?_;clear h12 a12
  refine sm trivial rfl rfl ?_
  refine sn trivial rfl rfl ?_
  refine St.nil fun a15 h15=>?_
  refine hK14 _ _ ?_
  refine fr_false (t:=13) h15 rfl ?_
  refine wp_skip ?_
  refine hK13 _ _ ?_
  refine wp_seq_k fun K16 hK16=>?_
  refine wp_seq_k fun K17 hK17=>?_
  refine rg h15 fun ops=>?_;clear h15 a15
  refine sS 0 8 Tryz.underlying45 rfl infIns hW11 trivial rfl rfl rfl rfl ?_
  refine sc_1 cf176 hW11 (isBare_any) trivial rfl rfl ?_
  clear hW11;intro w18 hW18
  refine sn trivial rfl rfl ?_
  refine St.nil fun a19 h19=>?_
  refine hK17 _ _ ?_
  refine fr_cond (t:=16) h19 rfl (fun hb=>?_) (fun hb=>?_)
  ·have hc20:(bareB 0 0 xc xk xn rl al)=false:=by simpa using hb
   clear hb
   refine wp_seq_k fun K21 hK21=>?_
   refine rg h19 fun ops=>?_;clear h19 a19
   refine sa trivial rfl rfl ?_
   refine St.nil fun a22 h22=>?_
   refine hK21 _ _ ?_
   refine wp_ret ?_;with_reducible repeat first | refine of_then_ret ?_ | refine of_block_ret ?_
   have hB:=hc20
   skip
   have R:insForm lm 8 xa xb xc xk xn rl al=4:=(insForm_bare (show fieldsOf 8=some (true,true,false,false,false,false,false) from rfl)).trans (if_neg (fun hh=>Bool.noConfusion (hh.symm.trans hc20)))
   exact ret_tmp (t:=4) h22 rfl rfl ⟨by rw [R],hW18.bel⟩
  have hc23:(bareB 0 0 xc xk xn rl al)=true:=by simpa using hb
  clear hb
  refine wp_skip ?_
  refine hK16 _ _ ?_
  refine wp_seq_k fun K24 hK24=>?_
  refine rg h19 fun ops=>?_;clear h19 a19
  refine sS 2 1 Tryz.underlying25 rfl infModule hW18 trivial rfl rfl rfl rfl ?_
  refine sS 1 8 Tryz.underlying45 rfl infIns hW18 trivial rfl rfl rfl rfl ?_
  refine sc_2 cf177 hW18 (boundsNo hlm (by decide)) trivial rfl rfl rfl ?_
  clear hW18;intro w25 hW25
  refine sa trivial rfl rfl ?_
  refine St.nil fun a26 h26=>?_
  refine hK24 _ _ ?_
  refine wp_ret ?_;with_reducible repeat first | refine of_then_ret ?_ | refine of_block_ret ?_
  have hB:=hc23
  skip
  have R:insForm lm 8 xa xb xc xk xn rl al=boundsC lm 8 xk rl al:=(insForm_bare (show fieldsOf 8=some (true,true,false,false,false,false,false) from rfl)).trans (if_pos hc23)
  exact ret_tmp (t:=4) h26 rfl rfl ⟨by rw [R],hW25.bel⟩
theorem cIns9 {xa xb xc xk xn : Int} {ra aa : Option Addr} {rl rc al ac : Nat} {am : Option Addr} {lm cm : Nat} {w : World} (hlm : lm < 2305843009213693952) :
    Rd Tryz.prog 140 #[.agg #[.slice am lm cm],.agg #[.int .i64 9,.int .i64 xa,.int .i64 xb,.int .i64 xc,.int .i64 xk,.int .i64 xn,.slice ra rl rc,.slice aa al ac]] w (.int .i64 (insForm lm 9 xa xb xc xk xn rl al)):=by
  refine fr_enter (n:=20) Tryz.func140 rfl rfl rfl ?_
  intro a hF
  have hW:=Wd.start w
  replace hF:Fr 20 a [(0,.agg #[.slice am lm cm]),(1,.agg #[.int .i64 9,.int .i64 xa,.int .i64 xb,.int .i64 xc,.int .i64 xk,.int .i64 xn,.slice ra rl rc,.slice aa al ac])]:=hF
  refine wp_seq_k fun K1 hK1=>?_
  refine rg hF fun ops=>?_;clear hF a
  refine sB hW trivial rfl rfl ?_
  clear hW;intro w2 B2 hW2 hN;clear hN
  refine sB hW2 trivial rfl rfl ?_
  clear hW2;intro w3 B3 hW3 hN;clear hN
  refine sa trivial rfl rfl ?_
  refine St.nil fun a4 h4=>?_
  refine hK1 _ _ ?_
  refine wp_seq_k fun K5 hK5=>?_
  refine rg h4 fun ops=>?_;clear h4 a4
  refine sS 0 8 Tryz.underlying45 rfl infIns hW3 trivial rfl rfl rfl rfl ?_
  refine sc_1 cf175 hW3 (wf9) trivial rfl rfl ?_
  clear hW3;intro w6 hW6
  refine sm trivial rfl rfl ?_
  intro a7 h7
  refine fr_pure (t:=10) (v:=.agg #[.int .i64 9,.int .i64 0,.int .i64 0,.int .i64 xc,.int .i64 xk,.int .i64 xn,.slice ra rl rc,.slice aa al ac]) (w':=w6) h7 rfl rfl rfl (fun K hK=>?_) ?_
  ·have k0:a7.tmps.getD 7 undef=.tuple #[.agg #[.int .i64 9,.int .i64 0,.int .i64 0,.int .i64 xc,.int .i64 xk,.int .i64 xn,.slice ra rl rc,.slice aa al ac],.bool true]:=h7.sl 7 _ rfl
   go_simp
   exact hK
  clear h7;intro a8 hF8
  refine fr_pure (t:=11) (v:=.bool true) (w':=w6) hF8 rfl rfl rfl (fun K hK=>?_) ?_
  ·have k0:a8.tmps.getD 7 undef=.tuple #[.agg #[.int .i64 9,.int .i64 0,.int .i64 0,.int .i64 xc,.int .i64 xk,.int .i64 xn,.slice ra rl rc,.slice aa al ac],.bool true]:=hF8.sl 7 _ rfl
   go_simp
   exact hK
  clear hF8;intro a9 hF9
  refine St.go hF9 ?_;clear hF9 a9
  refine sAIns hW6 trivial rfl ?_
  clear hW6;intro w10 B10 hW10 hN;clear hN
  refine sT 0 hW10 rfl rfl infIns rfl rfl rfl ?_
  clear hW10;intro w11 hW11
  refine sa trivial rfl rfl ?_
  refine St.nil fun a12 h12=>?_
  refine hK5 _ _ ?_
  refine wp_seq_k fun K13 hK13=>?_
  refine wp_seq_k fun K14 hK14=>?_
  refine rg h12 fun ops=>?_;clear h12 a12
  refine sm trivial rfl rfl ?_
  refine sn trivial rfl rfl ?_
  refine St.nil fun a15 h15=>?_
  refine hK14 _ _ ?_
  refine fr_false (t:=13) h15 rfl ?_
  refine wp_skip ?_
  refine hK13 _ _ ?_
  refine wp_seq_k fun K16 hK16=>?_
  refine wp_seq_k fun K17 hK17=>?_
  refine rg h15 fun ops=>?_;clear h15 a15
  refine sS 0 8 Tryz.underlying45 rfl infIns hW11 trivial rfl rfl rfl rfl ?_
  refine sc_1 cf176 hW11 (isBare_any) trivial rfl rfl ?_
  clear hW11;intro w18 hW18
  refine sn trivial rfl rfl ?_
  refine St.nil fun a19 h19=>?_
  refine hK17 _ _ ?_
  refine fr_cond (t:=16) h19 rfl (fun hb=>?_) (fun hb=>?_)
  ·have hc20:(bareB 0 0 xc xk xn rl al)=false:=by simpa using hb
   clear hb
   refine wp_seq_k fun K21 hK21=>?_
   refine rg h19 fun ops=>?_;clear h19 a19
   refine sa trivial rfl rfl ?_
   refine St.nil fun a22 h22=>?_
   refine hK21 _ _ ?_
   refine wp_ret ?_;with_reducible repeat first | refine of_then_ret ?_ | refine of_block_ret ?_
   have hB:=hc20
   skip
   have R:insForm lm 9 xa xb xc xk xn rl al=4:=(insForm_bare (show fieldsOf 9=some (true,true,false,false,false,false,false) from rfl)).trans (if_neg (fun hh=>Bool.noConfusion (hh.symm.trans hc20)))
   exact ret_tmp (t:=4) h22 rfl rfl ⟨by rw [R],hW18.bel⟩
  have hc23:(bareB 0 0 xc xk xn rl al)=true:=by simpa using hb
  clear hb
  refine wp_skip ?_
  refine hK16 _ _ ?_
  refine wp_seq_k fun K24 hK24=>?_
  refine rg h19 fun ops=>?_;clear h19 a19
  refine sS 2 1 Tryz.underlying25 rfl infModule hW18 trivial rfl rfl rfl rfl ?_
  refine sS 1 8 Tryz.underlying45 rfl infIns hW18 trivial rfl rfl rfl rfl ?_
  refine sc_2 cf177 hW18 (boundsNo hlm (by decide)) trivial rfl rfl rfl ?_
  clear hW18;intro w25 hW25
  refine sa trivial rfl rfl ?_
  refine St.nil fun a26 h26=>?_
  refine hK24 _ _ ?_
  refine wp_ret ?_;with_reducible repeat first | refine of_then_ret ?_ | refine of_block_ret ?_
  have hB:=hc23
  skip
  have R:insForm lm 9 xa xb xc xk xn rl al=boundsC lm 9 xk rl al:=(insForm_bare (show fieldsOf 9=some (true,true,false,false,false,false,false) from rfl)).trans (if_pos hc23)
  exact ret_tmp (t:=4) h26 rfl rfl ⟨by rw [R],hW25.bel⟩
theorem cIns10 {xa xb xc xk xn : Int} {ra aa : Option Addr} {rl rc al ac : Nat} {am : Option Addr} {lm cm : Nat} {w : World} (hlm : lm < 2305843009213693952) :
    Rd Tryz.prog 140 #[.agg #[.slice am lm cm],.agg #[.int .i64 10,.int .i64 xa,.int .i64 xb,.int .i64 xc,.int .i64 xk,.int .i64 xn,.slice ra rl rc,.slice aa al ac]] w (.int .i64 (insForm lm 10 xa xb xc xk xn rl al)):=by
  refine fr_enter (n:=20) Tryz.func140 rfl rfl rfl ?_
  intro a hF
  have hW:=Wd.start w
  replace hF:Fr 20 a [(0,.agg #[.slice am lm cm]),(1,.agg #[.int .i64 10,.int .i64 xa,.int .i64 xb,.int .i64 xc,.int .i64 xk,.int .i64 xn,.slice ra rl rc,.slice aa al ac])]:=hF
  refine wp_seq_k fun K1 hK1=>?_
  refine rg hF fun ops=>?_;clear hF a
  refine sB hW trivial rfl rfl ?_
  clear hW;intro w2 B2 hW2 hN;clear hN
  refine sB hW2 trivial rfl rfl ?_
  clear hW2;intro w3 B3 hW3 hN;clear hN
  refine sa trivial rfl rfl ?_
  refine St.nil fun a4 h4=>?_
  refine hK1 _ _ ?_
  refine wp_seq_k fun K5 hK5=>?_
  refine rg h4 fun ops=>?_;clear h4 a4
  refine sS 0 8 Tryz.underlying45 rfl infIns hW3 trivial rfl rfl rfl rfl ?_
  refine sc_1 cf175 hW3 (wf10) trivial rfl rfl ?_
  clear hW3;intro w6 hW6
  refine sm trivial rfl rfl ?_
  intro a7 h7
  refine fr_pure (t:=10) (v:=.agg #[.int .i64 10,.int .i64 0,.int .i64 0,.int .i64 0,.int .i64 xk,.int .i64 xn,.slice ra rl rc,.slice aa al ac]) (w':=w6) h7 rfl rfl rfl (fun K hK=>?_) ?_
  ·have k0:a7.tmps.getD 7 undef=.tuple #[.agg #[.int .i64 10,.int .i64 0,.int .i64 0,.int .i64 0,.int .i64 xk,.int .i64 xn,.slice ra rl rc,.slice aa al ac],.bool true]:=h7.sl 7 _ rfl
   go_simp
   exact hK
  clear h7;intro a8 hF8
  refine fr_pure (t:=11) (v:=.bool true) (w':=w6) hF8 rfl rfl rfl (fun K hK=>?_) ?_
  ·have k0:a8.tmps.getD 7 undef=.tuple #[.agg #[.int .i64 10,.int .i64 0,.int .i64 0,.int .i64 0,.int .i64 xk,.int .i64 xn,.slice ra rl rc,.slice aa al ac],.bool true]:=hF8.sl 7 _ rfl
   go_simp
   exact hK
  clear hF8;intro a9 hF9
  refine St.go hF9 ?_;clear hF9 a9
  refine sAIns hW6 trivial rfl ?_
  clear hW6;intro w10 B10 hW10 hN;clear hN
  refine sT 0 hW10 rfl rfl infIns rfl rfl rfl ?_
  clear hW10;intro w11 hW11
  refine sa trivial rfl rfl ?_
  refine St.nil fun a12 h12=>?_
  refine hK5 _ _ ?_
  refine wp_seq_k fun K13 hK13=>?_
  refine wp_seq_k fun K14 hK14=>?_
  refine rg h12 fun ops=>?_;clear h12 a12
  refine sm trivial rfl rfl ?_
  refine sn trivial rfl rfl ?_
  refine St.nil fun a15 h15=>?_
  refine hK14 _ _ ?_
  refine fr_false (t:=13) h15 rfl ?_
  refine wp_skip ?_
  refine hK13 _ _ ?_
  refine wp_seq_k fun K16 hK16=>?_
  refine wp_seq_k fun K17 hK17=>?_
  refine rg h15 fun ops=>?_;clear h15 a15
  refine sS 0 8 Tryz.underlying45 rfl infIns hW11 trivial rfl rfl rfl rfl ?_
  refine sc_1 cf176 hW11 (isBare_any) trivial rfl rfl ?_
  clear hW11;intro w18 hW18
  refine sn trivial rfl rfl ?_
  refine St.nil fun a19 h19=>?_
  refine hK17 _ _ ?_
  refine fr_cond (t:=16) h19 rfl (fun hb=>?_) (fun hb=>?_)
  ·have hc20:(bareB 0 0 0 xk xn rl al)=false:=by simpa using hb
   clear hb
   refine wp_seq_k fun K21 hK21=>?_
   refine rg h19 fun ops=>?_;clear h19 a19
   refine sa trivial rfl rfl ?_
   refine St.nil fun a22 h22=>?_
   refine hK21 _ _ ?_
   refine wp_ret ?_;with_reducible repeat first | refine of_then_ret ?_ | refine of_block_ret ?_
   have hB:=hc20
   skip
   have R:insForm lm 10 xa xb xc xk xn rl al=4:=(insForm_bare (show fieldsOf 10=some (true,true,true,false,false,false,false) from rfl)).trans (if_neg (fun hh=>Bool.noConfusion (hh.symm.trans hc20)))
   exact ret_tmp (t:=4) h22 rfl rfl ⟨by rw [R],hW18.bel⟩
  have hc23:(bareB 0 0 0 xk xn rl al)=true:=by simpa using hb
  clear hb
  refine wp_skip ?_
  refine hK16 _ _ ?_
  refine wp_seq_k fun K24 hK24=>?_
  refine rg h19 fun ops=>?_;clear h19 a19
  refine sS 2 1 Tryz.underlying25 rfl infModule hW18 trivial rfl rfl rfl rfl ?_
  refine sS 1 8 Tryz.underlying45 rfl infIns hW18 trivial rfl rfl rfl rfl ?_
  refine sc_2 cf177 hW18 (boundsNo hlm (by decide)) trivial rfl rfl rfl ?_
  clear hW18;intro w25 hW25
  refine sa trivial rfl rfl ?_
  refine St.nil fun a26 h26=>?_
  refine hK24 _ _ ?_
  refine wp_ret ?_;with_reducible repeat first | refine of_then_ret ?_ | refine of_block_ret ?_
  have hB:=hc23
  skip
  have R:insForm lm 10 xa xb xc xk xn rl al=boundsC lm 10 xk rl al:=(insForm_bare (show fieldsOf 10=some (true,true,true,false,false,false,false) from rfl)).trans (if_pos hc23)
  exact ret_tmp (t:=4) h26 rfl rfl ⟨by rw [R],hW25.bel⟩
theorem cIns11 {xa xb xc xk xn : Int} {ra aa : Option Addr} {rl rc al ac : Nat} {am : Option Addr} {lm cm : Nat} {w : World} (hlm : lm < 2305843009213693952) :
    Rd Tryz.prog 140 #[.agg #[.slice am lm cm],.agg #[.int .i64 11,.int .i64 xa,.int .i64 xb,.int .i64 xc,.int .i64 xk,.int .i64 xn,.slice ra rl rc,.slice aa al ac]] w (.int .i64 (insForm lm 11 xa xb xc xk xn rl al)):=by
  refine fr_enter (n:=20) Tryz.func140 rfl rfl rfl ?_
  intro a hF
  have hW:=Wd.start w
  replace hF:Fr 20 a [(0,.agg #[.slice am lm cm]),(1,.agg #[.int .i64 11,.int .i64 xa,.int .i64 xb,.int .i64 xc,.int .i64 xk,.int .i64 xn,.slice ra rl rc,.slice aa al ac])]:=hF
  refine wp_seq_k fun K1 hK1=>?_
  refine rg hF fun ops=>?_;clear hF a
  refine sB hW trivial rfl rfl ?_
  clear hW;intro w2 B2 hW2 hN;clear hN
  refine sB hW2 trivial rfl rfl ?_
  clear hW2;intro w3 B3 hW3 hN;clear hN
  refine sa trivial rfl rfl ?_
  refine St.nil fun a4 h4=>?_
  refine hK1 _ _ ?_
  refine wp_seq_k fun K5 hK5=>?_
  refine rg h4 fun ops=>?_;clear h4 a4
  refine sS 0 8 Tryz.underlying45 rfl infIns hW3 trivial rfl rfl rfl rfl ?_
  refine sc_1 cf175 hW3 (wf11) trivial rfl rfl ?_
  clear hW3;intro w6 hW6
  refine sm trivial rfl rfl ?_
  intro a7 h7
  refine fr_pure (t:=10) (v:=.agg #[.int .i64 11,.int .i64 0,.int .i64 xb,.int .i64 xc,.int .i64 xk,.int .i64 xn,.slice ra rl rc,.slice aa al ac]) (w':=w6) h7 rfl rfl rfl (fun K hK=>?_) ?_
  ·have k0:a7.tmps.getD 7 undef=.tuple #[.agg #[.int .i64 11,.int .i64 0,.int .i64 xb,.int .i64 xc,.int .i64 xk,.int .i64 xn,.slice ra rl rc,.slice aa al ac],.bool true]:=h7.sl 7 _ rfl
   go_simp
   exact hK
  clear h7;intro a8 hF8
  refine fr_pure (t:=11) (v:=.bool true) (w':=w6) hF8 rfl rfl rfl (fun K hK=>?_) ?_
  ·have k0:a8.tmps.getD 7 undef=.tuple #[.agg #[.int .i64 11,.int .i64 0,.int .i64 xb,.int .i64 xc,.int .i64 xk,.int .i64 xn,.slice ra rl rc,.slice aa al ac],.bool true]:=hF8.sl 7 _ rfl
   go_simp
   exact hK
  clear hF8;intro a9 hF9
  refine St.go hF9 ?_;clear hF9 a9
  refine sAIns hW6 trivial rfl ?_
  clear hW6;intro w10 B10 hW10 hN;clear hN
  refine sT 0 hW10 rfl rfl infIns rfl rfl rfl ?_
  clear hW10;intro w11 hW11
  refine sa trivial rfl rfl ?_
  refine St.nil fun a12 h12=>?_
  refine hK5 _ _ ?_
  refine wp_seq_k fun K13 hK13=>?_
  refine wp_seq_k fun K14 hK14=>?_
  refine rg h12 fun ops=>?_;clear h12 a12
  refine sm trivial rfl rfl ?_
  refine sn trivial rfl rfl ?_
  refine St.nil fun a15 h15=>?_
  refine hK14 _ _ ?_
  refine fr_false (t:=13) h15 rfl ?_
  refine wp_skip ?_
  refine hK13 _ _ ?_
  refine wp_seq_k fun K16 hK16=>?_
  refine wp_seq_k fun K17 hK17=>?_
  refine rg h15 fun ops=>?_;clear h15 a15
  refine sS 0 8 Tryz.underlying45 rfl infIns hW11 trivial rfl rfl rfl rfl ?_
  refine sc_1 cf176 hW11 (isBare_any) trivial rfl rfl ?_
  clear hW11;intro w18 hW18
  refine sn trivial rfl rfl ?_
  refine St.nil fun a19 h19=>?_
  refine hK17 _ _ ?_
  refine fr_cond (t:=16) h19 rfl (fun hb=>?_) (fun hb=>?_)
  ·have hc20:(bareB 0 xb xc xk xn rl al)=false:=by simpa using hb
   clear hb
   refine wp_seq_k fun K21 hK21=>?_
   refine rg h19 fun ops=>?_;clear h19 a19
   refine sa trivial rfl rfl ?_
   refine St.nil fun a22 h22=>?_
   refine hK21 _ _ ?_
   refine wp_ret ?_;with_reducible repeat first | refine of_then_ret ?_ | refine of_block_ret ?_
   have hB:=hc20
   skip
   have R:insForm lm 11 xa xb xc xk xn rl al=4:=(insForm_bare (show fieldsOf 11=some (true,false,false,false,false,false,false) from rfl)).trans (if_neg (fun hh=>Bool.noConfusion (hh.symm.trans hc20)))
   exact ret_tmp (t:=4) h22 rfl rfl ⟨by rw [R],hW18.bel⟩
  have hc23:(bareB 0 xb xc xk xn rl al)=true:=by simpa using hb
  clear hb
  refine wp_skip ?_
  refine hK16 _ _ ?_
  refine wp_seq_k fun K24 hK24=>?_
  refine rg h19 fun ops=>?_;clear h19 a19
  refine sS 2 1 Tryz.underlying25 rfl infModule hW18 trivial rfl rfl rfl rfl ?_
  refine sS 1 8 Tryz.underlying45 rfl infIns hW18 trivial rfl rfl rfl rfl ?_
  refine sc_2 cf177 hW18 (boundsNo hlm (by decide)) trivial rfl rfl rfl ?_
  clear hW18;intro w25 hW25
  refine sa trivial rfl rfl ?_
  refine St.nil fun a26 h26=>?_
  refine hK24 _ _ ?_
  refine wp_ret ?_;with_reducible repeat first | refine of_then_ret ?_ | refine of_block_ret ?_
  have hB:=hc23
  skip
  have R:insForm lm 11 xa xb xc xk xn rl al=boundsC lm 11 xk rl al:=(insForm_bare (show fieldsOf 11=some (true,false,false,false,false,false,false) from rfl)).trans (if_pos hc23)
  exact ret_tmp (t:=4) h26 rfl rfl ⟨by rw [R],hW25.bel⟩
theorem cIns12 {xa xb xc xk xn : Int} {ra aa : Option Addr} {rl rc al ac : Nat} {am : Option Addr} {lm cm : Nat} {w : World} (hlm : lm < 2305843009213693952) :
    Rd Tryz.prog 140 #[.agg #[.slice am lm cm],.agg #[.int .i64 12,.int .i64 xa,.int .i64 xb,.int .i64 xc,.int .i64 xk,.int .i64 xn,.slice ra rl rc,.slice aa al ac]] w (.int .i64 (insForm lm 12 xa xb xc xk xn rl al)):=by
  refine fr_enter (n:=20) Tryz.func140 rfl rfl rfl ?_
  intro a hF
  have hW:=Wd.start w
  replace hF:Fr 20 a [(0,.agg #[.slice am lm cm]),(1,.agg #[.int .i64 12,.int .i64 xa,.int .i64 xb,.int .i64 xc,.int .i64 xk,.int .i64 xn,.slice ra rl rc,.slice aa al ac])]:=hF
  refine wp_seq_k fun K1 hK1=>?_
  refine rg hF fun ops=>?_;clear hF a
  refine sB hW trivial rfl rfl ?_
  clear hW;intro w2 B2 hW2 hN;clear hN
  refine sB hW2 trivial rfl rfl ?_
  clear hW2;intro w3 B3 hW3 hN;clear hN
  refine sa trivial rfl rfl ?_
  refine St.nil fun a4 h4=>?_
  refine hK1 _ _ ?_
  refine wp_seq_k fun K5 hK5=>?_
  refine rg h4 fun ops=>?_;clear h4 a4
  refine sS 0 8 Tryz.underlying45 rfl infIns hW3 trivial rfl rfl rfl rfl ?_
  refine sc_1 cf175 hW3 (wf12) trivial rfl rfl ?_
  clear hW3;intro w6 hW6
  refine sm trivial rfl rfl ?_
  intro a7 h7
  refine fr_pure (t:=10) (v:=.agg #[.int .i64 12,.int .i64 xa,.int .i64 xb,.int .i64 xc,.int .i64 xk,.int .i64 xn,.slice ra rl rc,.slice aa al ac]) (w':=w6) h7 rfl rfl rfl (fun K hK=>?_) ?_
  ·have k0:a7.tmps.getD 7 undef=.tuple #[.agg #[.int .i64 12,.int .i64 xa,.int .i64 xb,.int .i64 xc,.int .i64 xk,.int .i64 xn,.slice ra rl rc,.slice aa al ac],.bool true]:=h7.sl 7 _ rfl
   go_simp
   exact hK
  clear h7;intro a8 hF8
  refine fr_pure (t:=11) (v:=.bool true) (w':=w6) hF8 rfl rfl rfl (fun K hK=>?_) ?_
  ·have k0:a8.tmps.getD 7 undef=.tuple #[.agg #[.int .i64 12,.int .i64 xa,.int .i64 xb,.int .i64 xc,.int .i64 xk,.int .i64 xn,.slice ra rl rc,.slice aa al ac],.bool true]:=hF8.sl 7 _ rfl
   go_simp
   exact hK
  clear hF8;intro a9 hF9
  refine St.go hF9 ?_;clear hF9 a9
  refine sAIns hW6 trivial rfl ?_
  clear hW6;intro w10 B10 hW10 hN;clear hN
  refine sT 0 hW10 rfl rfl infIns rfl rfl rfl ?_
  clear hW10;intro w11 hW11
  refine sa trivial rfl rfl ?_
  refine St.nil fun a12 h12=>?_
  refine hK5 _ _ ?_
  refine wp_seq_k fun K13 hK13=>?_
  refine wp_seq_k fun K14 hK14=>?_
  refine rg h12 fun ops=>?_;clear h12 a12
  refine sm trivial rfl rfl ?_
  refine sn trivial rfl rfl ?_
  refine St.nil fun a15 h15=>?_
  refine hK14 _ _ ?_
  refine fr_false (t:=13) h15 rfl ?_
  refine wp_skip ?_
  refine hK13 _ _ ?_
  refine wp_seq_k fun K16 hK16=>?_
  refine wp_seq_k fun K17 hK17=>?_
  refine rg h15 fun ops=>?_;clear h15 a15
  refine sS 0 8 Tryz.underlying45 rfl infIns hW11 trivial rfl rfl rfl rfl ?_
  refine sc_1 cf176 hW11 (isBare_any) trivial rfl rfl ?_
  clear hW11;intro w18 hW18
  refine sn trivial rfl rfl ?_
  refine St.nil fun a19 h19=>?_
  refine hK17 _ _ ?_
  refine fr_cond (t:=16) h19 rfl (fun hb=>?_) (fun hb=>?_)
  ·have hc20:(bareB xa xb xc xk xn rl al)=false:=by simpa using hb
   clear hb
   refine wp_seq_k fun K21 hK21=>?_
   refine rg h19 fun ops=>?_;clear h19 a19
   refine sa trivial rfl rfl ?_
   refine St.nil fun a22 h22=>?_
   refine hK21 _ _ ?_
   refine wp_ret ?_;with_reducible repeat first | refine of_then_ret ?_ | refine of_block_ret ?_
   have hB:=hc20
   skip
   have R:insForm lm 12 xa xb xc xk xn rl al=4:=(insForm_bare (show fieldsOf 12=some (false,false,false,false,false,false,false) from rfl)).trans (if_neg (fun hh=>Bool.noConfusion (hh.symm.trans hc20)))
   exact ret_tmp (t:=4) h22 rfl rfl ⟨by rw [R],hW18.bel⟩
  have hc23:(bareB xa xb xc xk xn rl al)=true:=by simpa using hb
  clear hb
  refine wp_skip ?_
  refine hK16 _ _ ?_
  refine wp_seq_k fun K24 hK24=>?_
  refine rg h19 fun ops=>?_;clear h19 a19
  refine sS 2 1 Tryz.underlying25 rfl infModule hW18 trivial rfl rfl rfl rfl ?_
  refine sS 1 8 Tryz.underlying45 rfl infIns hW18 trivial rfl rfl rfl rfl ?_
  refine sc_2 cf177 hW18 (boundsNo hlm (by decide)) trivial rfl rfl rfl ?_
  clear hW18;intro w25 hW25
  refine sa trivial rfl rfl ?_
  refine St.nil fun a26 h26=>?_
  refine hK24 _ _ ?_
  refine wp_ret ?_;with_reducible repeat first | refine of_then_ret ?_ | refine of_block_ret ?_
  have hB:=hc23
  skip
  have R:insForm lm 12 xa xb xc xk xn rl al=boundsC lm 12 xk rl al:=(insForm_bare (show fieldsOf 12=some (false,false,false,false,false,false,false) from rfl)).trans (if_pos hc23)
  exact ret_tmp (t:=4) h26 rfl rfl ⟨by rw [R],hW25.bel⟩
theorem cIns13 {xa xb xc xk xn : Int} {ra aa : Option Addr} {rl rc al ac : Nat} {am : Option Addr} {lm cm : Nat} {w : World} (hlm : lm < 2305843009213693952) :
    Rd Tryz.prog 140 #[.agg #[.slice am lm cm],.agg #[.int .i64 13,.int .i64 xa,.int .i64 xb,.int .i64 xc,.int .i64 xk,.int .i64 xn,.slice ra rl rc,.slice aa al ac]] w (.int .i64 (insForm lm 13 xa xb xc xk xn rl al)):=by
  refine fr_enter (n:=20) Tryz.func140 rfl rfl rfl ?_
  intro a hF
  have hW:=Wd.start w
  replace hF:Fr 20 a [(0,.agg #[.slice am lm cm]),(1,.agg #[.int .i64 13,.int .i64 xa,.int .i64 xb,.int .i64 xc,.int .i64 xk,.int .i64 xn,.slice ra rl rc,.slice aa al ac])]:=hF
  refine wp_seq_k fun K1 hK1=>?_
  refine rg hF fun ops=>?_;clear hF a
  refine sB hW trivial rfl rfl ?_
  clear hW;intro w2 B2 hW2 hN;clear hN
  refine sB hW2 trivial rfl rfl ?_
  clear hW2;intro w3 B3 hW3 hN;clear hN
  refine sa trivial rfl rfl ?_
  refine St.nil fun a4 h4=>?_
  refine hK1 _ _ ?_
  refine wp_seq_k fun K5 hK5=>?_
  refine rg h4 fun ops=>?_;clear h4 a4
  refine sS 0 8 Tryz.underlying45 rfl infIns hW3 trivial rfl rfl rfl rfl ?_
  refine sc_1 cf175 hW3 (wf13) trivial rfl rfl ?_
  clear hW3;intro w6 hW6
  refine sm trivial rfl rfl ?_
  intro a7 h7
  refine fr_pure (t:=10) (v:=.agg #[.int .i64 13,.int .i64 0,.int .i64 xb,.int .i64 xc,.int .i64 xk,.int .i64 xn,.slice ra rl rc,.slice aa al ac]) (w':=w6) h7 rfl rfl rfl (fun K hK=>?_) ?_
  ·have k0:a7.tmps.getD 7 undef=.tuple #[.agg #[.int .i64 13,.int .i64 0,.int .i64 xb,.int .i64 xc,.int .i64 xk,.int .i64 xn,.slice ra rl rc,.slice aa al ac],.bool true]:=h7.sl 7 _ rfl
   go_simp
   exact hK
  clear h7;intro a8 hF8
  refine fr_pure (t:=11) (v:=.bool true) (w':=w6) hF8 rfl rfl rfl (fun K hK=>?_) ?_
  ·have k0:a8.tmps.getD 7 undef=.tuple #[.agg #[.int .i64 13,.int .i64 0,.int .i64 xb,.int .i64 xc,.int .i64 xk,.int .i64 xn,.slice ra rl rc,.slice aa al ac],.bool true]:=hF8.sl 7 _ rfl
   go_simp
   exact hK
  clear hF8;intro a9 hF9
  refine St.go hF9 ?_;clear hF9 a9
  refine sAIns hW6 trivial rfl ?_
  clear hW6;intro w10 B10 hW10 hN;clear hN
  refine sT 0 hW10 rfl rfl infIns rfl rfl rfl ?_
  clear hW10;intro w11 hW11
  refine sa trivial rfl rfl ?_
  refine St.nil fun a12 h12=>?_
  refine hK5 _ _ ?_
  refine wp_seq_k fun K13 hK13=>?_
  refine wp_seq_k fun K14 hK14=>?_
  refine rg h12 fun ops=>?_;clear h12 a12
  refine sm trivial rfl rfl ?_
  refine sn trivial rfl rfl ?_
  refine St.nil fun a15 h15=>?_
  refine hK14 _ _ ?_
  refine fr_false (t:=13) h15 rfl ?_
  refine wp_skip ?_
  refine hK13 _ _ ?_
  refine wp_seq_k fun K16 hK16=>?_
  refine wp_seq_k fun K17 hK17=>?_
  refine rg h15 fun ops=>?_;clear h15 a15
  refine sS 0 8 Tryz.underlying45 rfl infIns hW11 trivial rfl rfl rfl rfl ?_
  refine sc_1 cf176 hW11 (isBare_any) trivial rfl rfl ?_
  clear hW11;intro w18 hW18
  refine sn trivial rfl rfl ?_
  refine St.nil fun a19 h19=>?_
  refine hK17 _ _ ?_
  refine fr_cond (t:=16) h19 rfl (fun hb=>?_) (fun hb=>?_)
  ·have hc20:(bareB 0 xb xc xk xn rl al)=false:=by simpa using hb
   clear hb
   refine wp_seq_k fun K21 hK21=>?_
   refine rg h19 fun ops=>?_;clear h19 a19
   refine sa trivial rfl rfl ?_
   refine St.nil fun a22 h22=>?_
   refine hK21 _ _ ?_
   refine wp_ret ?_;with_reducible repeat first | refine of_then_ret ?_ | refine of_block_ret ?_
   have hB:=hc20
   skip
   have R:insForm lm 13 xa xb xc xk xn rl al=4:=(insForm_bare (show fieldsOf 13=some (true,false,false,false,false,false,false) from rfl)).trans (if_neg (fun hh=>Bool.noConfusion (hh.symm.trans hc20)))
   exact ret_tmp (t:=4) h22 rfl rfl ⟨by rw [R],hW18.bel⟩
  have hc23:(bareB 0 xb xc xk xn rl al)=true:=by simpa using hb
  clear hb
  refine wp_skip ?_
  refine hK16 _ _ ?_
  refine wp_seq_k fun K24 hK24=>?_
  refine rg h19 fun ops=>?_;clear h19 a19
  refine sS 2 1 Tryz.underlying25 rfl infModule hW18 trivial rfl rfl rfl rfl ?_
  refine sS 1 8 Tryz.underlying45 rfl infIns hW18 trivial rfl rfl rfl rfl ?_
  refine sc_2 cf177 hW18 (boundsNo hlm (by decide)) trivial rfl rfl rfl ?_
  clear hW18;intro w25 hW25
  refine sa trivial rfl rfl ?_
  refine St.nil fun a26 h26=>?_
  refine hK24 _ _ ?_
  refine wp_ret ?_;with_reducible repeat first | refine of_then_ret ?_ | refine of_block_ret ?_
  have hB:=hc23
  skip
  have R:insForm lm 13 xa xb xc xk xn rl al=boundsC lm 13 xk rl al:=(insForm_bare (show fieldsOf 13=some (true,false,false,false,false,false,false) from rfl)).trans (if_pos hc23)
  exact ret_tmp (t:=4) h26 rfl rfl ⟨by rw [R],hW25.bel⟩
theorem cIns14 {xa xb xc xk xn : Int} {ra aa : Option Addr} {rl rc al ac : Nat} {am : Option Addr} {lm cm : Nat} {w : World} (hlm : lm < 2305843009213693952) :
    Rd Tryz.prog 140 #[.agg #[.slice am lm cm],.agg #[.int .i64 14,.int .i64 xa,.int .i64 xb,.int .i64 xc,.int .i64 xk,.int .i64 xn,.slice ra rl rc,.slice aa al ac]] w (.int .i64 (insForm lm 14 xa xb xc xk xn rl al)):=by
  refine fr_enter (n:=20) Tryz.func140 rfl rfl rfl ?_
  intro a hF
  have hW:=Wd.start w
  replace hF:Fr 20 a [(0,.agg #[.slice am lm cm]),(1,.agg #[.int .i64 14,.int .i64 xa,.int .i64 xb,.int .i64 xc,.int .i64 xk,.int .i64 xn,.slice ra rl rc,.slice aa al ac])]:=hF
  refine wp_seq_k fun K1 hK1=>?_
  refine rg hF fun ops=>?_;clear hF a
  refine sB hW trivial rfl rfl ?_
  clear hW;intro w2 B2 hW2 hN;clear hN
  refine sB hW2 trivial rfl rfl ?_
  clear hW2;intro w3 B3 hW3 hN;clear hN
  refine sa trivial rfl rfl ?_
  refine St.nil fun a4 h4=>?_
  refine hK1 _ _ ?_
  refine wp_seq_k fun K5 hK5=>?_
  refine rg h4 fun ops=>?_;clear h4 a4
  refine sS 0 8 Tryz.underlying45 rfl infIns hW3 trivial rfl rfl rfl rfl ?_
  refine sc_1 cf175 hW3 (wf14) trivial rfl rfl ?_
  clear hW3;intro w6 hW6
  refine sm trivial rfl rfl ?_
  intro a7 h7
  refine fr_pure (t:=10) (v:=.agg #[.int .i64 14,.int .i64 xa,.int .i64 xb,.int .i64 xc,.int .i64 0,.int .i64 xn,.slice none 0 0,.slice none 0 0]) (w':=w6) h7 rfl rfl rfl (fun K hK=>?_) ?_
  ·have k0:a7.tmps.getD 7 undef=.tuple #[.agg #[.int .i64 14,.int .i64 xa,.int .i64 xb,.int .i64 xc,.int .i64 0,.int .i64 xn,.slice none 0 0,.slice none 0 0],.bool true]:=h7.sl 7 _ rfl
   go_simp
   exact hK
  clear h7;intro a8 hF8
  refine fr_pure (t:=11) (v:=.bool true) (w':=w6) hF8 rfl rfl rfl (fun K hK=>?_) ?_
  ·have k0:a8.tmps.getD 7 undef=.tuple #[.agg #[.int .i64 14,.int .i64 xa,.int .i64 xb,.int .i64 xc,.int .i64 0,.int .i64 xn,.slice none 0 0,.slice none 0 0],.bool true]:=hF8.sl 7 _ rfl
   go_simp
   exact hK
  clear hF8;intro a9 hF9
  refine St.go hF9 ?_;clear hF9 a9
  refine sAIns hW6 trivial rfl ?_
  clear hW6;intro w10 B10 hW10 hN;clear hN
  refine sT 0 hW10 rfl rfl infIns rfl rfl rfl ?_
  clear hW10;intro w11 hW11
  refine sa trivial rfl rfl ?_
  refine St.nil fun a12 h12=>?_
  refine hK5 _ _ ?_
  refine wp_seq_k fun K13 hK13=>?_
  refine wp_seq_k fun K14 hK14=>?_
  refine rg h12 fun ops=>?_;clear h12 a12
  refine sm trivial rfl rfl ?_
  refine sn trivial rfl rfl ?_
  refine St.nil fun a15 h15=>?_
  refine hK14 _ _ ?_
  refine fr_false (t:=13) h15 rfl ?_
  refine wp_skip ?_
  refine hK13 _ _ ?_
  refine wp_seq_k fun K16 hK16=>?_
  refine wp_seq_k fun K17 hK17=>?_
  refine rg h15 fun ops=>?_;clear h15 a15
  refine sS 0 8 Tryz.underlying45 rfl infIns hW11 trivial rfl rfl rfl rfl ?_
  refine sc_1 cf176 hW11 (isBare_any) trivial rfl rfl ?_
  clear hW11;intro w18 hW18
  refine sn trivial rfl rfl ?_
  refine St.nil fun a19 h19=>?_
  refine hK17 _ _ ?_
  refine fr_cond (t:=16) h19 rfl (fun hb=>?_) (fun hb=>?_)
  ·have hc20:(bareB xa xb xc 0 xn 0 0)=false:=by simpa using hb
   clear hb
   refine wp_seq_k fun K21 hK21=>?_
   refine rg h19 fun ops=>?_;clear h19 a19
   refine sa trivial rfl rfl ?_
   refine St.nil fun a22 h22=>?_
   refine hK21 _ _ ?_
   refine wp_ret ?_;with_reducible repeat first | refine of_then_ret ?_ | refine of_block_ret ?_
   have hB:=hc20
   skip
   have R:insForm lm 14 xa xb xc xk xn rl al=4:=(insForm_bare (show fieldsOf 14=some (false,false,false,true,false,true,true) from rfl)).trans (if_neg (fun hh=>Bool.noConfusion (hh.symm.trans hc20)))
   exact ret_tmp (t:=4) h22 rfl rfl ⟨by rw [R],hW18.bel⟩
  have hc23:(bareB xa xb xc 0 xn 0 0)=true:=by simpa using hb
  clear hb
  refine wp_skip ?_
  refine hK16 _ _ ?_
  refine wp_seq_k fun K24 hK24=>?_
  refine rg h19 fun ops=>?_;clear h19 a19
  refine sS 2 1 Tryz.underlying25 rfl infModule hW18 trivial rfl rfl rfl rfl ?_
  refine sS 1 8 Tryz.underlying45 rfl infIns hW18 trivial rfl rfl rfl rfl ?_
  refine sc_2 cf177 hW18 (bounds14 hlm) trivial rfl rfl rfl ?_
  clear hW18;intro w25 hW25
  refine sa trivial rfl rfl ?_
  refine St.nil fun a26 h26=>?_
  refine hK24 _ _ ?_
  refine wp_ret ?_;with_reducible repeat first | refine of_then_ret ?_ | refine of_block_ret ?_
  have hB:=hc23
  skip
  have R:insForm lm 14 xa xb xc xk xn rl al=boundsC lm 14 xk rl al:=(insForm_bare (show fieldsOf 14=some (false,false,false,true,false,true,true) from rfl)).trans (if_pos hc23)
  exact ret_tmp (t:=4) h26 rfl rfl ⟨by rw [R],hW25.bel⟩
theorem cInsNo {xop xa xb xc xk xn : Int} {ra aa : Option Addr} {rl rc al ac : Nat} {am : Option Addr} {lm cm : Nat} {w : World} (hlm : lm < 2305843009213693952) (h : xop ≠ 1 ∧ xop ≠ 2 ∧ xop ≠ 3 ∧ xop ≠ 4 ∧ xop ≠ 5 ∧ xop ≠ 6 ∧ xop ≠ 7 ∧ xop ≠ 8 ∧ xop ≠ 9 ∧ xop ≠ 10 ∧ xop ≠ 11 ∧ xop ≠ 12 ∧ xop ≠ 13 ∧ xop ≠ 14) :
    Rd Tryz.prog 140 #[.agg #[.slice am lm cm],.agg #[.int .i64 xop,.int .i64 xa,.int .i64 xb,.int .i64 xc,.int .i64 xk,.int .i64 xn,.slice ra rl rc,.slice aa al ac]] w (.int .i64 (insForm lm xop xa xb xc xk xn rl al)):=by
  refine fr_enter (n:=20) Tryz.func140 rfl rfl rfl ?_
  intro a hF
  have hW:=Wd.start w
  replace hF:Fr 20 a [(0,.agg #[.slice am lm cm]),(1,.agg #[.int .i64 xop,.int .i64 xa,.int .i64 xb,.int .i64 xc,.int .i64 xk,.int .i64 xn,.slice ra rl rc,.slice aa al ac])]:=hF
  refine wp_seq_k fun K1 hK1=>?_
  refine rg hF fun ops=>?_;clear hF a
  refine sB hW trivial rfl rfl ?_
  clear hW;intro w2 B2 hW2 hN;clear hN
  refine sB hW2 trivial rfl rfl ?_
  clear hW2;intro w3 B3 hW3 hN;clear hN
  refine sa trivial rfl rfl ?_
  refine St.nil fun a4 h4=>?_
  refine hK1 _ _ ?_
  refine wp_seq_k fun K5 hK5=>?_
  refine rg h4 fun ops=>?_;clear h4 a4
  refine sS 0 8 Tryz.underlying45 rfl infIns hW3 trivial rfl rfl rfl rfl ?_
  refine sc_1 cf175 hW3 (wfNo h) trivial rfl rfl ?_
  clear hW3;intro w6 hW6
  refine sm trivial rfl rfl ?_
  intro a7 h7
  refine fr_pure (t:=10) (v:=.agg #[.int .i64 xop,.int .i64 xa,.int .i64 xb,.int .i64 xc,.int .i64 xk,.int .i64 xn,.slice ra rl rc,.slice aa al ac]) (w':=w6) h7 rfl rfl rfl (fun K hK=>?_) ?_
  ·have k0:a7.tmps.getD 7 undef=.tuple #[.agg #[.int .i64 xop,.int .i64 xa,.int .i64 xb,.int .i64 xc,.int .i64 xk,.int .i64 xn,.slice ra rl rc,.slice aa al ac],.bool false]:=h7.sl 7 _ rfl
   go_simp
   exact hK
  clear h7;intro a8 hF8
  refine fr_pure (t:=11) (v:=.bool false) (w':=w6) hF8 rfl rfl rfl (fun K hK=>?_) ?_
  ·have k0:a8.tmps.getD 7 undef=.tuple #[.agg #[.int .i64 xop,.int .i64 xa,.int .i64 xb,.int .i64 xc,.int .i64 xk,.int .i64 xn,.slice ra rl rc,.slice aa al ac],.bool false]:=hF8.sl 7 _ rfl
   go_simp
   exact hK
  clear hF8;intro a9 hF9
  refine St.go hF9 ?_;clear hF9 a9
  refine sAIns hW6 trivial rfl ?_
  clear hW6;intro w10 B10 hW10 hN;clear hN
  refine sT 0 hW10 rfl rfl infIns rfl rfl rfl ?_
  clear hW10;intro w11 hW11
  refine sa trivial rfl rfl ?_
  refine St.nil fun a12 h12=>?_
  refine hK5 _ _ ?_
  refine wp_seq_k fun K13 hK13=>?_
  refine wp_seq_k fun K14 hK14=>?_
  refine rg h12 fun ops=>?_;clear h12 a12
  refine sm trivial rfl rfl ?_
  refine sn trivial rfl rfl ?_
  refine St.nil fun a15 h15=>?_
  refine hK14 _ _ ?_
  refine fr_true (t:=13) h15 rfl ?_
  refine wp_seq_k fun K16 hK16=>?_
  refine rg h15 fun ops=>?_;clear h15 a15
  refine sa trivial rfl rfl ?_
  refine St.nil fun a17 h17=>?_
  refine hK16 _ _ ?_
  refine wp_ret ?_;with_reducible repeat first | refine of_then_ret ?_ | refine of_block_ret ?_
  have R:insForm lm xop xa xb xc xk xn rl al=3:=by simp [insForm,(show fieldsOf xop=none by unfold fieldsOf;simp [h])]
  exact ret_tmp (t:=4) h17 rfl rfl ⟨by rw [R],hW11.bel⟩
theorem cIns_any (funcs : Nat) (x : MIns) (i : IP) (am : Option Addr) (cm : Nat) (w : World) (hf : funcs < 2305843009213693952) :
    Rd Tryz.prog 140 #[.agg #[.slice am funcs cm],.agg #[.int .i64 x.op,.int .i64 x.a,.int .i64 x.b,.int .i64 x.c,.int .i64 x.k,.int .i64 x.n,.slice i.pR x.regs.length i.cR,.slice i.pA x.args.length i.cA]] w (.int .i64 (x.form funcs)):=by
  rw [MIns.form_eq]
  have hno:=op_cases x.op
  generalize x.op=op at hno ⊢
  rcases hno with rfl | rfl | rfl | rfl | rfl | rfl | rfl | rfl | rfl | rfl | rfl | rfl | rfl | rfl | h
  · exact cIns1 hf
  · exact cIns2 hf
  · exact cIns3 hf
  · exact cIns4 hf
  · exact cIns5 hf
  · exact cIns6 hf
  · exact cIns7 hf
  · exact cIns8 hf
  · exact cIns9 hf
  · exact cIns10 hf
  · exact cIns11 hf
  · exact cIns12 hf
  · exact cIns13 hf
  · exact cIns14 hf
  · exact cInsNo hf h
theorem cEnd_any {x : MEnd} {e : EP} {fr : Int} {fp fq fb : Option Addr} {fl fc fm fd bl fe : Nat} {w : World} (hs : x.yes.regs.length < 2305843009213693952 ∧ x.yes.args.length < 2305843009213693952 ∧ x.no.regs.length < 2305843009213693952 ∧ x.no.args.length < 2305843009213693952) (hbl : bl < 2305843009213693952) :
    Rd Tryz.prog 142 #[.agg #[.int .i64 fr,.slice fp fl fc,.slice fq fm fd,.slice fb bl fe],.agg #[.int .i64 x.op,.int .i64 x.a,.int .i64 x.yes.block,.slice e.pYR x.yes.regs.length e.cYR,.slice e.pYA x.yes.args.length e.cYA,.int .i64 x.no.block,.slice e.pNR x.no.regs.length e.cNR,.slice e.pNA x.no.args.length e.cNA,.slice e.pA x.args.length e.cA]] w (.int .i64 (x.form bl)):=by
  refine fr_enter (n:=56) Tryz.func142 rfl rfl rfl ?_
  intro a hF
  have hW:=Wd.start w
  replace hF:Fr 56 a [(0,.agg #[.int .i64 fr,.slice fp fl fc,.slice fq fm fd,.slice fb bl fe]),(1,.agg #[.int .i64 x.op,.int .i64 x.a,.int .i64 x.yes.block,.slice e.pYR x.yes.regs.length e.cYR,.slice e.pYA x.yes.args.length e.cYA,.int .i64 x.no.block,.slice e.pNR x.no.regs.length e.cNR,.slice e.pNA x.no.args.length e.cNA,.slice e.pA x.args.length e.cA])]:=hF
  refine wp_seq_k fun K1 hK1=>?_
  refine rg hF fun ops=>?_;clear hF a
  refine sB hW trivial rfl rfl ?_
  clear hW;intro w2 B2 hW2 hN;clear hN
  refine sB hW2 trivial rfl rfl ?_
  clear hW2;intro w3 B3 hW3 hN;clear hN
  refine sa trivial rfl rfl ?_
  refine St.nil fun a4 h4=>?_
  refine hK1 _ _ ?_
  refine wp_seq_k fun K5 hK5=>?_
  refine wp_block ?_
  refine wp_seq_k fun K6 hK6=>?_
  refine fr_region ?_
  intro ops hops
  have hg3:(ops[3]?).bind (fun o:Oper=>o.dst)=some 10:=hops 3
  clear hops
  refine St.go h4 ?_;clear h4 a4
  refine sfEnd0 trivial rfl rfl ?_
  refine sbInt 0 hW3 trivial rfl rfl rfl rfl ?_
  refine slt trivial rfl rfl rfl ?_
  refine sm trivial rfl rfl ?_
  intro a7 h7
  rcases Bool.eq_false_or_eq_true (decide (x.op < 1)) with hb | hb
  ·rw [hb] at h7
   have hc8:x.op < 1:=of_decide_eq_true hb
   clear hb
   refine St.go h7 ?_;clear h7 a7
   refine so hg3 rfl rfl rfl rfl ?_
   refine so hg3 rfl rfl rfl rfl ?_
   refine so hg3 rfl rfl rfl rfl ?_
   refine sp trivial rfl rfl rfl ?_
   refine sa trivial rfl rfl ?_
   refine St.nil fun a9 h9=>?_
   refine hK6 _ _ ?_
   refine fr_true (t:=6) h9 rfl ?_
   refine wp_seq_k fun K10 hK10=>?_
   refine rg h9 fun ops=>?_;clear h9 a9
   refine sa trivial rfl rfl ?_
   refine St.nil fun a11 h11=>?_
   refine hK10 _ _ ?_
   refine wp_ret ?_;with_reducible repeat first | refine of_then_ret ?_ | refine of_block_ret ?_
   have R:x.form bl=3:=by
    rw [endForm_eq]
    generalize x.yes.form bl (x.op != 3)=yv
    generalize x.no.form bl (x.op == 2)=zv
    first | (simp [hc8];done) | (exfalso;have:=hc8;omega)
   exact ret_tmp (t:=4) h11 rfl rfl ⟨by rw [R],hW3.bel⟩
  rw [hb] at h7
  have hc12:¬ (x.op < 1):=of_decide_eq_false hb
  clear hb
  refine St.go h7 ?_;clear h7 a7
  refine sfEnd0 ⟨_,hg3,rfl,rfl⟩ rfl rfl ?_
  refine sbInt 0 hW3 ⟨_,hg3,rfl,rfl⟩ rfl rfl rfl rfl ?_
  refine sgt ⟨_,hg3,rfl,rfl⟩ rfl rfl rfl ?_
  refine spf trivial rfl rfl rfl ?_
  refine sa trivial rfl rfl ?_
  refine St.nil fun a13 h13=>?_
  refine hK6 _ _ ?_
  refine fr_cond (t:=6) h13 rfl (fun hb=>?_) (fun hb=>?_)
  ·have hc14:3 < x.op:=of_decide_eq_true hb
   clear hb
   refine wp_seq_k fun K15 hK15=>?_
   refine rg h13 fun ops=>?_;clear h13 a13
   refine sa trivial rfl rfl ?_
   refine St.nil fun a16 h16=>?_
   refine hK15 _ _ ?_
   refine wp_ret ?_;with_reducible repeat first | refine of_then_ret ?_ | refine of_block_ret ?_
   have R:x.form bl=3:=by
    rw [endForm_eq]
    generalize x.yes.form bl (x.op != 3)=yv
    generalize x.no.form bl (x.op == 2)=zv
    first | (simp [hc12,hc14];done) | (exfalso;have:=hc12;have:=hc14;omega)
   exact ret_tmp (t:=4) h16 rfl rfl ⟨by rw [R],hW3.bel⟩
  have hc17:¬ (3 < x.op):=of_decide_eq_false hb
  clear hb
  refine wp_seq_k fun K18 hK18=>?_
  refine fr_region ?_
  intro ops hops
  have hg3:(ops[3]?).bind (fun o:Oper=>o.dst)=some 19:=hops 3
  clear hops
  refine St.go h13 ?_;clear h13 a13
  refine sfEnd0 trivial rfl rfl ?_
  refine sbInt 0 hW3 trivial rfl rfl rfl rfl ?_
  refine sne trivial rfl rfl rfl ?_
  refine sm trivial rfl rfl ?_
  intro a19 h19
  rcases Bool.eq_false_or_eq_true (x.op != 2) with hb | hb
  ·rw [hb] at h19
   have h9:¬ x.op=2:=bne_iff_ne.1 hb
   have hc20:¬ x.op=2:=h9
   clear h9
   clear hb
   refine St.go h19 ?_;clear h19 a19
   refine sfEnd1 ⟨_,hg3,rfl,rfl⟩ rfl rfl ?_
   refine sbInt 0 hW3 ⟨_,hg3,rfl,rfl⟩ rfl rfl rfl rfl ?_
   refine sne ⟨_,hg3,rfl,rfl⟩ rfl rfl rfl ?_
   refine sp trivial rfl rfl rfl ?_
   refine sa trivial rfl rfl ?_
   refine St.nil fun a21 h21=>?_
   refine hK18 _ _ ?_
   refine fr_cond (t:=15) h21 rfl (fun hb=>?_) (fun hb=>?_)
   ·have h9:¬ x.a=0:=bne_iff_ne.1 hb
    have hc22:¬ x.a=0:=h9
    clear h9
    clear hb
    refine wp_seq_k fun K23 hK23=>?_
    refine rg h21 fun ops=>?_;clear h21 a21
    refine sa trivial rfl rfl ?_
    refine St.nil fun a24 h24=>?_
    refine hK23 _ _ ?_
    refine wp_ret ?_;with_reducible repeat first | refine of_then_ret ?_ | refine of_block_ret ?_
    have R:x.form bl=4:=by
     rw [endForm_eq]
     generalize x.yes.form bl (x.op != 3)=yv
     generalize x.no.form bl (x.op == 2)=zv
     first | (simp [hc12,hc17,hc20,hc22];done) | (exfalso;have:=hc12;have:=hc17;have:=hc20;have:=hc22;omega)
    exact ret_tmp (t:=4) h24 rfl rfl ⟨by rw [R],hW3.bel⟩
   have h9:x.a=0:=bne_eq_false_iff_eq.1 hb
   have hc25:Hid (x.a=0):=h9
   clear h9
   clear hb
   refine wp_seq_k fun K26 hK26=>?_
   refine fr_region ?_
   intro ops hops
   have hg3:(ops[3]?).bind (fun o:Oper=>o.dst)=some 28:=hops 3
   clear hops
   refine St.go h21 ?_;clear h21 a21
   refine sfEnd0 trivial rfl rfl ?_
   refine sbInt 0 hW3 trivial rfl rfl rfl rfl ?_
   refine sne trivial rfl rfl rfl ?_
   refine sm trivial rfl rfl ?_
   intro a27 h27
   rcases Bool.eq_false_or_eq_true (x.op != 3) with hb | hb
   ·rw [hb] at h27
    have h9:¬ x.op=3:=bne_iff_ne.1 hb
    have hc28:¬ x.op=3:=h9
    clear h9
    clear hb
    refine St.go h27 ?_;clear h27 a27
    refine sfEnd4 ⟨_,hg3,rfl,rfl⟩ rfl rfl ?_
    refine sbInts 0 hW3 ⟨_,hg3,rfl,rfl⟩ rfl rfl rfl rfl ?_
    refine slInts ⟨_,hg3,rfl,rfl⟩ rfl rfl ?_
    refine sgt ⟨_,hg3,rfl,rfl⟩ rfl rfl rfl ?_
    refine sp trivial rfl rfl rfl ?_
    refine sa trivial rfl rfl ?_
    refine St.nil fun a29 h29=>?_
    refine hK26 _ _ ?_
    refine fr_cond (t:=24) h29 rfl (fun hb=>?_) (fun hb=>?_)
    ·have hc30:0 < x.args.length:=by have:=of_decide_eq_true hb;omega
     clear hb
     refine wp_seq_k fun K31 hK31=>?_
     refine rg h29 fun ops=>?_;clear h29 a29
     refine sa trivial rfl rfl ?_
     refine St.nil fun a32 h32=>?_
     refine hK31 _ _ ?_
     refine wp_ret ?_;with_reducible repeat first | refine of_then_ret ?_ | refine of_block_ret ?_
     have R:x.form bl=4:=by
      rw [endForm_eq]
      generalize x.yes.form bl (x.op != 3)=yv
      generalize x.no.form bl (x.op == 2)=zv
      first | (simp [hc12,hc17,hc20,hc25.out,hc28,hc30];done) | (exfalso;have:=hc12;have:=hc17;have:=hc20;have:=hc25.out;have:=hc28;have:=hc30;omega)
     exact ret_tmp (t:=4) h32 rfl rfl ⟨by rw [R],hW3.bel⟩
    have hc33:¬ (0 < x.args.length):=by have:=of_decide_eq_false hb;omega
    clear hb
    refine wp_seq_k fun K34 hK34=>?_
    refine rg h29 fun ops=>?_;clear h29 a29
    refine sfEnd4 trivial rfl rfl ?_
    refine sbInts 0 hW3 trivial rfl rfl rfl rfl ?_
    refine slInts trivial rfl rfl ?_
    refine sgt trivial rfl rfl rfl ?_
    refine sa trivial rfl rfl ?_
    refine St.nil fun a35 h35=>?_
    refine hK34 _ _ ?_
    refine fr_cond (t:=34) h35 rfl (fun hb=>?_) (fun hb=>?_)
    ·have hc36:8 < x.args.length:=by have:=of_decide_eq_true hb;omega
     clear hb
     refine wp_seq_k fun K37 hK37=>?_
     refine rg h35 fun ops=>?_;clear h35 a35
     refine sa trivial rfl rfl ?_
     refine St.nil fun a38 h38=>?_
     refine hK37 _ _ ?_
     refine wp_ret ?_;with_reducible repeat first | refine of_then_ret ?_ | refine of_block_ret ?_
     have R:x.form bl=2:=by
      rw [endForm_eq]
      generalize x.yes.form bl (x.op != 3)=yv
      generalize x.no.form bl (x.op == 2)=zv
      first | (simp [hc12,hc17,hc20,hc25.out,hc28,hc33,hc36];done) | (exfalso;have:=hc12;have:=hc17;have:=hc20;have:=hc25.out;have:=hc28;have:=hc33;have:=hc36;omega)
     exact ret_tmp (t:=4) h38 rfl rfl ⟨by rw [R],hW3.bel⟩
    have hc39:¬ (8 < x.args.length):=by have:=of_decide_eq_false hb;omega
    clear hb
    refine wp_skip ?_
    refine hK5 _ _ ?_
    refine wp_seq_k fun K40 hK40=>?_
    refine wp_seq_k fun K41 hK41=>?_
    refine rg h35 fun ops=>?_;clear h35 a35
    refine sS 1 4 Tryz.underlying42 rfl infFunc hW3 trivial rfl rfl rfl rfl ?_
    refine sfEnd2 trivial rfl rfl ?_
    refine sS 0 3 Tryz.underlying48 rfl infTo hW3 trivial rfl rfl rfl rfl ?_
    refine sfEnd0 trivial rfl rfl ?_
    refine sbInt 0 hW3 trivial rfl rfl rfl rfl ?_
    refine sne trivial rfl rfl rfl ?_
    refine sc_3 cf178 hW3 (toCode_any (x.op != 3) hs.1 hs.2.1 hbl) trivial rfl rfl rfl rfl ?_
    clear hW3;intro w42 hW42
    refine sa trivial rfl rfl ?_
    refine St.nil fun a43 h43=>?_
    refine hK41 _ _ ?_
    refine wp_seq_k fun K44 hK44=>?_
    refine rg h43 fun ops=>?_;clear h43 a43
    refine sm trivial rfl rfl ?_
    refine sne trivial rfl rfl rfl ?_
    refine St.nil fun a45 h45=>?_
    refine hK44 _ _ ?_
    refine fr_cond (t:=47) h45 rfl (fun hb=>?_) (fun hb=>?_)
    ·have h9:¬ (x.yes.form bl (x.op != 3))=0:=bne_iff_ne.1 hb
     have hc46:¬ (x.yes.form bl (x.op != 3))=0:=h9
     clear h9
     clear hb
     refine wp_seq_k fun K47 hK47=>?_
     refine rg h45 fun ops=>?_;clear h45 a45
     refine sm trivial rfl rfl ?_
     refine sa trivial rfl rfl ?_
     refine St.nil fun a48 h48=>?_
     refine hK47 _ _ ?_
     refine wp_ret ?_;with_reducible repeat first | refine of_then_ret ?_ | refine of_block_ret ?_
     have R:x.form bl=x.yes.form bl (x.op != 3):=by
      rw [endForm_eq]
      have hY:=hc46
      generalize x.yes.form bl (x.op != 3)=yv at hY ⊢
      generalize x.no.form bl (x.op == 2)=zv
      first | (simp [hc12,hc17,hc20,hc25.out,hc28,hc33,hc39,hY];done) | (exfalso;have:=hc12;have:=hc17;have:=hc20;have:=hc25.out;have:=hc28;have:=hc33;have:=hc39;omega)
     exact ret_tmp (t:=4) h48 rfl rfl ⟨by rw [R],hW42.bel⟩
    have h9:(x.yes.form bl (x.op != 3))=0:=bne_eq_false_iff_eq.1 hb
    have hc49:Hid ((x.yes.form bl (x.op != 3))=0):=h9
    clear h9
    clear hb
    refine wp_skip ?_
    refine hK40 _ _ ?_
    refine wp_seq_k fun K50 hK50=>?_
    refine rg h45 fun ops=>?_;clear h45 a45
    refine sS 1 4 Tryz.underlying42 rfl infFunc hW42 trivial rfl rfl rfl rfl ?_
    refine sfEnd3 trivial rfl rfl ?_
    refine sS 0 3 Tryz.underlying48 rfl infTo hW42 trivial rfl rfl rfl rfl ?_
    refine sfEnd0 trivial rfl rfl ?_
    refine sbInt 0 hW42 trivial rfl rfl rfl rfl ?_
    refine seq trivial rfl rfl rfl ?_
    refine sc_3 cf178 hW42 (toCode_any (x.op == 2) hs.2.2.1 hs.2.2.2 hbl) trivial rfl rfl rfl rfl ?_
    clear hW42;intro w51 hW51
    refine sa trivial rfl rfl ?_
    refine St.nil fun a52 h52=>?_
    refine hK50 _ _ ?_
    refine wp_ret ?_;with_reducible repeat first | refine of_then_ret ?_ | refine of_block_ret ?_
    have R:x.form bl=x.no.form bl (x.op == 2):=by
     rw [endForm_eq]
     have hY:=hc49.out
     generalize x.yes.form bl (x.op != 3)=yv at hY ⊢
     generalize x.no.form bl (x.op == 2)=zv
     first | (simp [hc12,hc17,hc20,hc25.out,hc28,hc33,hc39,hY];done) | (exfalso;have:=hc12;have:=hc17;have:=hc20;have:=hc25.out;have:=hc28;have:=hc33;have:=hc39;omega)
    exact ret_tmp (t:=4) h52 rfl rfl ⟨by rw [R],hW51.bel⟩
   rw [hb] at h27
   have h9:x.op=3:=bne_eq_false_iff_eq.1 hb
   have hc53:Hid (x.op=3):=h9
   clear h9
   clear hb
   refine St.go h27 ?_;clear h27 a27
   refine so hg3 rfl rfl rfl rfl ?_
   refine so hg3 rfl rfl rfl rfl ?_
   refine so hg3 rfl rfl rfl rfl ?_
   refine so hg3 rfl rfl rfl rfl ?_
   refine spf trivial rfl rfl rfl ?_
   refine sa trivial rfl rfl ?_
   refine St.nil fun a54 h54=>?_
   refine hK26 _ _ ?_
   refine fr_false (t:=24) h54 rfl ?_
   refine wp_seq_k fun K55 hK55=>?_
   refine rg h54 fun ops=>?_;clear h54 a54
   refine sfEnd4 trivial rfl rfl ?_
   refine sbInts 0 hW3 trivial rfl rfl rfl rfl ?_
   refine slInts trivial rfl rfl ?_
   refine sgt trivial rfl rfl rfl ?_
   refine sa trivial rfl rfl ?_
   refine St.nil fun a56 h56=>?_
   refine hK55 _ _ ?_
   refine fr_cond (t:=34) h56 rfl (fun hb=>?_) (fun hb=>?_)
   ·have hc57:8 < x.args.length:=by have:=of_decide_eq_true hb;omega
    clear hb
    refine wp_seq_k fun K58 hK58=>?_
    refine rg h56 fun ops=>?_;clear h56 a56
    refine sa trivial rfl rfl ?_
    refine St.nil fun a59 h59=>?_
    refine hK58 _ _ ?_
    refine wp_ret ?_;with_reducible repeat first | refine of_then_ret ?_ | refine of_block_ret ?_
    have R:x.form bl=2:=by
     rw [endForm_eq]
     generalize x.yes.form bl (x.op != 3)=yv
     generalize x.no.form bl (x.op == 2)=zv
     first | (simp [hc12,hc17,hc20,hc25.out,hc53.out,hc57];done) | (exfalso;have:=hc12;have:=hc17;have:=hc20;have:=hc25.out;have:=hc53.out;have:=hc57;omega)
    exact ret_tmp (t:=4) h59 rfl rfl ⟨by rw [R],hW3.bel⟩
   have hc60:¬ (8 < x.args.length):=by have:=of_decide_eq_false hb;omega
   clear hb
   refine wp_skip ?_
   refine hK5 _ _ ?_
   refine wp_seq_k fun K61 hK61=>?_
   refine wp_seq_k fun K62 hK62=>?_
   refine rg h56 fun ops=>?_;clear h56 a56
   refine sS 1 4 Tryz.underlying42 rfl infFunc hW3 trivial rfl rfl rfl rfl ?_
   refine sfEnd2 trivial rfl rfl ?_
   refine sS 0 3 Tryz.underlying48 rfl infTo hW3 trivial rfl rfl rfl rfl ?_
   refine sfEnd0 trivial rfl rfl ?_
   refine sbInt 0 hW3 trivial rfl rfl rfl rfl ?_
   refine sne trivial rfl rfl rfl ?_
   refine sc_3 cf178 hW3 (toCode_any (x.op != 3) hs.1 hs.2.1 hbl) trivial rfl rfl rfl rfl ?_
   clear hW3;intro w63 hW63
   refine sa trivial rfl rfl ?_
   refine St.nil fun a64 h64=>?_
   refine hK62 _ _ ?_
   refine wp_seq_k fun K65 hK65=>?_
   refine rg h64 fun ops=>?_;clear h64 a64
   refine sm trivial rfl rfl ?_
   refine sne trivial rfl rfl rfl ?_
   refine St.nil fun a66 h66=>?_
   refine hK65 _ _ ?_
   refine fr_cond (t:=47) h66 rfl (fun hb=>?_) (fun hb=>?_)
   ·have h9:¬ (x.yes.form bl (x.op != 3))=0:=bne_iff_ne.1 hb
    have hc67:¬ (x.yes.form bl (x.op != 3))=0:=h9
    clear h9
    clear hb
    refine wp_seq_k fun K68 hK68=>?_
    refine rg h66 fun ops=>?_;clear h66 a66
    refine sm trivial rfl rfl ?_
    refine sa trivial rfl rfl ?_
    refine St.nil fun a69 h69=>?_
    refine hK68 _ _ ?_
    refine wp_ret ?_;with_reducible repeat first | refine of_then_ret ?_ | refine of_block_ret ?_
    have R:x.form bl=x.yes.form bl (x.op != 3):=by
     rw [endForm_eq]
     have hY:=hc67
     generalize x.yes.form bl (x.op != 3)=yv at hY ⊢
     generalize x.no.form bl (x.op == 2)=zv
     first | (simp [hc12,hc17,hc20,hc25.out,hc53.out,hc60,hY];done) | (exfalso;have:=hc12;have:=hc17;have:=hc20;have:=hc25.out;have:=hc53.out;have:=hc60;omega)
    exact ret_tmp (t:=4) h69 rfl rfl ⟨by rw [R],hW63.bel⟩
   have h9:(x.yes.form bl (x.op != 3))=0:=bne_eq_false_iff_eq.1 hb
   have hc70:Hid ((x.yes.form bl (x.op != 3))=0):=h9
   clear h9
   clear hb
   refine wp_skip ?_
   refine hK61 _ _ ?_
   refine wp_seq_k fun K71 hK71=>?_
   refine rg h66 fun ops=>?_;clear h66 a66
   refine sS 1 4 Tryz.underlying42 rfl infFunc hW63 trivial rfl rfl rfl rfl ?_
   refine sfEnd3 trivial rfl rfl ?_
   refine sS 0 3 Tryz.underlying48 rfl infTo hW63 trivial rfl rfl rfl rfl ?_
   refine sfEnd0 trivial rfl rfl ?_
   refine sbInt 0 hW63 trivial rfl rfl rfl rfl ?_
   refine seq trivial rfl rfl rfl ?_
   refine sc_3 cf178 hW63 (toCode_any (x.op == 2) hs.2.2.1 hs.2.2.2 hbl) trivial rfl rfl rfl rfl ?_
   clear hW63;intro w72 hW72
   refine sa trivial rfl rfl ?_
   refine St.nil fun a73 h73=>?_
   refine hK71 _ _ ?_
   refine wp_ret ?_;with_reducible repeat first | refine of_then_ret ?_ | refine of_block_ret ?_
   have R:x.form bl=x.no.form bl (x.op == 2):=by
    rw [endForm_eq]
    have hY:=hc70.out
    generalize x.yes.form bl (x.op != 3)=yv at hY ⊢
    generalize x.no.form bl (x.op == 2)=zv
    first | (simp [hc12,hc17,hc20,hc25.out,hc53.out,hc60,hY];done) | (exfalso;have:=hc12;have:=hc17;have:=hc20;have:=hc25.out;have:=hc53.out;have:=hc60;omega)
   exact ret_tmp (t:=4) h73 rfl rfl ⟨by rw [R],hW72.bel⟩
  rw [hb] at h19
  have h9:x.op=2:=bne_eq_false_iff_eq.1 hb
  have hc74:Hid (x.op=2):=h9
  clear h9
  clear hb
  refine St.go h19 ?_;clear h19 a19
  refine so hg3 rfl rfl rfl rfl ?_
  refine so hg3 rfl rfl rfl rfl ?_
  refine so hg3 rfl rfl rfl rfl ?_
  refine spf trivial rfl rfl rfl ?_
  refine sa trivial rfl rfl ?_
  refine St.nil fun a75 h75=>?_
  refine hK18 _ _ ?_
  refine fr_false (t:=15) h75 rfl ?_
  refine wp_seq_k fun K76 hK76=>?_
  refine fr_region ?_
  intro ops hops
  have hg3:(ops[3]?).bind (fun o:Oper=>o.dst)=some 28:=hops 3
  clear hops
  refine St.go h75 ?_;clear h75 a75
  refine sfEnd0 trivial rfl rfl ?_
  refine sbInt 0 hW3 trivial rfl rfl rfl rfl ?_
  refine sne trivial rfl rfl rfl ?_
  refine sm trivial rfl rfl ?_
  intro a77 h77
  rcases Bool.eq_false_or_eq_true (x.op != 3) with hb | hb
  ·rw [hb] at h77
   have h9:¬ x.op=3:=bne_iff_ne.1 hb
   have hc78:¬ x.op=3:=h9
   clear h9
   clear hb
   refine St.go h77 ?_;clear h77 a77
   refine sfEnd4 ⟨_,hg3,rfl,rfl⟩ rfl rfl ?_
   refine sbInts 0 hW3 ⟨_,hg3,rfl,rfl⟩ rfl rfl rfl rfl ?_
   refine slInts ⟨_,hg3,rfl,rfl⟩ rfl rfl ?_
   refine sgt ⟨_,hg3,rfl,rfl⟩ rfl rfl rfl ?_
   refine sp trivial rfl rfl rfl ?_
   refine sa trivial rfl rfl ?_
   refine St.nil fun a79 h79=>?_
   refine hK76 _ _ ?_
   refine fr_cond (t:=24) h79 rfl (fun hb=>?_) (fun hb=>?_)
   ·have hc80:0 < x.args.length:=by have:=of_decide_eq_true hb;omega
    clear hb
    refine wp_seq_k fun K81 hK81=>?_
    refine rg h79 fun ops=>?_;clear h79 a79
    refine sa trivial rfl rfl ?_
    refine St.nil fun a82 h82=>?_
    refine hK81 _ _ ?_
    refine wp_ret ?_;with_reducible repeat first | refine of_then_ret ?_ | refine of_block_ret ?_
    have R:x.form bl=4:=by
     rw [endForm_eq]
     generalize x.yes.form bl (x.op != 3)=yv
     generalize x.no.form bl (x.op == 2)=zv
     first | (simp [hc12,hc17,hc74.out,hc78,hc80];done) | (exfalso;have:=hc12;have:=hc17;have:=hc74.out;have:=hc78;have:=hc80;omega)
    exact ret_tmp (t:=4) h82 rfl rfl ⟨by rw [R],hW3.bel⟩
   have hc83:¬ (0 < x.args.length):=by have:=of_decide_eq_false hb;omega
   clear hb
   refine wp_seq_k fun K84 hK84=>?_
   refine rg h79 fun ops=>?_;clear h79 a79
   refine sfEnd4 trivial rfl rfl ?_
   refine sbInts 0 hW3 trivial rfl rfl rfl rfl ?_
   refine slInts trivial rfl rfl ?_
   refine sgt trivial rfl rfl rfl ?_
   refine sa trivial rfl rfl ?_
   refine St.nil fun a85 h85=>?_
   refine hK84 _ _ ?_
   refine fr_cond (t:=34) h85 rfl (fun hb=>?_) (fun hb=>?_)
   ·have hc86:8 < x.args.length:=by have:=of_decide_eq_true hb;omega
    clear hb
    refine wp_seq_k fun K87 hK87=>?_
    refine rg h85 fun ops=>?_;clear h85 a85
    refine sa trivial rfl rfl ?_
    refine St.nil fun a88 h88=>?_
    refine hK87 _ _ ?_
    refine wp_ret ?_;with_reducible repeat first | refine of_then_ret ?_ | refine of_block_ret ?_
    have R:x.form bl=2:=by
     rw [endForm_eq]
     generalize x.yes.form bl (x.op != 3)=yv
     generalize x.no.form bl (x.op == 2)=zv
     first | (simp [hc12,hc17,hc74.out,hc78,hc83,hc86];done) | (exfalso;have:=hc12;have:=hc17;have:=hc74.out;have:=hc78;have:=hc83;have:=hc86;omega)
    exact ret_tmp (t:=4) h88 rfl rfl ⟨by rw [R],hW3.bel⟩
   have hc89:¬ (8 < x.args.length):=by have:=of_decide_eq_false hb;omega
   clear hb
   refine wp_skip ?_
   refine hK5 _ _ ?_
   refine wp_seq_k fun K90 hK90=>?_
   refine wp_seq_k fun K91 hK91=>?_
   refine rg h85 fun ops=>?_;clear h85 a85
   refine sS 1 4 Tryz.underlying42 rfl infFunc hW3 trivial rfl rfl rfl rfl ?_
   refine sfEnd2 trivial rfl rfl ?_
   refine sS 0 3 Tryz.underlying48 rfl infTo hW3 trivial rfl rfl rfl rfl ?_
   refine sfEnd0 trivial rfl rfl ?_
   refine sbInt 0 hW3 trivial rfl rfl rfl rfl ?_
   refine sne trivial rfl rfl rfl ?_
   refine sc_3 cf178 hW3 (toCode_any (x.op != 3) hs.1 hs.2.1 hbl) trivial rfl rfl rfl rfl ?_
   clear hW3;intro w92 hW92
   refine sa trivial rfl rfl ?_
   refine St.nil fun a93 h93=>?_
   refine hK91 _ _ ?_
   refine wp_seq_k fun K94 hK94=>?_
   refine rg h93 fun ops=>?_;clear h93 a93
   refine sm trivial rfl rfl ?_
   refine sne trivial rfl rfl rfl ?_
   refine St.nil fun a95 h95=>?_
   refine hK94 _ _ ?_
   refine fr_cond (t:=47) h95 rfl (fun hb=>?_) (fun hb=>?_)
   ·have h9:¬ (x.yes.form bl (x.op != 3))=0:=bne_iff_ne.1 hb
    have hc96:¬ (x.yes.form bl (x.op != 3))=0:=h9
    clear h9
    clear hb
    refine wp_seq_k fun K97 hK97=>?_
    refine rg h95 fun ops=>?_;clear h95 a95
    refine sm trivial rfl rfl ?_
    refine sa trivial rfl rfl ?_
    refine St.nil fun a98 h98=>?_
    refine hK97 _ _ ?_
    refine wp_ret ?_;with_reducible repeat first | refine of_then_ret ?_ | refine of_block_ret ?_
    have R:x.form bl=x.yes.form bl (x.op != 3):=by
     rw [endForm_eq]
     have hY:=hc96
     generalize x.yes.form bl (x.op != 3)=yv at hY ⊢
     generalize x.no.form bl (x.op == 2)=zv
     first | (simp [hc12,hc17,hc74.out,hc78,hc83,hc89,hY];done) | (exfalso;have:=hc12;have:=hc17;have:=hc74.out;have:=hc78;have:=hc83;have:=hc89;omega)
    exact ret_tmp (t:=4) h98 rfl rfl ⟨by rw [R],hW92.bel⟩
   have h9:(x.yes.form bl (x.op != 3))=0:=bne_eq_false_iff_eq.1 hb
   have hc99:Hid ((x.yes.form bl (x.op != 3))=0):=h9
   clear h9
   clear hb
   refine wp_skip ?_
   refine hK90 _ _ ?_
   refine wp_seq_k fun K100 hK100=>?_
   refine rg h95 fun ops=>?_;clear h95 a95
   refine sS 1 4 Tryz.underlying42 rfl infFunc hW92 trivial rfl rfl rfl rfl ?_
   refine sfEnd3 trivial rfl rfl ?_
   refine sS 0 3 Tryz.underlying48 rfl infTo hW92 trivial rfl rfl rfl rfl ?_
   refine sfEnd0 trivial rfl rfl ?_
   refine sbInt 0 hW92 trivial rfl rfl rfl rfl ?_
   refine seq trivial rfl rfl rfl ?_
   refine sc_3 cf178 hW92 (toCode_any (x.op == 2) hs.2.2.1 hs.2.2.2 hbl) trivial rfl rfl rfl rfl ?_
   clear hW92;intro w101 hW101
   refine sa trivial rfl rfl ?_
   refine St.nil fun a102 h102=>?_
   refine hK100 _ _ ?_
   refine wp_ret ?_;with_reducible repeat first | refine of_then_ret ?_ | refine of_block_ret ?_
   have R:x.form bl=x.no.form bl (x.op == 2):=by
    rw [endForm_eq]
    have hY:=hc99.out
    generalize x.yes.form bl (x.op != 3)=yv at hY ⊢
    generalize x.no.form bl (x.op == 2)=zv
    first | (simp [hc12,hc17,hc74.out,hc78,hc83,hc89,hY];done) | (exfalso;have:=hc12;have:=hc17;have:=hc74.out;have:=hc78;have:=hc83;have:=hc89;omega)
   exact ret_tmp (t:=4) h102 rfl rfl ⟨by rw [R],hW101.bel⟩
  rw [hb] at h77
  have h9:x.op=3:=bne_eq_false_iff_eq.1 hb
  have hc103:Hid (x.op=3):=h9
  clear h9
  clear hb
  refine St.go h77 ?_;clear h77 a77
  refine so hg3 rfl rfl rfl rfl ?_
  refine so hg3 rfl rfl rfl rfl ?_
  refine so hg3 rfl rfl rfl rfl ?_
  refine so hg3 rfl rfl rfl rfl ?_
  refine spf trivial rfl rfl rfl ?_
  refine sa trivial rfl rfl ?_
  refine St.nil fun a104 h104=>?_
  refine hK76 _ _ ?_
  refine fr_false (t:=24) h104 rfl ?_
  refine wp_seq_k fun K105 hK105=>?_
  refine rg h104 fun ops=>?_;clear h104 a104
  refine sfEnd4 trivial rfl rfl ?_
  refine sbInts 0 hW3 trivial rfl rfl rfl rfl ?_
  refine slInts trivial rfl rfl ?_
  refine sgt trivial rfl rfl rfl ?_
  refine sa trivial rfl rfl ?_
  refine St.nil fun a106 h106=>?_
  refine hK105 _ _ ?_
  refine fr_cond (t:=34) h106 rfl (fun hb=>?_) (fun hb=>?_)
  ·have hc107:8 < x.args.length:=by have:=of_decide_eq_true hb;omega
   clear hb
   refine wp_seq_k fun K108 hK108=>?_
   refine rg h106 fun ops=>?_;clear h106 a106
   refine sa trivial rfl rfl ?_
   refine St.nil fun a109 h109=>?_
   refine hK108 _ _ ?_
   refine wp_ret ?_;with_reducible repeat first | refine of_then_ret ?_ | refine of_block_ret ?_
   have R:x.form bl=2:=by
    rw [endForm_eq]
    generalize x.yes.form bl (x.op != 3)=yv
    generalize x.no.form bl (x.op == 2)=zv
    first | (simp [hc12,hc17,hc74.out,hc103.out,hc107];done) | (exfalso;have:=hc12;have:=hc17;have:=hc74.out;have:=hc103.out;have:=hc107;omega)
   exact ret_tmp (t:=4) h109 rfl rfl ⟨by rw [R],hW3.bel⟩
  have hc110:¬ (8 < x.args.length):=by have:=of_decide_eq_false hb;omega
  clear hb
  refine wp_skip ?_
  refine hK5 _ _ ?_
  refine wp_seq_k fun K111 hK111=>?_
  refine wp_seq_k fun K112 hK112=>?_
  refine rg h106 fun ops=>?_;clear h106 a106
  refine sS 1 4 Tryz.underlying42 rfl infFunc hW3 trivial rfl rfl rfl rfl ?_
  refine sfEnd2 trivial rfl rfl ?_
  refine sS 0 3 Tryz.underlying48 rfl infTo hW3 trivial rfl rfl rfl rfl ?_
  refine sfEnd0 trivial rfl rfl ?_
  refine sbInt 0 hW3 trivial rfl rfl rfl rfl ?_
  refine sne trivial rfl rfl rfl ?_
  refine sc_3 cf178 hW3 (toCode_any (x.op != 3) hs.1 hs.2.1 hbl) trivial rfl rfl rfl rfl ?_
  clear hW3;intro w113 hW113
  refine sa trivial rfl rfl ?_
  refine St.nil fun a114 h114=>?_
  refine hK112 _ _ ?_
  refine wp_seq_k fun K115 hK115=>?_
  refine rg h114 fun ops=>?_;clear h114 a114
  refine sm trivial rfl rfl ?_
  refine sne trivial rfl rfl rfl ?_
  refine St.nil fun a116 h116=>?_
  refine hK115 _ _ ?_
  refine fr_cond (t:=47) h116 rfl (fun hb=>?_) (fun hb=>?_)
  ·have h9:¬ (x.yes.form bl (x.op != 3))=0:=bne_iff_ne.1 hb
   have hc117:¬ (x.yes.form bl (x.op != 3))=0:=h9
   clear h9
   clear hb
   refine wp_seq_k fun K118 hK118=>?_
   refine rg h116 fun ops=>?_;clear h116 a116
   refine sm trivial rfl rfl ?_
   refine sa trivial rfl rfl ?_
   refine St.nil fun a119 h119=>?_
   refine hK118 _ _ ?_
   refine wp_ret ?_;with_reducible repeat first | refine of_then_ret ?_ | refine of_block_ret ?_
   have R:x.form bl=x.yes.form bl (x.op != 3):=by
    rw [endForm_eq]
    have hY:=hc117
    generalize x.yes.form bl (x.op != 3)=yv at hY ⊢
    generalize x.no.form bl (x.op == 2)=zv
    first | (simp [hc12,hc17,hc74.out,hc103.out,hc110,hY];done) | (exfalso;have:=hc12;have:=hc17;have:=hc74.out;have:=hc103.out;have:=hc110;omega)
   exact ret_tmp (t:=4) h119 rfl rfl ⟨by rw [R],hW113.bel⟩
  have h9:(x.yes.form bl (x.op != 3))=0:=bne_eq_false_iff_eq.1 hb
  have hc120:Hid ((x.yes.form bl (x.op != 3))=0):=h9
  clear h9
  clear hb
  refine wp_skip ?_
  refine hK111 _ _ ?_
  refine wp_seq_k fun K121 hK121=>?_
  refine rg h116 fun ops=>?_;clear h116 a116
  refine sS 1 4 Tryz.underlying42 rfl infFunc hW113 trivial rfl rfl rfl rfl ?_
  refine sfEnd3 trivial rfl rfl ?_
  refine sS 0 3 Tryz.underlying48 rfl infTo hW113 trivial rfl rfl rfl rfl ?_
  refine sfEnd0 trivial rfl rfl ?_
  refine sbInt 0 hW113 trivial rfl rfl rfl rfl ?_
  refine seq trivial rfl rfl rfl ?_
  refine sc_3 cf178 hW113 (toCode_any (x.op == 2) hs.2.2.1 hs.2.2.2 hbl) trivial rfl rfl rfl rfl ?_
  clear hW113;intro w122 hW122
  refine sa trivial rfl rfl ?_
  refine St.nil fun a123 h123=>?_
  refine hK121 _ _ ?_
  refine wp_ret ?_;with_reducible repeat first | refine of_then_ret ?_ | refine of_block_ret ?_
  have R:x.form bl=x.no.form bl (x.op == 2):=by
   rw [endForm_eq]
   have hY:=hc120.out
   generalize x.yes.form bl (x.op != 3)=yv at hY ⊢
   generalize x.no.form bl (x.op == 2)=zv
   first | (simp [hc12,hc17,hc74.out,hc103.out,hc110,hY];done) | (exfalso;have:=hc12;have:=hc17;have:=hc74.out;have:=hc103.out;have:=hc110;omega)
  exact ret_tmp (t:=4) h123 rfl rfl ⟨by rw [R],hW122.bel⟩
end Go.Proofs.YtalfbnllodhkiacGreatDoor
namespace Go.Proofs.YtalfbnllodhkiacGreatDoor
open Go.ChangeShapes Go.WideShapes Go.ChangeAt Go.RowKit
set_option linter.unusedVariables false
def CheckAt (f : Nat) : Prop := ∀ (n : Nat) (t : TT n) (a : Option Addr) (c : Nat) (regs : Int) (w : World), TIn w All t a → t.count ≤ 100000 →
    Calls Tryz.prog f #[Tv t a c,.int .i64 regs] w fun e w'=>e=.returned (.int .i64 (t.check regs))∧Below w.heap.size w w'
theorem ownCode_any (k r : Int) (a : Option Addr) (len c : Nat) (regs : Int) (w : World) :
    Calls Tryz.prog 224 #[.agg #[.int .i64 k,.int .i64 r,.slice a len c],.int .i64 regs] w fun e w'=>e=.returned (.int .i64 (ownC k r len regs))∧Below w.heap.size w w':=by
  rcases (show k < 1 ∨ (¬ k < 1∧4 < k) ∨ k=1 ∨ k=2 ∨ k=4 ∨ k=3 by omega) with h1 | ⟨h1,h2⟩ | rfl | rfl | rfl | rfl
  · rw [show ownC _ _ len regs=3 by unfold ownC;repeat' split;all_goals omega]
    go_enter Tryz.func224,Tryz.ntmps224
    go_wp2_with fail
    go_ret
    exact ⟨rfl,(Below.refl _ w).alloc (Nat.le_refl _) _⟩
  · rw [show ownC _ _ len regs=3 by unfold ownC;repeat' split;all_goals omega]
    go_enter Tryz.func224,Tryz.ntmps224
    go_wp2_with fail
    go_ret
    exact ⟨rfl,(Below.refl _ w).alloc (Nat.le_refl _) _⟩
  · rcases (show r≠0 ∨ (r=0∧0 < len) ∨ (r=0∧len=0) by omega) with h1 | ⟨rfl,h1⟩ | ⟨rfl,h1⟩
    · have g1:(r != 0)=true:=by simpa using h1
      rw [show ownC _ _ len regs=4 by unfold ownC;repeat' split;all_goals omega]
      go_enter Tryz.func224,Tryz.ntmps224
      go_wp2_with fail
      go_ret
      exact ⟨rfl,(Below.refl _ w).alloc (Nat.le_refl _) _⟩
    · have g1:(0:Int) < (len:Int):=by omega
      rw [show ownC _ _ len regs=4 by unfold ownC;repeat' split;all_goals omega]
      go_enter Tryz.func224,Tryz.ntmps224
      go_wp2_with fail
      go_ret
      exact ⟨rfl,(Below.refl _ w).alloc (Nat.le_refl _) _⟩
    · have g1:¬ (0:Int) < (len:Int):=by omega
      have g2:¬ (8:Int) < (len:Int):=by omega
      rw [show ownC _ _ len regs=0 by unfold ownC;repeat' split;all_goals omega]
      go_enter Tryz.func224,Tryz.ntmps224
      go_wp2_with fail
      go_ret
      exact ⟨rfl,(Below.refl _ w).alloc (Nat.le_refl _) _⟩
  · rcases (show 0 < len ∨ (len=0∧r < 0) ∨ (len=0∧0≤r∧regs≤r) ∨ (len=0∧0≤r∧r < regs) by omega) with h1 | ⟨h1,h2⟩ | ⟨h1,h2,h3⟩ | ⟨h1,h2,h3⟩
    · have g1:(0:Int) < (len:Int):=by omega
      rw [show ownC _ _ len regs=4 by unfold ownC;repeat' split;all_goals omega]
      go_enter Tryz.func224,Tryz.ntmps224
      go_wp2_with fail
      go_ret
      exact ⟨rfl,(Below.refl _ w).alloc (Nat.le_refl _) _⟩
    · have g1:¬ (0:Int) < (len:Int):=by omega
      have g2:¬ (8:Int) < (len:Int):=by omega
      rw [show ownC _ _ len regs=1 by unfold ownC;repeat' split;all_goals omega]
      go_enter Tryz.func224,Tryz.ntmps224
      go_wp2_with fail
      go_ret
      exact ⟨rfl,(Below.refl _ w).alloc (Nat.le_refl _) _⟩
    · have g1:¬ (0:Int) < (len:Int):=by omega
      have g2:¬ (8:Int) < (len:Int):=by omega
      rw [show ownC _ _ len regs=1 by unfold ownC;repeat' split;all_goals omega]
      go_enter Tryz.func224,Tryz.ntmps224
      go_wp2_with fail
      go_ret
      exact ⟨rfl,(Below.refl _ w).alloc (Nat.le_refl _) _⟩
    · have g1:¬ (0:Int) < (len:Int):=by omega
      have g2:¬ (8:Int) < (len:Int):=by omega
      rw [show ownC _ _ len regs=0 by unfold ownC;repeat' split;all_goals omega]
      go_enter Tryz.func224,Tryz.ntmps224
      go_wp2_with fail
      go_ret
      exact ⟨rfl,(Below.refl _ w).alloc (Nat.le_refl _) _⟩
  · rcases (show 0 < len ∨ (len=0∧r < 0) ∨ (len=0∧0≤r∧regs≤r) ∨ (len=0∧0≤r∧r < regs) by omega) with h1 | ⟨h1,h2⟩ | ⟨h1,h2,h3⟩ | ⟨h1,h2,h3⟩
    · have g1:(0:Int) < (len:Int):=by omega
      rw [show ownC _ _ len regs=4 by unfold ownC;repeat' split;all_goals omega]
      go_enter Tryz.func224,Tryz.ntmps224
      go_wp2_with fail
      go_ret
      exact ⟨rfl,(Below.refl _ w).alloc (Nat.le_refl _) _⟩
    · have g1:¬ (0:Int) < (len:Int):=by omega
      have g2:¬ (8:Int) < (len:Int):=by omega
      rw [show ownC _ _ len regs=1 by unfold ownC;repeat' split;all_goals omega]
      go_enter Tryz.func224,Tryz.ntmps224
      go_wp2_with fail
      go_ret
      exact ⟨rfl,(Below.refl _ w).alloc (Nat.le_refl _) _⟩
    · have g1:¬ (0:Int) < (len:Int):=by omega
      have g2:¬ (8:Int) < (len:Int):=by omega
      rw [show ownC _ _ len regs=1 by unfold ownC;repeat' split;all_goals omega]
      go_enter Tryz.func224,Tryz.ntmps224
      go_wp2_with fail
      go_ret
      exact ⟨rfl,(Below.refl _ w).alloc (Nat.le_refl _) _⟩
    · have g1:¬ (0:Int) < (len:Int):=by omega
      have g2:¬ (8:Int) < (len:Int):=by omega
      rw [show ownC _ _ len regs=0 by unfold ownC;repeat' split;all_goals omega]
      go_enter Tryz.func224,Tryz.ntmps224
      go_wp2_with fail
      go_ret
      exact ⟨rfl,(Below.refl _ w).alloc (Nat.le_refl _) _⟩
  · rcases (show 8 < len ∨ (len≤8∧r < 0) ∨ (len≤8∧0≤r∧regs≤r) ∨ (len≤8∧0≤r∧r < regs) by omega) with h1 | ⟨h1,h2⟩ | ⟨h1,h2,h3⟩ | ⟨h1,h2,h3⟩
    · have g1:(8:Int) < (len:Int):=by omega
      rw [show ownC _ _ len regs=2 by unfold ownC;repeat' split;all_goals omega]
      go_enter Tryz.func224,Tryz.ntmps224
      go_wp2_with fail
      go_ret
      exact ⟨rfl,(Below.refl _ w).alloc (Nat.le_refl _) _⟩
    · have g1:¬ (8:Int) < (len:Int):=by omega
      rw [show ownC _ _ len regs=1 by unfold ownC;repeat' split;all_goals omega]
      go_enter Tryz.func224,Tryz.ntmps224
      go_wp2_with fail
      go_ret
      exact ⟨rfl,(Below.refl _ w).alloc (Nat.le_refl _) _⟩
    · have g1:¬ (8:Int) < (len:Int):=by omega
      rw [show ownC _ _ len regs=1 by unfold ownC;repeat' split;all_goals omega]
      go_enter Tryz.func224,Tryz.ntmps224
      go_wp2_with fail
      go_ret
      exact ⟨rfl,(Below.refl _ w).alloc (Nat.le_refl _) _⟩
    · have g1:¬ (8:Int) < (len:Int):=by omega
      rw [show ownC _ _ len regs=0 by unfold ownC;repeat' split;all_goals omega]
      go_enter Tryz.func224,Tryz.ntmps224
      go_wp2_with fail
      go_ret
      exact ⟨rfl,(Below.refl _ w).alloc (Nat.le_refl _) _⟩
theorem firstCode_any : ∀ n, FaultAt 204 n := by
  intro n
  induction n with
  | zero=>intro t;exact Empty.elim t
  | succ n ih =>
    intro t a c regs w ht hct
    have IH:Hid (FaultAt 204 n):=ih
    clear ih
    have hT:Hid (LIn w All t.2.2 a):=ht.list
    have hco:Hid (∀ x ∈ t.2.2,x.count≤100000):=fun x hx=>by have:=t.count_kid hx;omega
    have hlen:t.2.2.length≤100000:=by have:=t.len_lt_count;rw [t.len_eq] at this;omega
    have hF:Hid (t.fault regs=if ownC t.kind t.r t.2.2.length regs≠0 then ownC t.kind t.r t.2.2.length regs else firstL (TT.fault regs) t.2.2):=rfl
    generalize t.fault regs=res at hF ⊢
    simp only [Tv,TT.len_eq]
    generalize t.2.2=l at hT hco hF hlen ⊢
    generalize t.kind=k at hF ⊢
    generalize t.r=r at hF ⊢
    clear ht hct t
    go_enter Tryz.func204,Tryz.ntmps204
    go_wp2_with fail
    have X0:Hid (Bx w (w.alloc (.cells #[.int .i64 k,.int .i64 r,.slice a l.length c] 78)) k r a l.length c):=Bx.start w k r a l.length c
    refine (ownCode_any k r a l.length c regs _).mono ?_
    rintro e w1 ⟨rfl,b1⟩
    have X1:Hid (Bx w w1 k r a l.length c):=X0.out.below b1
    clear X0 b1
    by_cases hz:ownC k r l.length regs=0
    · have R:Hid (res=firstL (TT.fault regs) l):=by
        have:=hF.out
        rw [hz] at this
        show res=firstL (TT.fault regs) l
        simpa using this
      rw [hz]
      clear hz hF
      have e2:w1.cell? ⟨w.heap.size,2,none⟩=some (.slice a l.length c):=cellOf X1.out.box 2 _ rfl
      go_wp2_with fail
      clear e2
      go_loopw [18] (fun i wr=>∃ q:Nat,q≤l.length∧i=.int .i64 q∧(∀ (j:Nat) x,j < q→l[j]?=some x→x.fault regs=0)∧Bx w wr k r a l.length c) (fun i _=>l.length - (intOf i).toNat)
      case atStart=>exact ⟨0,Nat.zero_le _,rfl,fun j x hj=>by omega,X1.out⟩
      case round =>
        clear X1
        obtain ⟨q,hq,rfl,hall,hX⟩:=hrel
        have A:Hid (∀ (j:Nat) x,j < q→l[j]?=some x→x.fault regs=0):=hall
        have X1:Hid (Bx w wr k r a l.length c):=hX
        clear hall
        by_cases hlt:q < l.length
        · have hx:l[q]?=some l[q]:=List.getElem?_eq_getElem hlt
          generalize l[q]=x at hx
          obtain ⟨g,o,a',c',rfl,_,d0,d1,d2,hk⟩:=LIn.at (hT.out.below hX.bel) hx
          have hx':Hid (l[q]?=some x):=hx
          have hk0:(0:Int)≤q:=by omega
          have hk1:(q:Int) < l.length:=by omega
          have C:Hid (∀ wx,Below wr.heap.size wr wx→Calls Tryz.prog 204 #[Tv x a' c',.int .i64 regs] wx fun e w'=>e=.returned (.int .i64 (x.fault regs))∧Below wx.heap.size wx w') :=
            fun wx hb=>IH.out x a' c' regs wx (hk.below hb) (hco.out x (List.mem_of_getElem? hx))
          clear hX hk hx
          simp only [Tv] at C
          generalize x.kind=kx at C d0
          generalize x.r=rx at C d1
          generalize x.len=lx at C d2
          go_wp2_with fail
          have B1:Below wr.heap.size wr (wr.alloc (.cells #[.int .i64 kx,.int .i64 rx,.slice a' lx c'] 78)):=(Below.refl _ wr).alloc (Nat.le_refl _) _
          refine (C.out _ B1).mono ?_
          rintro e w2 ⟨rfl,b2⟩
          have X2:Hid (Bx w w2 k r (some ⟨g,o,none⟩) l.length c):=(X1.out.below B1).below b2
          clear X1 b2 B1 C d0 d1 d2
          by_cases hd:x.fault regs=0
          · have A2:Hid (∀ (j:Nat) x,j < q+1→l[j]?=some x→x.fault regs=0):=fun j y hj hy=>by
              by_cases e:j=q
              · subst e
                rw [hx'.out] at hy
                cases hy
                exact hd
              · exact A.out j y (by omega) hy
            rw [hd]
            clear hd A
            go_wp2
            go_roundw
            case rel=>exact ⟨q+1,by omega,by go_num,A2.out,X2.out⟩
            case measure=>simp [intOf];omega
          · have Rv:Hid (res=x.fault regs):=R.out.trans (firstL_eq hx'.out A.out hd)
            have hd':(x.fault regs != 0)=true:=by simpa using hd
            generalize x.fault regs=v at hd' Rv ⊢
            clear hd A
            go_wp2
            go_ret
            exact ⟨by rw [Rv.out];rfl,X2.out.bel⟩
        · have Rv:Hid (res=0):=R.out.trans (firstL_zero (fun j y hy=>A.out j y (by have:=(List.getElem?_eq_some_iff.1 hy).1;omega) hy))
          have hk1:¬ (q:Int) < l.length:=by omega
          clear hX A
          go_wp2
          go_ret
          exact ⟨by rw [Rv.out];rfl,X1.out.bel⟩
    · have R:Hid (res=ownC k r l.length regs):=by
        have:=hF.out
        rwa [if_pos hz] at this
      have hz':(ownC k r l.length regs != 0)=true:=by simpa using hz
      generalize ownC k r l.length regs=v at hz' R ⊢
      clear hz hF
      go_wp2_with fail
      go_ret
      exact ⟨by rw [R.out];rfl,X1.out.bel⟩
theorem lt_height {n : Nat} {l : List (TT n)} {k r : Int} {m : Nat} : m < TT.height (n := n + 1) (mkT k r l) ↔ ∃ (i : Nat) (x : TT n), l[i]? = some x ∧ m < 1 + x.height := by
  rw [← Nat.not_le,height_le]
  constructor
  · intro h
    simp only [Classical.not_forall] at h
    obtain ⟨x,hx,h2⟩:=h
    obtain ⟨i,hi,rfl⟩:=List.mem_iff_getElem.1 hx
    exact ⟨i,_,List.getElem?_eq_getElem hi,by omega⟩
  · rintro ⟨i,x,hx,h2⟩ h
    have:=h x (List.mem_of_getElem? (l:=l) hx)
    omega
theorem deeper_any : ∀ (n : Nat) (t : TT n) (a : Option Addr) (c : Nat) (w : World) (m : Nat), TIn w All t a → t.count ≤ 100000 → m ≤ 4 →
    Calls Tryz.prog 203 #[Tv t a c,.int .i64 m] w fun e w'=>e=.returned (.bool (decide (m < t.height)))∧Below w.heap.size w w':=by
  intro n
  induction n with
  | zero=>intro t;exact Empty.elim t
  | succ n ih =>
    intro t a c w m ht hct hm4
    have IH:Hid (∀ (t:TT n) (a:Option Addr) (c:Nat) (w:World) (m:Nat),TIn w All t a→t.count≤100000→m≤4 →
      Calls Tryz.prog 203 #[Tv t a c,.int .i64 m] w fun e w'=>e=.returned (.bool (decide (m < t.height)))∧Below w.heap.size w w'):=ih
    clear ih
    have hT:Hid (LIn w All t.2.2 a):=ht.list
    have hco:Hid (∀ x ∈ t.2.2,x.count≤100000):=fun x hx=>by have:=t.count_kid hx;omega
    have hlen:t.2.2.length≤100000:=by have:=t.len_lt_count;rw [t.len_eq] at this;omega
    have hh:Hid (m < t.height ↔ ∃ (i:Nat) (x:TT n),t.2.2[i]?=some x∧m < 1+x.height):=lt_height
    generalize t.height=h at hh ⊢
    simp only [Tv,TT.len_eq]
    generalize t.2.2=l at hT hco hh hlen ⊢
    generalize t.kind=k
    generalize t.r=r
    clear ht hct t
    go_enter Tryz.func203,Tryz.ntmps203
    go_wp2_with fail
    have X0:Hid (Bx w (w.alloc (.cells #[.int .i64 k,.int .i64 r,.slice a l.length c] 78)) k r a l.length c):=Bx.start w k r a l.length c
    generalize w.alloc (.cells #[.int .i64 k,.int .i64 r,.slice a l.length c] 78)=w1 at X0 ⊢
    go_loopw [10] (fun i wr=>∃ q:Nat,q≤l.length∧i=.int .i64 q∧(∀ (j:Nat) x,j < q→l[j]?=some x→1+x.height≤m)∧Bx w wr k r a l.length c) (fun i _=>l.length - (intOf i).toNat)
    case atStart=>exact ⟨0,Nat.zero_le _,rfl,fun j x hj=>by omega,X0.out⟩
    case round =>
      clear X0
      obtain ⟨q,hq,rfl,hall,hX⟩:=hrel
      have A:Hid (∀ (j:Nat) x,j < q→l[j]?=some x→1+x.height≤m):=hall
      have X1:Hid (Bx w wr k r a l.length c):=hX
      clear hall
      by_cases hlt:q < l.length
      · have hx:l[q]?=some l[q]:=List.getElem?_eq_getElem hlt
        generalize l[q]=x at hx
        obtain ⟨g,o,a',c',rfl,_,d0,d1,d2,hk⟩:=LIn.at (hT.out.below hX.bel) hx
        have hg:g < wr.heap.size:=World.block_lt_of_cell? wr ⟨g,o+q * 3,none⟩ d0
        have hx':Hid (l[q]?=some x):=hx
        have hk0:(0:Int)≤q:=by omega
        have hk1:(q:Int) < l.length:=by omega
        by_cases hz:m=0
        · have hD:Hid (m < h):=hh.out.2 ⟨q,x,hx,by omega⟩
          have hz':((m:Int) == 0)=true:=by simp;omega
          clear hX hk hx hz
          go_wp2_with fail
          go_ret
          exact ⟨by rw [decide_eq_true hD.out];rfl,(X1.out.alloc _).bel⟩
        · have hz':((m:Int) == 0)=false:=by simp;omega
          have C:Hid (∀ wx,Below wr.heap.size wr wx→Calls Tryz.prog 203 #[Tv x a' c',.int .i64 ((m:Int) - 1)] wx fun e w'=>e=.returned (.bool (decide (m - 1 < x.height)))∧Below wx.heap.size wx w'):=fun wx hb=>by
            have:=IH.out x a' c' wx (m - 1) (hk.below hb) (hco.out x (List.mem_of_getElem? hx)) (by omega)
            rw [show ((m - 1:Nat):Int)=(m:Int) - 1 by omega] at this
            exact this
          have hm0:(1:Int)≤m:=by omega
          have hm1:(m:Int)≤4:=by omega
          have hm5:Hid (1≤m):=by show 1≤m;omega
          clear hX hk hx hz
          simp only [Tv] at C
          generalize x.kind=kx at C d0
          generalize x.r=rx at C d1
          generalize x.len=lx at C d2
          go_wp2_with fail
          have B1:Below wr.heap.size wr (wr.alloc (.cells #[.int .i64 kx,.int .i64 rx,.slice a' lx c'] 78)):=(Below.refl _ wr).alloc (Nat.le_refl _) _
          refine (C.out _ B1).mono ?_
          rintro e w2 ⟨rfl,b2⟩
          have X2:Hid (Bx w w2 k r (some ⟨g,o,none⟩) l.length c):=(X1.out.below B1).below b2
          clear X1 b2 B1 C d0 d1 d2
          by_cases hd:m - 1 < x.height
          · have hD:Hid (m < h):=hh.out.2 ⟨q,x,hx'.out,by have:=hm5.out;omega⟩
            rw [decide_eq_true hd]
            clear hd
            go_wp2
            go_ret
            exact ⟨by rw [decide_eq_true hD.out];rfl,X2.out.bel⟩
          · have A2:Hid (∀ (j:Nat) x,j < q+1→l[j]?=some x→1+x.height≤m):=fun j y hj hy=>by
              by_cases e:j=q
              · subst e
                rw [hx'.out] at hy
                cases hy
                have:=hm5.out
                omega
              · exact A.out j y (by omega) hy
            rw [decide_eq_false hd]
            clear hd A
            go_wp2
            go_roundw
            case rel=>exact ⟨q+1,by omega,by go_num,A2.out,X2.out⟩
            case measure=>simp [intOf];omega
      · have hD:Hid (¬ m < h):=fun hc=>by
          obtain ⟨i,x,hx,h3⟩:=hh.out.1 hc
          have:=A.out i x (by have:=(List.getElem?_eq_some_iff.1 hx).1;omega) hx
          omega
        have hk1:¬ (q:Int) < l.length:=by omega
        clear hX A
        go_wp2
        go_ret
        exact ⟨by rw [decide_eq_false hD.out];rfl,X1.out.bel⟩
theorem check_any : CheckAt 171 := by
  intro n t a c regs w ht hc
  have C1:Hid (∀ wx,Below w.heap.size w wx→Calls Tryz.prog 203 #[Tv t a c,.int .i64 4] wx fun e w'=>e=.returned (.bool (decide (4 < t.height)))∧Below wx.heap.size wx w') :=
    fun wx hb=>deeper_any n t a c wx 4 (ht.below hb) hc (by omega)
  have C2:Hid (∀ wx,Below w.heap.size w wx→Calls Tryz.prog 204 #[Tv t a c,.int .i64 regs] wx fun e w'=>e=.returned (.int .i64 (t.fault regs))∧Below wx.heap.size wx w') :=
    fun wx hb=>firstCode_any n t a c regs wx (ht.below hb) hc
  have E:Hid (t.check regs=if 4 < t.height then 19 else t.fault regs):=rfl
  generalize t.check regs=res at E ⊢
  clear ht hc
  simp only [Tv] at C1 C2 ⊢
  generalize t.kind=k at C1 C2 ⊢
  generalize t.r=r at C1 C2 ⊢
  generalize t.len=len at C1 C2 ⊢
  generalize t.fault regs=v at C2 E
  go_enter Tryz.func171,Tryz.ntmps171
  go_wp2_with fail
  have X0:=Bx.start w k r a len c
  generalize w.alloc (.cells #[.int .i64 k,.int .i64 r,.slice a len c] 78)=w1 at X0 ⊢
  refine (C1.out _ X0.bel).mono ?_
  rintro e w2 ⟨rfl,b2⟩
  have X2:Hid (Bx w w2 k r a len c):=X0.below b2
  have e0:=cellOf X2.out.box 0 _ rfl
  have e1:=cellOf X2.out.box 1 _ rfl
  have e2:=cellOf X2.out.box 2 _ rfl
  clear X0 b2 C1
  by_cases hd:4 < t.height
  · rw [decide_eq_true hd]
    have R:Hid (res=19):=by have:=E.out;rwa [if_pos hd] at this
    clear hd
    go_wp2_with fail
    go_ret
    exact ⟨by rw [R.out];rfl,X2.out.bel⟩
  · rw [decide_eq_false hd]
    have R:Hid (res=v):=by have:=E.out;rwa [if_neg hd] at this
    clear hd
    go_wp2_with fail
    refine (C2.out _ X2.out.bel).mono ?_
    rintro e w3 ⟨rfl,b3⟩
    have X3:Hid (Bx w w3 k r a len c):=X2.out.below b3
    clear X2 b3 C2 e0 e1 e2
    go_wp2_with fail
    go_ret
    exact ⟨by rw [R.out];rfl,X3.out.bel⟩
end Go.Proofs.YtalfbnllodhkiacGreatDoor
namespace Go.Proofs.YtalfbnllodhkiacGreatDoor
open Go.ChangeShapes Go.WideShapes Go.ChangeAt Go.RowKit
set_option linter.unusedSimpArgs false
set_option linter.unusedVariables false
abbrev faultV (p : Int × Int) : Value := .agg #[.int .i64 p.1, .int .i64 p.2]
def atF (c p : Int) : Int × Int := if c = 0 then (0, 0) else (c, p)
theorem firstF_at {α : Type} {f : Nat → α → Int × Int} : ∀ {l : List α} {j : Nat}, firstF (fun i x => atF (f i x).1 (f i x).2) j l = firstF f j l
  | [],_=>rfl
  | x::xs,j=>by
    simp only [firstF,atF]
    by_cases h:(f j x).1=0
    · simp only [h,if_true,ne_eq,not_true_eq_false,if_false]
      exact firstF_at
    · simp [h]
def MFunc.code {n : Nat} (f : Nat) (x : MFunc n) : Int :=
  if x.regs < 0 ∨ 6 < x.regs then 1 else if listC x.regs x.params≠0 then listC x.regs x.params else if listC x.regs x.results≠0 then listC x.regs x.results
  else if x.blocks.length < 1 ∨ 12 < x.blocks.length then 2 else if f=0∧¬ (x.regs=0∧x.params.length=0∧x.results.all (fun t=>t.kind == 1)=true) then 18 else 0
theorem MFunc.fault_eq {n : Nat} (funcs f : Nat) (x : MFunc n) : MFunc.fault funcs f x = if x.code f = 0 then firstF (fun b y => MBlock.fault funcs f x b y) 0 x.blocks else (x.code f, 10000 * (f : Int) + 9999) := by
  unfold MFunc.fault MFunc.code
  generalize listC x.regs x.params=lp
  generalize listC x.regs x.results=lr
  generalize firstF (fun b y=>MBlock.fault funcs f x b y) 0 x.blocks=ff
  repeat' split
  all_goals first | rfl | (exfalso;omega) | contradiction
def MBlock.code' {n : Nat} (fn : MFunc n) (b : Nat) (x : MBlock n) : Int :=
  if x.regs < fn.regs ∨ 16 < x.regs then 1 else if listC x.regs x.params≠0 then listC x.regs x.params
  else if b=0∧(x.regs≠fn.regs ∨ sameL x.params fn.params=false) then 9 else if 40 < x.code.length then 2 else 0
theorem MBlock.fault_eq {n : Nat} (funcs f : Nat) (fn : MFunc n) (b : Nat) (x : MBlock n) : MBlock.fault funcs f fn b x =
    if x.code' fn b=0 then (if (firstF (fun i y=>(MIns.form funcs y,(10000 * f+100 * b+i:Int))) 0 x.code).1=0 then atF (x.fin.form fn.blocks.length) (10000 * (f:Int)+100 * (b:Int)+91)
      else firstF (fun i y=>(MIns.form funcs y,(10000 * f+100 * b+i:Int))) 0 x.code) else (x.code' fn b,10000 * (f:Int)+100 * (b:Int)+90):=by
  unfold MBlock.fault MBlock.code' atF
  generalize firstF (fun i y=>(MIns.form funcs y,(10000 * f+100 * b+i:Int))) 0 x.code=ff
  generalize x.fin.form fn.blocks.length=ef
  generalize listC x.regs x.params=lp
  repeat' split
  all_goals first | rfl | (exfalso;omega) | contradiction
def idxK {n : Nat} : Nat → List (TT n) → Int
  | _,[]=>-1
  | i,t::ts=>if t.kind=1 then idxK (i+1) ts else (i:Int)
theorem idxK_at {n : Nat} : ∀ (l : List (TT n)) (i j : Nat) (x : TT n), l[i]? = some x → (∀ k y, k < i → l[k]? = some y → y.kind = 1) → ¬ x.kind = 1 → idxK j l = ((j + i : Nat) : Int)
  | [],i,j,x,h,_,_=>by simp at h
  | y::ys,0,j,x,h,_,hx=>by
    simp at h;subst h
    simp [idxK,hx]
  | y::ys,i+1,j,x,h,hz,hx=>by
    have h0:y.kind=1:=hz 0 y (by omega) rfl
    simp only [idxK,h0,if_true]
    rw [idxK_at ys i (j+1) x (by simpa using h) (fun k z hk hkz=>hz (k+1) z (by omega) (by simpa using hkz)) hx]
    congr 1;omega
theorem idxK_no {n : Nat} : ∀ (l : List (TT n)) (j : Nat), (∀ (k : Nat) y, l[k]? = some y → y.kind = 1) → idxK j l = -1
  | [],_,_=>rfl
  | y::ys,j,h=>by
    have h0:y.kind=1:=h 0 y rfl
    simp only [idxK,h0,if_true]
    exact idxK_no ys (j+1) (fun k z hz=>h (k+1) z (by simpa using hz))
theorem idxK_iff {n : Nat} : ∀ (l : List (TT n)) (j : Nat), (0 ≤ idxK j l) ↔ ¬ l.all (fun t => t.kind == 1) = true
  | [],j=>by simp [idxK]
  | y::ys,j=>by
    by_cases h:y.kind=1
    · simp only [idxK,h,if_true,List.all_cons,beq_self_eq_true,Bool.true_and]
      exact idxK_iff ys (j+1)
    · simp [idxK,h]
theorem rd_check {n : Nat} {t : TT n} {a : Option Addr} {c : Nat} {regs : Int} {w : World} (ht : TIn w All t a) (hc : t.count ≤ 100000) : Rd Tryz.prog 171 #[Tv t a c, .int .i64 regs] w (.int .i64 (t.check regs)) := check_any n t a c regs w ht hc
theorem firstL_at {α : Type} {f : α → Int} : ∀ {l : List α} {i : Nat} {x : α}, l[i]? = some x → (∀ k y, k < i → l[k]? = some y → f y = 0) → f x ≠ 0 → firstL f l = f x
  | [],i,x,h,_,_=>by simp at h
  | y::ys,0,x,h,_,hf=>by
    simp at h;subst h
    simp [firstL,hf]
  | y::ys,i+1,x,h,hz,hf=>by
    have h0:f y=0:=hz 0 y (by omega) rfl
    simp only [firstL,h0,ne_eq,not_true_eq_false,if_false]
    exact firstL_at (by simpa using h) (fun k z hk hkz=>hz (k+1) z (by omega) (by simpa using hkz)) hf
theorem firstL_no {α : Type} {f : α → Int} : ∀ {l : List α}, (∀ (k : Nat) y, l[k]? = some y → f y = 0) → firstL f l = 0
  | [],_=>rfl
  | y::ys,h=>by
    have h0:f y=0:=h 0 y rfl
    simp only [firstL,h0,ne_eq,not_true_eq_false,if_false]
    exact firstL_no (fun k z hz=>h (k+1) z (by simpa using hz))
theorem typesCode_any {n : Nat} {l : List (TT n)} {p : Option Addr} {c : Nat} {regs : Int} {w : World} (hl0 : (typesL n).In w All l [.slice p l.length c]) (hs0 : tsmall l) :
    Rd Tryz.prog 134 #[.slice p l.length c,.int .i64 regs] w (.int .i64 (listC regs l)):=by
  have hl:Hid _:=hl0
  have hs:Hid _:=hs0
  have hsb:=hs0.1
  clear hl0 hs0
  refine fr_enter (n:=24) Tryz.func134 rfl rfl rfl ?_
  intro a hF
  have hW:=Wd.start w
  replace hF:Fr 24 a [(0,.slice p l.length c),(1,.int .i64 regs)]:=hF
  refine wp_seq_k fun K1 hK1=>?_
  refine rg hF fun ops=>?_;clear hF a
  refine sa trivial rfl rfl ?_
  refine St.nil fun a2 h2=>?_
  refine hK1 _ _ ?_
  refine wp_seq_k fun K3 hK3=>?_
  refine wp_seq_k fun K4 hK4=>?_
  refine rg h2 fun ops=>?_;clear h2 a2
  refine sm trivial rfl rfl ?_
  refine slTypes trivial rfl rfl ?_
  refine sgt trivial rfl rfl rfl ?_
  refine St.nil fun a5 h5=>?_
  refine hK4 _ _ ?_
  refine fr_cond (t:=10) h5 rfl (fun hb=>?_) (fun hb=>?_)
  ·have hbig:8 < l.length:=by have:=of_decide_eq_true hb;omega
   clear hb
   refine wp_seq_k fun K6 hK6=>?_
   refine rg h5 fun ops=>?_;clear h5 a5
   refine sa trivial rfl rfl ?_
   refine St.nil fun a7 h7=>?_
   refine hK6 _ _ ?_
   refine wp_ret ?_;with_reducible repeat first | refine of_then_ret ?_ | refine of_block_ret ?_
   have R:listC regs l=2:=by unfold listC;rw [if_pos hbig]
   exact ret_tmp (t:=4) h7 rfl rfl ⟨by rw [R],hW.bel⟩
  have hbig:¬ (8 < l.length):=by have:=of_decide_eq_false hb;omega
  clear hb
  refine wp_skip ?_
  refine hK3 _ _ ?_
  refine wp_seq_k fun K8 hK8=>?_
  refine wp_seq_k fun K9 hK9=>?_
  refine rg h5 fun ops=>?_;clear h5 a5
  refine sm trivial rfl rfl ?_
  refine slTypes trivial rfl rfl ?_
  refine sm trivial rfl rfl ?_
  refine St.nil fun a10 h10=>?_
  refine hK9 _ _ ?_
  refine wp_block ?_
  refine fr_loop (fun r a w'=>∃ q:Nat,q≤l.length∧r=l.length - q∧(∀ (j:Nat) y,j < q→l[j]?=some y→y.check regs=0)∧Fr 24 a [(1,.int .i64 regs),(0,.slice p l.length c),(4,.int .i64 0),(11,.slice p l.length c),(12,.int .i64 (l.length:Int)),(13,.int .i64 (q:Int))]∧Wd w w' []) (l.length) ⟨0,Nat.zero_le _,rfl,(fun j y hj=>by omega),(h10.keep (h10.keep (h10.keep (h10.keep (h10.keep (h10.keep h10.nil (t:=13) rfl) (t:=12) rfl) (t:=11) rfl) (t:=4) rfl) (t:=0) rfl) (t:=1) rfl),hW⟩ ?_
  clear h10 hW
  rintro r a11 w11 ⟨q,hq,hr,hall,hF11,hW11⟩ KL hKL
  refine wp_seq_k fun K12 hK12=>?_
  refine rg hF11 fun ops=>?_;clear hF11 a11
  refine slt trivial rfl rfl rfl ?_
  refine St.nil fun a13 h13=>?_
  refine hK12 _ _ ?_
  refine wp_seq_k fun K14 hK14=>?_
  refine fr_cond (t:=14) h13 rfl (fun hb=>?_) (fun hb=>?_)
  ·have hlt1:q < l.length:=by have:=of_decide_eq_true hb;omega
   clear hb
   obtain ⟨t,hx1⟩:∃ v9,(l)[q]?=some v9:=⟨_,List.getElem?_eq_getElem hlt1⟩
   obtain ⟨g1,o1,pt1,ct1,hp1,E1,In1⟩:=lin_at (types_lin hl.out).1 hx1
   replace In1:Hid _:=In1
   replace hp1:Hid _:=hp1
   replace hx1:Hid _:=hx1
   replace E1:Hid _:=E1
   refine wp_skip ?_
   refine hK14 _ _ ?_
   refine wp_seq_k fun K15 hK15=>?_
   refine wp_block ?_
   refine wp_seq_k fun K16 hK16=>?_
   refine rg h13 fun ops=>?_;clear h13 a13
   refine siTypes hp1.out hlt1 trivial rfl rfl rfl ?_
   refine sSE Tryz.underlying78 rfl (rangeAt_bel E1.out hW11.bel) infType trivial rfl rfl ?_
   refine sAType hW11 trivial rfl ?_
   clear hW11;intro w17 B17 hW17 hN;clear hN
   refine sT 0 hW17 rfl rfl infType rfl rfl rfl ?_
   clear hW17;intro w18 hW18
   refine St.nil fun a19 h19=>?_
   refine hK16 _ _ ?_
   refine wp_seq_k fun K20 hK20=>?_
   refine rg h19 fun ops=>?_;clear h19 a19
   refine sS 0 3 Tryz.underlying78 rfl infType hW18 trivial rfl rfl rfl rfl ?_
   refine sm trivial rfl rfl ?_
   refine sc_2 cf171 hW18 (rd_check (c:=ct1) (regs:=regs) (TIn.below In1.out hW18.bel) (hs.out.2 _ (List.mem_of_getElem? hx1.out))) trivial rfl rfl rfl ?_
   clear hW18;intro w21 hW21
   refine sa trivial rfl rfl ?_
   refine St.nil fun a22 h22=>?_
   refine hK20 _ _ ?_
   refine wp_seq_k fun K23 hK23=>?_
   refine rg h22 fun ops=>?_;clear h22 a22
   refine sm trivial rfl rfl ?_
   refine sne trivial rfl rfl rfl ?_
   refine St.nil fun a24 h24=>?_
   refine hK23 _ _ ?_
   refine fr_cond (t:=21) h24 rfl (fun hb=>?_) (fun hb=>?_)
   ·have h9:¬ (t.check regs)=0:=bne_iff_ne.1 hb
    have hne:¬ (t.check regs)=0:=h9
    clear h9
    clear hb
    refine wp_seq_k fun K25 hK25=>?_
    refine rg h24 fun ops=>?_;clear h24 a24
    refine sm trivial rfl rfl ?_
    refine sa trivial rfl rfl ?_
    refine St.nil fun a26 h26=>?_
    refine hK25 _ _ ?_
    refine wp_ret ?_;with_reducible repeat first | refine of_then_ret ?_ | refine of_block_ret ?_
    have R:listC regs l=t.check regs:=by unfold listC;rw [if_neg hbig];exact firstL_at hx1.out (fun k y hk hy=>hall k y hk hy) hne
    exact ret_tmp (t:=4) h26 rfl rfl ⟨by rw [R],hW21.bel⟩
   have h9:(t.check regs)=0:=bne_eq_false_iff_eq.1 hb
   have hne:Hid ((t.check regs)=0):=h9
   clear h9
   clear hb
   refine wp_skip ?_
   refine hK15 _ _ ?_
   refine rg h24 fun ops=>?_;clear h24 a24
   refine sad (by omega) trivial rfl rfl rfl ?_
   refine sm trivial rfl rfl ?_
   refine St.nil fun a27 h27=>?_
   refine hKL _ _ (l.length - (q+1)) (by omega) ⟨q+1,by omega,rfl,?_,(h27.keep (h27.keep (h27.keep (h27.keep (h27.keep (h27.keep h27.nil (t:=13) rfl) (t:=12) rfl) (t:=11) rfl) (t:=4) rfl) (t:=0) rfl) (t:=1) rfl),hW21.tail⟩
   ·intro j y hj hy
    by_cases e:j=q
    · subst e;rw [hx1.out] at hy;cases hy;exact hne.out
    · exact hall j y (by omega) hy
  have hge:q=l.length:=by have:=of_decide_eq_false hb;omega
  clear hb
  refine wp_exit ?_
  refine hK8 _ _ ?_
  refine wp_seq_k fun K28 hK28=>?_
  refine rg h13 fun ops=>?_;clear h13 a13
  refine sa trivial rfl rfl ?_
  refine St.nil fun a29 h29=>?_
  refine hK28 _ _ ?_
  refine wp_ret ?_;with_reducible repeat first | refine of_then_ret ?_ | refine of_block_ret ?_
  have R:listC regs l=0:=by unfold listC;rw [if_neg hbig];exact firstL_no (fun k y hy=>hall k y (by have:=(List.getElem?_eq_some_iff.1 hy).1;omega) hy)
  exact ret_tmp (t:=4) h29 rfl rfl ⟨by rw [R],hW11.bel⟩
theorem faultAt_any {xc xp : Int} {w : World} :
    Rd Tryz.prog 105 #[.int .i64 xc,.int .i64 xp] w (faultV (atF xc xp)):=by
  refine fr_enter (n:=11) Tryz.func105 rfl rfl rfl ?_
  intro a hF
  have hW:=Wd.start w
  replace hF:Fr 11 a [(0,.int .i64 xc),(1,.int .i64 xp)]:=hF
  refine wp_seq_k fun K1 hK1=>?_
  refine rg hF fun ops=>?_;clear hF a
  refine sAFault hW trivial rfl ?_
  clear hW;intro w2 B2 hW2 hN;clear hN
  refine St.nil fun a3 h3=>?_
  refine hK1 _ _ ?_
  refine wp_seq_k fun K4 hK4=>?_
  refine wp_seq_k fun K5 hK5=>?_
  refine rg h3 fun ops=>?_;clear h3 a3
  refine sm trivial rfl rfl ?_
  refine seq trivial rfl rfl rfl ?_
  refine St.nil fun a6 h6=>?_
  refine hK5 _ _ ?_
  refine fr_cond (t:=6) h6 rfl (fun hb=>?_) (fun hb=>?_)
  ·have h9:xc=0:=eq_of_beq hb
   have hc7:Hid (xc=0):=h9
   clear h9
   clear hb
   refine wp_seq_k fun K8 hK8=>?_
   refine rg h6 fun ops=>?_;clear h6 a6
   intro a9 h9
   refine fr_pure (t:=7) (v:=.agg #[.int .i64 0,.int .i64 0]) (w':=w2) h9 rfl rfl rfl (fun K hK=>?_) ?_
   ·go_simp
    exact hK
   clear h9;intro a10 hF10
   refine St.go hF10 ?_;clear hF10 a10
   refine sT 0 hW2 rfl rfl infFault rfl rfl rfl ?_
   clear hW2;intro w11 hW11
   refine St.nil fun a12 h12=>?_
   refine hK8 _ _ ?_
   refine wp_ret ?_;with_reducible repeat first | refine of_then_ret ?_ | refine of_block_ret ?_
   have R:atF xc xp=(0,0):=by simp [atF,hc7.out]
   exact ret_box 0 h12 hW11 rfl rfl rfl Tryz.underlying27 rfl infFault ⟨by show Ending.returned (.agg #[.int .i64 0,.int .i64 0])=_;rw [R],hW11.bel⟩
  have h9:¬ xc=0:=ne_of_beq_false hb
  have hc13:¬ xc=0:=h9
  clear h9
  clear hb
  refine wp_skip ?_
  refine hK4 _ _ ?_
  refine wp_seq_k fun K14 hK14=>?_
  refine rg h6 fun ops=>?_;clear h6 a6
  refine sm trivial rfl rfl ?_
  refine sm trivial rfl rfl ?_
  intro a15 h15
  refine fr_pure (t:=10) (v:=.agg #[.int .i64 xc,.int .i64 xp]) (w':=w2) h15 rfl rfl rfl (fun K hK=>?_) ?_
  ·have k0:a15.tmps[8]?.getD undef=.int .i64 xc:=h15.sl2 8 _ rfl
   have k1:a15.tmps[9]?.getD undef=.int .i64 xp:=h15.sl2 9 _ rfl
   go_simp
   exact hK
  clear h15;intro a16 hF16
  refine St.go hF16 ?_;clear hF16 a16
  refine sT 0 hW2 rfl rfl infFault rfl rfl rfl ?_
  clear hW2;intro w17 hW17
  refine St.nil fun a18 h18=>?_
  refine hK14 _ _ ?_
  refine wp_ret ?_;with_reducible repeat first | refine of_then_ret ?_ | refine of_block_ret ?_
  have R:atF xc xp=(xc,xp):=by simp [atF,hc13]
  exact ret_box 0 h18 hW17 rfl rfl rfl Tryz.underlying27 rfl infFault ⟨by show Ending.returned (.agg #[.int .i64 xc,.int .i64 xp])=_;rw [R],hW17.bel⟩
theorem canB1_any {tk tr : Int} {tp : Option Addr} {tl tc : Nat} {w : World} :
    Rd Tryz.prog 173 #[.agg #[.int .i64 tk,.int .i64 tr,.slice tp tl tc]] w (.bool (tk != 1)):=by
  refine fr_enter (n:=6) Tryz.func173 rfl rfl rfl ?_
  intro a hF
  have hW:=Wd.start w
  replace hF:Fr 6 a [(0,.agg #[.int .i64 tk,.int .i64 tr,.slice tp tl tc])]:=hF
  refine wp_seq_k fun K1 hK1=>?_
  refine rg hF fun ops=>?_;clear hF a
  refine sB hW trivial rfl rfl ?_
  clear hW;intro w2 B2 hW2 hN;clear hN
  refine sa trivial rfl rfl ?_
  refine St.nil fun a3 h3=>?_
  refine hK1 _ _ ?_
  refine wp_seq_k fun K4 hK4=>?_
  refine rg h3 fun ops=>?_;clear h3 a3
  refine sfType0 trivial rfl rfl ?_
  refine sbInt 0 hW2 trivial rfl rfl rfl rfl ?_
  refine sne trivial rfl rfl rfl ?_
  refine sa trivial rfl rfl ?_
  refine St.nil fun a5 h5=>?_
  refine hK4 _ _ ?_
  refine wp_ret ?_;with_reducible repeat first | refine of_then_ret ?_ | refine of_block_ret ?_
  exact ret_tmp (t:=2) h5 rfl rfl ⟨rfl,hW2.bel⟩
theorem indexF_any {n : Nat} {l : List (TT n)} {p : Option Addr} {c : Nat} {w : World} (hl0 : (typesL n).In w All l [.slice p l.length c]) (hsb : l.length ≤ 200) :
    Rd Tryz.prog 205 #[.slice p l.length c,.func (.func 173) #[] #[]] w (.int .i64 (idxK 0 l)):=by
  have hl:Hid _:=hl0
  clear hl0
  refine fr_enter (n:=19) Tryz.func205 rfl rfl rfl ?_
  intro a hF
  have hW:=Wd.start w
  replace hF:Fr 19 a [(0,.slice p l.length c),(1,.func (.func 173) #[] #[])]:=hF
  refine wp_seq_k fun K1 hK1=>?_
  refine rg hF fun ops=>?_;clear hF a
  refine sa trivial rfl rfl ?_
  refine St.nil fun a2 h2=>?_
  refine hK1 _ _ ?_
  refine wp_seq_k fun K3 hK3=>?_
  refine wp_seq_k fun K4 hK4=>?_
  refine rg h2 fun ops=>?_;clear h2 a2
  refine sm trivial rfl rfl ?_
  refine slTypes trivial rfl rfl ?_
  refine sm trivial rfl rfl ?_
  refine St.nil fun a5 h5=>?_
  refine hK4 _ _ ?_
  refine wp_block ?_
  refine fr_loop (fun r a w'=>∃ q:Nat,q≤l.length∧r=l.length - q∧(∀ (j:Nat) y,j < q→l[j]?=some y→y.kind=1)∧Fr 19 a [(1,.func (.func 173) #[] #[]),(0,.slice p l.length c),(4,.int .i64 0),(7,.int .i64 (l.length:Int)),(8,.int .i64 (q:Int))]∧Wd w w' []) (l.length) ⟨0,Nat.zero_le _,rfl,(fun j y hj=>by omega),(h5.keep (h5.keep (h5.keep (h5.keep (h5.keep h5.nil (t:=8) rfl) (t:=7) rfl) (t:=4) rfl) (t:=0) rfl) (t:=1) rfl),hW⟩ ?_
  clear h5 hW
  rintro r a6 w6 ⟨q,hq,hr,hall,hF6,hW6⟩ KL hKL
  refine wp_seq_k fun K7 hK7=>?_
  refine rg hF6 fun ops=>?_;clear hF6 a6
  refine slt trivial rfl rfl rfl ?_
  refine St.nil fun a8 h8=>?_
  refine hK7 _ _ ?_
  refine wp_seq_k fun K9 hK9=>?_
  refine fr_cond (t:=9) h8 rfl (fun hb=>?_) (fun hb=>?_)
  ·have hlt1:q < l.length:=by have:=of_decide_eq_true hb;omega
   clear hb
   obtain ⟨t,hx1⟩:∃ v9,(l)[q]?=some v9:=⟨_,List.getElem?_eq_getElem hlt1⟩
   obtain ⟨g1,o1,pt1,ct1,hp1,E1,In1⟩:=lin_at (types_lin hl.out).1 hx1
   replace In1:Hid _:=In1
   replace hp1:Hid _:=hp1
   replace hx1:Hid _:=hx1
   replace E1:Hid _:=E1
   refine wp_skip ?_
   refine hK9 _ _ ?_
   refine wp_seq_k fun K10 hK10=>?_
   refine wp_block ?_
   refine wp_seq_k fun K11 hK11=>?_
   refine rg h8 fun ops=>?_;clear h8 a8
   refine sm trivial rfl rfl ?_
   refine sa trivial rfl rfl ?_
   refine St.nil fun a12 h12=>?_
   refine hK11 _ _ ?_
   refine wp_seq_k fun K13 hK13=>?_
   refine rg h12 fun ops=>?_;clear h12 a12
   refine sm trivial rfl rfl ?_
   refine sm trivial rfl rfl ?_
   refine sm trivial rfl rfl ?_
   refine siTypes hp1.out hlt1 trivial rfl rfl rfl ?_
   refine sSE Tryz.underlying78 rfl (rangeAt_bel E1.out hW6.bel) infType trivial rfl rfl ?_
   refine sv_10 cf173 hW6 (canB1_any) trivial rfl rfl rfl ?_
   clear hW6;intro w14 hW14
   refine St.nil fun a15 h15=>?_
   refine hK13 _ _ ?_
   refine fr_cond (t:=16) h15 rfl (fun hb=>?_) (fun hb=>?_)
   ·have h9:¬ t.kind=1:=bne_iff_ne.1 hb
    have hne:¬ t.kind=1:=h9
    clear h9
    clear hb
    refine wp_seq_k fun K16 hK16=>?_
    refine rg h15 fun ops=>?_;clear h15 a15
    refine sm trivial rfl rfl ?_
    refine sa trivial rfl rfl ?_
    refine St.nil fun a17 h17=>?_
    refine hK16 _ _ ?_
    refine wp_ret ?_;with_reducible repeat first | refine of_then_ret ?_ | refine of_block_ret ?_
    have R:idxK 0 l=(q:Int):=by have:=idxK_at l q 0 t hx1.out (fun k y hk hy=>hall k y hk hy) hne;rwa [Nat.zero_add] at this
    exact ret_tmp (t:=4) h17 rfl rfl ⟨by rw [R],hW14.bel⟩
   have h9:t.kind=1:=bne_eq_false_iff_eq.1 hb
   have hne:Hid (t.kind=1):=h9
   clear h9
   clear hb
   refine wp_skip ?_
   refine hK10 _ _ ?_
   refine rg h15 fun ops=>?_;clear h15 a15
   refine sad (by omega) trivial rfl rfl rfl ?_
   refine sm trivial rfl rfl ?_
   refine St.nil fun a18 h18=>?_
   refine hKL _ _ (l.length - (q+1)) (by omega) ⟨q+1,by omega,rfl,?_,(h18.keep (h18.keep (h18.keep (h18.keep (h18.keep h18.nil (t:=8) rfl) (t:=7) rfl) (t:=4) rfl) (t:=0) rfl) (t:=1) rfl),hW14⟩
   ·intro j y hj hy
    by_cases e:j=q
    · subst e;rw [hx1.out] at hy;cases hy;exact hne.out
    · exact hall j y (by omega) hy
  have hge:q=l.length:=by have:=of_decide_eq_false hb;omega
  clear hb
  refine wp_exit ?_
  refine hK3 _ _ ?_
  refine wp_seq_k fun K19 hK19=>?_
  refine rg h8 fun ops=>?_;clear h8 a8
  refine sa trivial rfl rfl ?_
  refine St.nil fun a20 h20=>?_
  refine hK19 _ _ ?_
  refine wp_ret ?_;with_reducible repeat first | refine of_then_ret ?_ | refine of_block_ret ?_
  have R:idxK 0 l=-1:=idxK_no l 0 (fun k y hy=>hall k y (by have:=(List.getElem?_eq_some_iff.1 hy).1;omega) hy)
  exact ret_tmp (t:=4) h20 rfl rfl ⟨by rw [R],hW6.bel⟩
theorem containsF_any {n : Nat} {l : List (TT n)} {p : Option Addr} {c : Nat} {w : World} (hl0 : (typesL n).In w All l [.slice p l.length c]) (hsb : l.length ≤ 200) :
    Rd Tryz.prog 172 #[.slice p l.length c,.func (.func 173) #[] #[]] w (.bool (decide (0≤idxK 0 l))):=by
  have hl:Hid _:=hl0
  clear hl0
  refine fr_enter (n:=9) Tryz.func172 rfl rfl rfl ?_
  intro a hF
  have hW:=Wd.start w
  replace hF:Fr 9 a [(0,.slice p l.length c),(1,.func (.func 173) #[] #[])]:=hF
  refine wp_seq_k fun K1 hK1=>?_
  refine rg hF fun ops=>?_;clear hF a
  refine sa trivial rfl rfl ?_
  refine St.nil fun a2 h2=>?_
  refine hK1 _ _ ?_
  refine wp_seq_k fun K3 hK3=>?_
  refine rg h2 fun ops=>?_;clear h2 a2
  refine sm trivial rfl rfl ?_
  refine sm trivial rfl rfl ?_
  refine sc_2 cf205 hW (indexF_any (Lay.below hl.out hW.bel) hsb) trivial rfl rfl rfl ?_
  clear hW;intro w4 hW4
  refine sge trivial rfl rfl rfl ?_
  refine sa trivial rfl rfl ?_
  refine St.nil fun a5 h5=>?_
  refine hK3 _ _ ?_
  refine wp_ret ?_;with_reducible repeat first | refine of_then_ret ?_ | refine of_block_ret ?_
  exact ret_tmp (t:=4) h5 rfl rfl ⟨rfl,hW4.bel⟩
def MFunc.begins {n : Nat} (x : MFunc n) : Prop := x.regs = 0 ∧ x.params.length = 0 ∧ x.results.all (fun t => t.kind == 1) = true
def MBlock.takes {n : Nat} (fn : MFunc n) (x : MBlock n) : Prop := x.regs = fn.regs ∧ x.params = fn.params
theorem takes_no {n : Nat} {fn : MFunc n} {x : MBlock n} (h : ¬ x.takes fn) : x.regs ≠ fn.regs ∨ sameL x.params fn.params = false := by
  by_cases h1:x.regs=fn.regs
  · refine .inr ?_
    cases e:sameL x.params fn.params with
    | false=>rfl
    | true=>exact absurd ⟨h1,sameL_iff.1 e⟩ h
  · exact .inl h1
theorem takes_yes {n : Nat} {fn : MFunc n} {x : MBlock n} (h : x.takes fn) : ¬ (x.regs ≠ fn.regs ∨ sameL x.params fn.params = false) := by
  rintro (h1 | h1)
  · exact h1 h.1
  · rw [sameL_iff.2 h.2] at h1;cases h1
theorem canBegin_any {n : Nat} {m : List (MFunc n)} {p : Option Addr} {c : Nat} {x : MFunc n} {fp : FP} {fi : Nat} {w : World} (hx0 : FIn w All x fp) (hs0 : x.small) :
    Rd Tryz.prog 135 #[.agg #[.slice p m.length c,.int .i64 x.regs,.slice fp.pP x.params.length fp.cP,.slice fp.pR x.results.length fp.cR,.slice fp.pB x.blocks.length fp.cB,.int .i64 (fi:Int)]] w (.bool (bdec x.begins)):=by
  have hx:Hid _:=hx0
  have hs:Hid _:=hs0
  clear hx0 hs0
  refine fr_enter (n:=21) Tryz.func135 rfl rfl rfl ?_
  intro a hF
  have hW:=Wd.start w
  replace hF:Fr 21 a [(0,.agg #[.slice p m.length c,.int .i64 x.regs,.slice fp.pP x.params.length fp.cP,.slice fp.pR x.results.length fp.cR,.slice fp.pB x.blocks.length fp.cB,.int .i64 (fi:Int)])]:=hF
  refine wp_seq_k fun K1 hK1=>?_
  refine rg hF fun ops=>?_;clear hF a
  refine sB hW trivial rfl rfl ?_
  clear hW;intro w2 B2 hW2 hN;clear hN
  refine sa trivial rfl rfl ?_
  refine St.nil fun a3 h3=>?_
  refine hK1 _ _ ?_
  refine wp_seq_k fun K4 hK4=>?_
  refine fr_region ?_
  intro ops hops
  have hg4:(ops[4]?).bind (fun o:Oper=>o.dst)=some 7:=hops 4
  have hg11:(ops[11]?).bind (fun o:Oper=>o.dst)=some 14:=hops 11
  clear hops
  refine St.go h3 ?_;clear h3 a3
  refine sffuncLook1 trivial rfl rfl ?_
  refine sfFunc0 trivial rfl rfl ?_
  refine sbInt 0 hW2 trivial rfl rfl rfl rfl ?_
  refine seq trivial rfl rfl rfl ?_
  refine sm trivial rfl rfl ?_
  intro a5 h5
  rcases Bool.eq_false_or_eq_true (x.regs == 0) with hb | hb
  ·rw [hb] at h5
   have h9:x.regs=0:=eq_of_beq hb
   have hc6:Hid (x.regs=0):=h9
   clear h9
   clear hb
   refine St.go h5 ?_;clear h5 a5
   refine sffuncLook1 ⟨_,hg4,rfl,rfl⟩ rfl rfl ?_
   refine sfFunc1 ⟨_,hg4,rfl,rfl⟩ rfl rfl ?_
   refine sbTypes 0 hW2 ⟨_,hg4,rfl,rfl⟩ rfl rfl rfl rfl ?_
   refine slTypes ⟨_,hg4,rfl,rfl⟩ rfl rfl ?_
   refine seq ⟨_,hg4,rfl,rfl⟩ rfl rfl rfl ?_
   refine sp trivial rfl rfl rfl ?_
   refine sm trivial rfl rfl ?_
   intro a7 h7
   rcases Bool.eq_false_or_eq_true ((x.params.length:Int) == 0) with hb | hb
   ·rw [hb] at h7
    have h9:x.params.length=0:=by have h8:=eq_of_beq hb;omega
    have hc8:Hid (x.params.length=0):=h9
    clear h9
    clear hb
    refine St.go h7 ?_;clear h7 a7
    refine sffuncLook1 ⟨_,hg11,rfl,rfl⟩ rfl rfl ?_
    refine sfFunc2 ⟨_,hg11,rfl,rfl⟩ rfl rfl ?_
    refine sbTypes 0 hW2 ⟨_,hg11,rfl,rfl⟩ rfl rfl rfl rfl ?_
    refine sc_2 cf172 hW2 (containsF_any (Lay.below hx.out.results hW2.bel) (by have:=hs.out.2.2.1.1;omega)) ⟨_,hg11,rfl,rfl⟩ rfl rfl rfl ?_
    clear hW2;intro w9 hW9
    refine sn ⟨_,hg11,rfl,rfl⟩ rfl rfl ?_
    refine sp trivial rfl rfl rfl ?_
    refine sa trivial rfl rfl ?_
    refine St.nil fun a10 h10=>?_
    refine hK4 _ _ ?_
    refine wp_ret ?_;with_reducible repeat first | refine of_then_ret ?_ | refine of_block_ret ?_
    have R:(!(decide (0≤idxK 0 x.results)))=true ↔ x.begins:=by
      have e1:=hc6.out
      have e2:=hc8.out
      have e3:=idxK_iff x.results 0
      by_cases hz:0≤idxK 0 x.results
      · simp only [hz,decide_true,Bool.not_true,Bool.false_eq_true,false_iff]
        exact fun h=>e3.1 hz h.2.2
      · simp only [hz,decide_false,Bool.not_false,true_iff]
        refine ⟨e1,e2,?_⟩
        cases e:x.results.all (fun t=>t.kind == 1) with
        | true=>rfl
        | false=>exact absurd (e3.2 (by rw [e];decide)) hz
    exact ret_tmp (t:=2) h10 rfl rfl ⟨by rw [← bdec_of R],hW9.bel⟩
   rw [hb] at h7
   have h9:¬ x.params.length=0:=by have h8:=ne_of_beq_false hb;omega
   have hc11:¬ x.params.length=0:=h9
   clear h9
   clear hb
   refine St.go h7 ?_;clear h7 a7
   refine so hg11 rfl rfl rfl rfl ?_
   refine so hg11 rfl rfl rfl rfl ?_
   refine so hg11 rfl rfl rfl rfl ?_
   refine so hg11 rfl rfl rfl rfl ?_
   refine so hg11 rfl rfl rfl rfl ?_
   refine spf trivial rfl rfl rfl ?_
   refine sa trivial rfl rfl ?_
   refine St.nil fun a12 h12=>?_
   refine hK4 _ _ ?_
   refine wp_ret ?_;with_reducible repeat first | refine of_then_ret ?_ | refine of_block_ret ?_
   have R:¬ x.begins:=fun h=>hc11 h.2.1
   exact ret_tmp (t:=2) h12 rfl rfl ⟨by rw [bdec_false R],hW2.bel⟩
  rw [hb] at h5
  have h9:¬ x.regs=0:=ne_of_beq_false hb
  have hc13:¬ x.regs=0:=h9
  clear h9
  clear hb
  refine St.go h5 ?_;clear h5 a5
  refine so hg4 rfl rfl rfl rfl ?_
  refine so hg4 rfl rfl rfl rfl ?_
  refine so hg4 rfl rfl rfl rfl ?_
  refine so hg4 rfl rfl rfl rfl ?_
  refine so hg4 rfl rfl rfl rfl ?_
  refine spf trivial rfl rfl rfl ?_
  refine sm trivial rfl rfl ?_
  refine so hg11 rfl rfl rfl rfl ?_
  refine so hg11 rfl rfl rfl rfl ?_
  refine so hg11 rfl rfl rfl rfl ?_
  refine so hg11 rfl rfl rfl rfl ?_
  refine so hg11 rfl rfl rfl rfl ?_
  refine spf trivial rfl rfl rfl ?_
  refine sa trivial rfl rfl ?_
  refine St.nil fun a14 h14=>?_
  refine hK4 _ _ ?_
  refine wp_ret ?_;with_reducible repeat first | refine of_then_ret ?_ | refine of_block_ret ?_
  have R:¬ x.begins:=fun h=>hc13 h.1
  exact ret_tmp (t:=2) h14 rfl rfl ⟨by rw [bdec_false R],hW2.bel⟩
theorem takes_any {n : Nat} {m : List (MFunc n)} {p : Option Addr} {c : Nat} {x : MFunc n} {fp : FP} {fi : Nat} {y : MBlock n} {bp : BP} {bi : Nat} {w : World} (hx0 : FIn w All x fp) (hs0 : x.small) (hy0 : BIn w All y bp) (ht0 : y.small) :
    Rd Tryz.prog 174 #[.agg #[.slice p m.length c,.int .i64 x.regs,.slice fp.pP x.params.length fp.cP,.slice fp.pR x.results.length fp.cR,.slice fp.pB x.blocks.length fp.cB,.int .i64 (fi:Int),.int .i64 y.regs,.slice bp.pP y.params.length bp.cP,.slice bp.pC y.code.length bp.cC,.int .i64 y.fin.op,.int .i64 y.fin.a,.int .i64 y.fin.yes.block,.slice bp.e.pYR y.fin.yes.regs.length bp.e.cYR,.slice bp.e.pYA y.fin.yes.args.length bp.e.cYA,.int .i64 y.fin.no.block,.slice bp.e.pNR y.fin.no.regs.length bp.e.cNR,.slice bp.e.pNA y.fin.no.args.length bp.e.cNA,.slice bp.e.pA y.fin.args.length bp.e.cA,.int .i64 (bi:Int)]] w (.bool (bdec (y.takes x))):=by
  have hx:Hid _:=hx0
  have hs:Hid _:=hs0
  have hy:Hid _:=hy0
  have ht:Hid _:=ht0
  clear hx0 hs0 hy0 ht0
  refine fr_enter (n:=21) Tryz.func174 rfl rfl rfl ?_
  intro a hF
  have hW:=Wd.start w
  replace hF:Fr 21 a [(0,.agg #[.slice p m.length c,.int .i64 x.regs,.slice fp.pP x.params.length fp.cP,.slice fp.pR x.results.length fp.cR,.slice fp.pB x.blocks.length fp.cB,.int .i64 (fi:Int),.int .i64 y.regs,.slice bp.pP y.params.length bp.cP,.slice bp.pC y.code.length bp.cC,.int .i64 y.fin.op,.int .i64 y.fin.a,.int .i64 y.fin.yes.block,.slice bp.e.pYR y.fin.yes.regs.length bp.e.cYR,.slice bp.e.pYA y.fin.yes.args.length bp.e.cYA,.int .i64 y.fin.no.block,.slice bp.e.pNR y.fin.no.regs.length bp.e.cNR,.slice bp.e.pNA y.fin.no.args.length bp.e.cNA,.slice bp.e.pA y.fin.args.length bp.e.cA,.int .i64 (bi:Int)])]:=hF
  refine wp_seq_k fun K1 hK1=>?_
  refine rg hF fun ops=>?_;clear hF a
  refine sB hW trivial rfl rfl ?_
  clear hW;intro w2 B2 hW2 hN;clear hN
  refine sa trivial rfl rfl ?_
  refine St.nil fun a3 h3=>?_
  refine hK1 _ _ ?_
  refine wp_seq_k fun K4 hK4=>?_
  refine fr_region ?_
  intro ops hops
  have hg8:(ops[8]?).bind (fun o:Oper=>o.dst)=some 11:=hops 8
  clear hops
  refine St.go h3 ?_;clear h3 a3
  refine sfblockLook1 trivial rfl rfl ?_
  refine sfBlock0 trivial rfl rfl ?_
  refine sbInt 0 hW2 trivial rfl rfl rfl rfl ?_
  refine sfblockLook0 trivial rfl rfl ?_
  refine sffuncLook1 trivial rfl rfl ?_
  refine sfFunc0 trivial rfl rfl ?_
  refine sbInt 0 hW2 trivial rfl rfl rfl rfl ?_
  refine seq trivial rfl rfl rfl ?_
  refine sm trivial rfl rfl ?_
  intro a5 h5
  rcases Bool.eq_false_or_eq_true (y.regs == x.regs) with hb | hb
  ·rw [hb] at h5
   have h9:y.regs=x.regs:=eq_of_beq hb
   have hc6:Hid (y.regs=x.regs):=h9
   clear h9
   clear hb
   refine St.go h5 ?_;clear h5 a5
   refine sfblockLook1 ⟨_,hg8,rfl,rfl⟩ rfl rfl ?_
   refine sfBlock1 ⟨_,hg8,rfl,rfl⟩ rfl rfl ?_
   refine sbTypes 0 hW2 ⟨_,hg8,rfl,rfl⟩ rfl rfl rfl rfl ?_
   refine sfblockLook0 ⟨_,hg8,rfl,rfl⟩ rfl rfl ?_
   refine sffuncLook1 ⟨_,hg8,rfl,rfl⟩ rfl rfl ?_
   refine sfFunc1 ⟨_,hg8,rfl,rfl⟩ rfl rfl ?_
   refine sbTypes 0 hW2 ⟨_,hg8,rfl,rfl⟩ rfl rfl rfl rfl ?_
   refine sc_3 cf206 hW2 (eqTypes_any (Lay.below hy.out.params hW2.bel) (Lay.below hx.out.params hW2.bel) ht.out.2.1) ⟨_,hg8,rfl,rfl⟩ rfl rfl rfl rfl ?_
   clear hW2;intro w7 hW7
   refine sp trivial rfl rfl rfl ?_
   refine sa trivial rfl rfl ?_
   refine St.nil fun a8 h8=>?_
   refine hK4 _ _ ?_
   refine wp_ret ?_;with_reducible repeat first | refine of_then_ret ?_ | refine of_block_ret ?_
   have R:y.params=x.params ↔ y.takes x:=⟨fun h=>⟨hc6.out,h⟩,fun h=>h.2⟩
   exact ret_tmp (t:=2) h8 rfl rfl ⟨by rw [bdec_congr R],hW7.bel⟩
  rw [hb] at h5
  have h9:¬ y.regs=x.regs:=ne_of_beq_false hb
  have hc9:¬ y.regs=x.regs:=h9
  clear h9
  clear hb
  refine St.go h5 ?_;clear h5 a5
  refine so hg8 rfl rfl rfl rfl ?_
  refine so hg8 rfl rfl rfl rfl ?_
  refine so hg8 rfl rfl rfl rfl ?_
  refine so hg8 rfl rfl rfl rfl ?_
  refine so hg8 rfl rfl rfl rfl ?_
  refine so hg8 rfl rfl rfl rfl ?_
  refine so hg8 rfl rfl rfl rfl ?_
  refine so hg8 rfl rfl rfl rfl ?_
  refine spf trivial rfl rfl rfl ?_
  refine sa trivial rfl rfl ?_
  refine St.nil fun a10 h10=>?_
  refine hK4 _ _ ?_
  refine wp_ret ?_;with_reducible repeat first | refine of_then_ret ?_ | refine of_block_ret ?_
  have R:¬ y.takes x:=fun h=>hc9 h.1
  exact ret_tmp (t:=2) h10 rfl rfl ⟨by rw [bdec_false R],hW2.bel⟩
theorem funcCode_any {n : Nat} {m : List (MFunc n)} {p : Option Addr} {c : Nat} {x : MFunc n} {fp : FP} {fi : Nat} {w : World} (hx0 : FIn w All x fp) (hs0 : x.small) :
    Rd Tryz.prog 104 #[.agg #[.slice p m.length c,.int .i64 x.regs,.slice fp.pP x.params.length fp.cP,.slice fp.pR x.results.length fp.cR,.slice fp.pB x.blocks.length fp.cB,.int .i64 (fi:Int)]] w (.int .i64 (x.code fi)):=by
  have hx:Hid _:=hx0
  have hs:Hid _:=hs0
  clear hx0 hs0
  refine fr_enter (n:=55) Tryz.func104 rfl rfl rfl ?_
  intro a hF
  have hW:=Wd.start w
  replace hF:Fr 55 a [(0,.agg #[.slice p m.length c,.int .i64 x.regs,.slice fp.pP x.params.length fp.cP,.slice fp.pR x.results.length fp.cR,.slice fp.pB x.blocks.length fp.cB,.int .i64 (fi:Int)])]:=hF
  refine wp_seq_k fun K1 hK1=>?_
  refine rg hF fun ops=>?_;clear hF a
  refine sB hW trivial rfl rfl ?_
  clear hW;intro w2 B2 hW2 hN;clear hN
  refine sa trivial rfl rfl ?_
  refine St.nil fun a3 h3=>?_
  refine hK1 _ _ ?_
  refine wp_seq_k fun K4 hK4=>?_
  refine wp_seq_k fun K5 hK5=>?_
  refine fr_region ?_
  intro ops hops
  have hg4:(ops[4]?).bind (fun o:Oper=>o.dst)=some 9:=hops 4
  clear hops
  refine St.go h3 ?_;clear h3 a3
  refine sffuncLook1 trivial rfl rfl ?_
  refine sfFunc0 trivial rfl rfl ?_
  refine sbInt 0 hW2 trivial rfl rfl rfl rfl ?_
  refine slt trivial rfl rfl rfl ?_
  refine sm trivial rfl rfl ?_
  intro a6 h6
  rcases Bool.eq_false_or_eq_true (decide (x.regs < 0)) with hb | hb
  ·rw [hb] at h6
   have hc7:x.regs < 0:=of_decide_eq_true hb
   clear hb
   refine St.go h6 ?_;clear h6 a6
   refine so hg4 rfl rfl rfl rfl ?_
   refine so hg4 rfl rfl rfl rfl ?_
   refine so hg4 rfl rfl rfl rfl ?_
   refine so hg4 rfl rfl rfl rfl ?_
   refine sp trivial rfl rfl rfl ?_
   refine St.nil fun a8 h8=>?_
   refine hK5 _ _ ?_
   refine fr_true (t:=14) h8 rfl ?_
   refine wp_seq_k fun K9 hK9=>?_
   refine rg h8 fun ops=>?_;clear h8 a8
   refine sa trivial rfl rfl ?_
   refine St.nil fun a10 h10=>?_
   refine hK9 _ _ ?_
   refine wp_ret ?_;with_reducible repeat first | refine of_then_ret ?_ | refine of_block_ret ?_
   have R:x.code fi=1:=if_pos (by omega)
   exact ret_tmp (t:=2) h10 rfl rfl ⟨by rw [R],hW2.bel⟩
  rw [hb] at h6
  have hc11:¬ (x.regs < 0):=of_decide_eq_false hb
  clear hb
  refine St.go h6 ?_;clear h6 a6
  refine sffuncLook1 ⟨_,hg4,rfl,rfl⟩ rfl rfl ?_
  refine sfFunc0 ⟨_,hg4,rfl,rfl⟩ rfl rfl ?_
  refine sbInt 0 hW2 ⟨_,hg4,rfl,rfl⟩ rfl rfl rfl rfl ?_
  refine sgt ⟨_,hg4,rfl,rfl⟩ rfl rfl rfl ?_
  refine spf trivial rfl rfl rfl ?_
  refine St.nil fun a12 h12=>?_
  refine hK5 _ _ ?_
  refine fr_cond (t:=14) h12 rfl (fun hb=>?_) (fun hb=>?_)
  ·have hc13:6 < x.regs:=of_decide_eq_true hb
   clear hb
   refine wp_seq_k fun K14 hK14=>?_
   refine rg h12 fun ops=>?_;clear h12 a12
   refine sa trivial rfl rfl ?_
   refine St.nil fun a15 h15=>?_
   refine hK14 _ _ ?_
   refine wp_ret ?_;with_reducible repeat first | refine of_then_ret ?_ | refine of_block_ret ?_
   have R:x.code fi=1:=if_pos (by omega)
   exact ret_tmp (t:=2) h15 rfl rfl ⟨by rw [R],hW2.bel⟩
  have hc16:¬ (6 < x.regs):=of_decide_eq_false hb
  clear hb
  refine wp_skip ?_
  refine hK4 _ _ ?_
  refine wp_seq_k fun K17 hK17=>?_
  refine wp_seq_k fun K18 hK18=>?_
  refine rg h12 fun ops=>?_;clear h12 a12
  refine sffuncLook1 trivial rfl rfl ?_
  refine sfFunc1 trivial rfl rfl ?_
  refine sbTypes 0 hW2 trivial rfl rfl rfl rfl ?_
  refine sffuncLook1 trivial rfl rfl ?_
  refine sfFunc0 trivial rfl rfl ?_
  refine sbInt 0 hW2 trivial rfl rfl rfl rfl ?_
  refine sc_2 cf134 hW2 (typesCode_any (regs:=x.regs) (Lay.below hx.out.params hW2.bel) hs.out.2.1) trivial rfl rfl rfl ?_
  clear hW2;intro w19 hW19
  refine sa trivial rfl rfl ?_
  refine St.nil fun a20 h20=>?_
  refine hK18 _ _ ?_
  refine wp_seq_k fun K21 hK21=>?_
  refine rg h20 fun ops=>?_;clear h20 a20
  refine sm trivial rfl rfl ?_
  refine sne trivial rfl rfl rfl ?_
  refine St.nil fun a22 h22=>?_
  refine hK21 _ _ ?_
  refine fr_cond (t:=23) h22 rfl (fun hb=>?_) (fun hb=>?_)
  ·have h9:¬ (listC x.regs x.params)=0:=bne_iff_ne.1 hb
   have hc23:¬ (listC x.regs x.params)=0:=h9
   clear h9
   clear hb
   refine wp_seq_k fun K24 hK24=>?_
   refine rg h22 fun ops=>?_;clear h22 a22
   refine sm trivial rfl rfl ?_
   refine sa trivial rfl rfl ?_
   refine St.nil fun a25 h25=>?_
   refine hK24 _ _ ?_
   refine wp_ret ?_;with_reducible repeat first | refine of_then_ret ?_ | refine of_block_ret ?_
   have R:x.code fi=listC x.regs x.params:=(if_neg (by omega)).trans (if_pos (by omega))
   exact ret_tmp (t:=2) h25 rfl rfl ⟨by rw [R],hW19.bel⟩
  have h9:(listC x.regs x.params)=0:=bne_eq_false_iff_eq.1 hb
  have hc26:Hid ((listC x.regs x.params)=0):=h9
  clear h9
  clear hb
  refine wp_skip ?_
  refine hK17 _ _ ?_
  refine wp_seq_k fun K27 hK27=>?_
  refine wp_seq_k fun K28 hK28=>?_
  refine rg h22 fun ops=>?_;clear h22 a22
  refine sffuncLook1 trivial rfl rfl ?_
  refine sfFunc2 trivial rfl rfl ?_
  refine sbTypes 0 hW19 trivial rfl rfl rfl rfl ?_
  refine sffuncLook1 trivial rfl rfl ?_
  refine sfFunc0 trivial rfl rfl ?_
  refine sbInt 0 hW19 trivial rfl rfl rfl rfl ?_
  refine sc_2 cf134 hW19 (typesCode_any (regs:=x.regs) (Lay.below hx.out.results hW19.bel) hs.out.2.2.1) trivial rfl rfl rfl ?_
  clear hW19;intro w29 hW29
  refine sa trivial rfl rfl ?_
  refine St.nil fun a30 h30=>?_
  refine hK28 _ _ ?_
  refine wp_seq_k fun K31 hK31=>?_
  refine rg h30 fun ops=>?_;clear h30 a30
  refine sm trivial rfl rfl ?_
  refine sne trivial rfl rfl rfl ?_
  refine St.nil fun a32 h32=>?_
  refine hK31 _ _ ?_
  refine fr_cond (t:=33) h32 rfl (fun hb=>?_) (fun hb=>?_)
  ·have h9:¬ (listC x.regs x.results)=0:=bne_iff_ne.1 hb
   have hc33:¬ (listC x.regs x.results)=0:=h9
   clear h9
   clear hb
   refine wp_seq_k fun K34 hK34=>?_
   refine rg h32 fun ops=>?_;clear h32 a32
   refine sm trivial rfl rfl ?_
   refine sa trivial rfl rfl ?_
   refine St.nil fun a35 h35=>?_
   refine hK34 _ _ ?_
   refine wp_ret ?_;with_reducible repeat first | refine of_then_ret ?_ | refine of_block_ret ?_
   have:=hc26.out
   have R:x.code fi=listC x.regs x.results:=(if_neg (by omega)).trans ((if_neg (by omega)).trans (if_pos (by omega)))
   exact ret_tmp (t:=2) h35 rfl rfl ⟨by rw [R],hW29.bel⟩
  have h9:(listC x.regs x.results)=0:=bne_eq_false_iff_eq.1 hb
  have hc36:Hid ((listC x.regs x.results)=0):=h9
  clear h9
  clear hb
  refine wp_skip ?_
  refine hK27 _ _ ?_
  refine wp_seq_k fun K37 hK37=>?_
  refine wp_seq_k fun K38 hK38=>?_
  refine fr_region ?_
  intro ops hops
  have hg5:(ops[5]?).bind (fun o:Oper=>o.dst)=some 40:=hops 5
  clear hops
  refine St.go h32 ?_;clear h32 a32
  refine sffuncLook1 trivial rfl rfl ?_
  refine sfFunc3 trivial rfl rfl ?_
  refine sbBlocks 0 hW29 trivial rfl rfl rfl rfl ?_
  refine slBlocks trivial rfl rfl ?_
  refine slt trivial rfl rfl rfl ?_
  refine sm trivial rfl rfl ?_
  intro a39 h39
  rcases Bool.eq_false_or_eq_true (decide ((x.blocks.length:Int) < 1)) with hb | hb
  ·rw [hb] at h39
   have hc40:x.blocks.length < 1:=by have:=of_decide_eq_true hb;omega
   clear hb
   refine St.go h39 ?_;clear h39 a39
   refine so hg5 rfl rfl rfl rfl ?_
   refine so hg5 rfl rfl rfl rfl ?_
   refine so hg5 rfl rfl rfl rfl ?_
   refine so hg5 rfl rfl rfl rfl ?_
   refine so hg5 rfl rfl rfl rfl ?_
   refine sp trivial rfl rfl rfl ?_
   refine St.nil fun a41 h41=>?_
   refine hK38 _ _ ?_
   refine fr_true (t:=46) h41 rfl ?_
   refine wp_seq_k fun K42 hK42=>?_
   refine rg h41 fun ops=>?_;clear h41 a41
   refine sa trivial rfl rfl ?_
   refine St.nil fun a43 h43=>?_
   refine hK42 _ _ ?_
   refine wp_ret ?_;with_reducible repeat first | refine of_then_ret ?_ | refine of_block_ret ?_
   have:=hc26.out
   have:=hc36.out
   have R:x.code fi=2:=(if_neg (by omega)).trans ((if_neg (by omega)).trans ((if_neg (by omega)).trans (if_pos (by omega))))
   exact ret_tmp (t:=2) h43 rfl rfl ⟨by rw [R],hW29.bel⟩
  rw [hb] at h39
  have hc44:¬ (x.blocks.length < 1):=by have:=of_decide_eq_false hb;omega
  clear hb
  refine St.go h39 ?_;clear h39 a39
  refine sffuncLook1 ⟨_,hg5,rfl,rfl⟩ rfl rfl ?_
  refine sfFunc3 ⟨_,hg5,rfl,rfl⟩ rfl rfl ?_
  refine sbBlocks 0 hW29 ⟨_,hg5,rfl,rfl⟩ rfl rfl rfl rfl ?_
  refine slBlocks ⟨_,hg5,rfl,rfl⟩ rfl rfl ?_
  refine sgt ⟨_,hg5,rfl,rfl⟩ rfl rfl rfl ?_
  refine spf trivial rfl rfl rfl ?_
  refine St.nil fun a45 h45=>?_
  refine hK38 _ _ ?_
  refine fr_cond (t:=46) h45 rfl (fun hb=>?_) (fun hb=>?_)
  ·have hc46:12 < x.blocks.length:=by have:=of_decide_eq_true hb;omega
   clear hb
   refine wp_seq_k fun K47 hK47=>?_
   refine rg h45 fun ops=>?_;clear h45 a45
   refine sa trivial rfl rfl ?_
   refine St.nil fun a48 h48=>?_
   refine hK47 _ _ ?_
   refine wp_ret ?_;with_reducible repeat first | refine of_then_ret ?_ | refine of_block_ret ?_
   have:=hc26.out
   have:=hc36.out
   have R:x.code fi=2:=(if_neg (by omega)).trans ((if_neg (by omega)).trans ((if_neg (by omega)).trans (if_pos (by omega))))
   exact ret_tmp (t:=2) h48 rfl rfl ⟨by rw [R],hW29.bel⟩
  have hc49:¬ (12 < x.blocks.length):=by have:=of_decide_eq_false hb;omega
  clear hb
  refine wp_skip ?_
  refine hK37 _ _ ?_
  refine wp_seq_k fun K50 hK50=>?_
  refine wp_seq_k fun K51 hK51=>?_
  refine fr_region ?_
  intro ops hops
  have hg3:(ops[3]?).bind (fun o:Oper=>o.dst)=some 50:=hops 3
  clear hops
  refine St.go h45 ?_;clear h45 a45
  refine sffuncLook2 trivial rfl rfl ?_
  refine sbInt 0 hW29 trivial rfl rfl rfl rfl ?_
  refine seq trivial rfl rfl rfl ?_
  refine sm trivial rfl rfl ?_
  intro a52 h52
  rcases Bool.eq_false_or_eq_true ((fi:Int) == 0) with hb | hb
  ·rw [hb] at h52
   have h9:fi=0:=by have h8:=eq_of_beq hb;omega
   have hc53:Hid (fi=0):=h9
   clear h9
   clear hb
   refine St.go h52 ?_;clear h52 a52
   refine sS 0 6 Tryz.underlying106 rfl inffuncLook hW29 ⟨_,hg3,rfl,rfl⟩ rfl rfl rfl rfl ?_
   refine sc_1 cf135 hW29 (canBegin_any (m:=m) (p:=p) (c:=c) (fi:=fi) (hx.out.below hW29.bel) hs.out) ⟨_,hg3,rfl,rfl⟩ rfl rfl ?_
   clear hW29;intro w54 hW54
   refine sn ⟨_,hg3,rfl,rfl⟩ rfl rfl ?_
   refine sp trivial rfl rfl rfl ?_
   refine St.nil fun a55 h55=>?_
   refine hK51 _ _ ?_
   refine fr_cond (t:=54) h55 rfl (fun hb=>?_) (fun hb=>?_)
   ·have hb:(bdec (x.begins))=false:=by simpa using hb
    have hc56:¬ (x.begins):=fun h=>by rw [bdec_true h] at hb;cases hb
    clear hb
    refine wp_seq_k fun K57 hK57=>?_
    refine rg h55 fun ops=>?_;clear h55 a55
    refine sa trivial rfl rfl ?_
    refine St.nil fun a58 h58=>?_
    refine hK57 _ _ ?_
    refine wp_ret ?_;with_reducible repeat first | refine of_then_ret ?_ | refine of_block_ret ?_
    have:=hc26.out
    have:=hc36.out
    have:=hc53.out
    have R:x.code fi=18:=(if_neg (by omega)).trans ((if_neg (by omega)).trans ((if_neg (by omega)).trans ((if_neg (by omega)).trans (if_pos (⟨by omega,hc56⟩)))))
    exact ret_tmp (t:=2) h58 rfl rfl ⟨by rw [R],hW54.bel⟩
   have hb:(bdec (x.begins))=true:=by simpa using hb
   have hc59:(x.begins):=bdec_iff.1 hb
   clear hb
   refine wp_skip ?_
   refine hK50 _ _ ?_
   refine wp_seq_k fun K60 hK60=>?_
   refine rg h55 fun ops=>?_;clear h55 a55
   refine sa trivial rfl rfl ?_
   refine St.nil fun a61 h61=>?_
   refine hK60 _ _ ?_
   refine wp_ret ?_;with_reducible repeat first | refine of_then_ret ?_ | refine of_block_ret ?_
   have:=hc26.out
   have:=hc36.out
   have:=hc53.out
   have R:x.code fi=0:=(if_neg (by omega)).trans ((if_neg (by omega)).trans ((if_neg (by omega)).trans ((if_neg (by omega)).trans ((if_neg (fun h=>h.2 hc59)).trans (rfl)))))
   exact ret_tmp (t:=2) h61 rfl rfl ⟨by rw [R],hW54.bel⟩
  rw [hb] at h52
  have h9:¬ fi=0:=by have h8:=ne_of_beq_false hb;omega
  have hc62:¬ fi=0:=h9
  clear h9
  clear hb
  refine St.go h52 ?_;clear h52 a52
  refine so hg3 rfl rfl rfl rfl ?_
  refine so hg3 rfl rfl rfl rfl ?_
  refine so hg3 rfl rfl rfl rfl ?_
  refine spf trivial rfl rfl rfl ?_
  refine St.nil fun a63 h63=>?_
  refine hK51 _ _ ?_
  refine fr_false (t:=54) h63 rfl ?_
  refine wp_skip ?_
  refine hK50 _ _ ?_
  refine wp_seq_k fun K64 hK64=>?_
  refine rg h63 fun ops=>?_;clear h63 a63
  refine sa trivial rfl rfl ?_
  refine St.nil fun a65 h65=>?_
  refine hK64 _ _ ?_
  refine wp_ret ?_;with_reducible repeat first | refine of_then_ret ?_ | refine of_block_ret ?_
  have:=hc26.out
  have:=hc36.out
  have R:x.code fi=0:=(if_neg (by omega)).trans ((if_neg (by omega)).trans ((if_neg (by omega)).trans ((if_neg (by omega)).trans ((if_neg (by omega)).trans (rfl)))))
  exact ret_tmp (t:=2) h65 rfl rfl ⟨by rw [R],hW29.bel⟩
theorem blockCode_any {n : Nat} {m : List (MFunc n)} {p : Option Addr} {c : Nat} {x : MFunc n} {fp : FP} {fi : Nat} {y : MBlock n} {bp : BP} {bi : Nat} {w : World} (hx0 : FIn w All x fp) (hs0 : x.small) (hy0 : BIn w All y bp) (ht0 : y.small) :
    Rd Tryz.prog 136 #[.agg #[.slice p m.length c,.int .i64 x.regs,.slice fp.pP x.params.length fp.cP,.slice fp.pR x.results.length fp.cR,.slice fp.pB x.blocks.length fp.cB,.int .i64 (fi:Int),.int .i64 y.regs,.slice bp.pP y.params.length bp.cP,.slice bp.pC y.code.length bp.cC,.int .i64 y.fin.op,.int .i64 y.fin.a,.int .i64 y.fin.yes.block,.slice bp.e.pYR y.fin.yes.regs.length bp.e.cYR,.slice bp.e.pYA y.fin.yes.args.length bp.e.cYA,.int .i64 y.fin.no.block,.slice bp.e.pNR y.fin.no.regs.length bp.e.cNR,.slice bp.e.pNA y.fin.no.args.length bp.e.cNA,.slice bp.e.pA y.fin.args.length bp.e.cA,.int .i64 (bi:Int)]] w (.int .i64 (y.code' x bi)):=by
  have hx:Hid _:=hx0
  have hs:Hid _:=hs0
  have hy:Hid _:=hy0
  have ht:Hid _:=ht0
  clear hx0 hs0 hy0 ht0
  refine fr_enter (n:=41) Tryz.func136 rfl rfl rfl ?_
  intro a hF
  have hW:=Wd.start w
  replace hF:Fr 41 a [(0,.agg #[.slice p m.length c,.int .i64 x.regs,.slice fp.pP x.params.length fp.cP,.slice fp.pR x.results.length fp.cR,.slice fp.pB x.blocks.length fp.cB,.int .i64 (fi:Int),.int .i64 y.regs,.slice bp.pP y.params.length bp.cP,.slice bp.pC y.code.length bp.cC,.int .i64 y.fin.op,.int .i64 y.fin.a,.int .i64 y.fin.yes.block,.slice bp.e.pYR y.fin.yes.regs.length bp.e.cYR,.slice bp.e.pYA y.fin.yes.args.length bp.e.cYA,.int .i64 y.fin.no.block,.slice bp.e.pNR y.fin.no.regs.length bp.e.cNR,.slice bp.e.pNA y.fin.no.args.length bp.e.cNA,.slice bp.e.pA y.fin.args.length bp.e.cA,.int .i64 (bi:Int)])]:=hF
  refine wp_seq_k fun K1 hK1=>?_
  refine rg hF fun ops=>?_;clear hF a
  refine sB hW trivial rfl rfl ?_
  clear hW;intro w2 B2 hW2 hN;clear hN
  refine sa trivial rfl rfl ?_
  refine St.nil fun a3 h3=>?_
  refine hK1 _ _ ?_
  refine wp_seq_k fun K4 hK4=>?_
  refine wp_seq_k fun K5 hK5=>?_
  refine fr_region ?_
  intro ops hops
  have hg8:(ops[8]?).bind (fun o:Oper=>o.dst)=some 12:=hops 8
  clear hops
  refine St.go h3 ?_;clear h3 a3
  refine sfblockLook1 trivial rfl rfl ?_
  refine sfBlock0 trivial rfl rfl ?_
  refine sbInt 0 hW2 trivial rfl rfl rfl rfl ?_
  refine sfblockLook0 trivial rfl rfl ?_
  refine sffuncLook1 trivial rfl rfl ?_
  refine sfFunc0 trivial rfl rfl ?_
  refine sbInt 0 hW2 trivial rfl rfl rfl rfl ?_
  refine slt trivial rfl rfl rfl ?_
  refine sm trivial rfl rfl ?_
  intro a6 h6
  rcases Bool.eq_false_or_eq_true (decide (y.regs < x.regs)) with hb | hb
  ·rw [hb] at h6
   have hc7:y.regs < x.regs:=of_decide_eq_true hb
   clear hb
   refine St.go h6 ?_;clear h6 a6
   refine so hg8 rfl rfl rfl rfl ?_
   refine so hg8 rfl rfl rfl rfl ?_
   refine so hg8 rfl rfl rfl rfl ?_
   refine so hg8 rfl rfl rfl rfl ?_
   refine sp trivial rfl rfl rfl ?_
   refine St.nil fun a8 h8=>?_
   refine hK5 _ _ ?_
   refine fr_true (t:=17) h8 rfl ?_
   refine wp_seq_k fun K9 hK9=>?_
   refine rg h8 fun ops=>?_;clear h8 a8
   refine sa trivial rfl rfl ?_
   refine St.nil fun a10 h10=>?_
   refine hK9 _ _ ?_
   refine wp_ret ?_;with_reducible repeat first | refine of_then_ret ?_ | refine of_block_ret ?_
   have R:y.code' x bi=1:=if_pos (by omega)
   exact ret_tmp (t:=2) h10 rfl rfl ⟨by rw [R],hW2.bel⟩
  rw [hb] at h6
  have hc11:¬ (y.regs < x.regs):=of_decide_eq_false hb
  clear hb
  refine St.go h6 ?_;clear h6 a6
  refine sfblockLook1 ⟨_,hg8,rfl,rfl⟩ rfl rfl ?_
  refine sfBlock0 ⟨_,hg8,rfl,rfl⟩ rfl rfl ?_
  refine sbInt 0 hW2 ⟨_,hg8,rfl,rfl⟩ rfl rfl rfl rfl ?_
  refine sgt ⟨_,hg8,rfl,rfl⟩ rfl rfl rfl ?_
  refine spf trivial rfl rfl rfl ?_
  refine St.nil fun a12 h12=>?_
  refine hK5 _ _ ?_
  refine fr_cond (t:=17) h12 rfl (fun hb=>?_) (fun hb=>?_)
  ·have hc13:16 < y.regs:=of_decide_eq_true hb
   clear hb
   refine wp_seq_k fun K14 hK14=>?_
   refine rg h12 fun ops=>?_;clear h12 a12
   refine sa trivial rfl rfl ?_
   refine St.nil fun a15 h15=>?_
   refine hK14 _ _ ?_
   refine wp_ret ?_;with_reducible repeat first | refine of_then_ret ?_ | refine of_block_ret ?_
   have R:y.code' x bi=1:=if_pos (by omega)
   exact ret_tmp (t:=2) h15 rfl rfl ⟨by rw [R],hW2.bel⟩
  have hc16:¬ (16 < y.regs):=of_decide_eq_false hb
  clear hb
  refine wp_skip ?_
  refine hK4 _ _ ?_
  refine wp_seq_k fun K17 hK17=>?_
  refine wp_seq_k fun K18 hK18=>?_
  refine rg h12 fun ops=>?_;clear h12 a12
  refine sfblockLook1 trivial rfl rfl ?_
  refine sfBlock1 trivial rfl rfl ?_
  refine sbTypes 0 hW2 trivial rfl rfl rfl rfl ?_
  refine sfblockLook1 trivial rfl rfl ?_
  refine sfBlock0 trivial rfl rfl ?_
  refine sbInt 0 hW2 trivial rfl rfl rfl rfl ?_
  refine sc_2 cf134 hW2 (typesCode_any (regs:=y.regs) (Lay.below hy.out.params hW2.bel) ht.out.2.1) trivial rfl rfl rfl ?_
  clear hW2;intro w19 hW19
  refine sa trivial rfl rfl ?_
  refine St.nil fun a20 h20=>?_
  refine hK18 _ _ ?_
  refine wp_seq_k fun K21 hK21=>?_
  refine rg h20 fun ops=>?_;clear h20 a20
  refine sm trivial rfl rfl ?_
  refine sne trivial rfl rfl rfl ?_
  refine St.nil fun a22 h22=>?_
  refine hK21 _ _ ?_
  refine fr_cond (t:=26) h22 rfl (fun hb=>?_) (fun hb=>?_)
  ·have h9:¬ (listC y.regs y.params)=0:=bne_iff_ne.1 hb
   have hc23:¬ (listC y.regs y.params)=0:=h9
   clear h9
   clear hb
   refine wp_seq_k fun K24 hK24=>?_
   refine rg h22 fun ops=>?_;clear h22 a22
   refine sm trivial rfl rfl ?_
   refine sa trivial rfl rfl ?_
   refine St.nil fun a25 h25=>?_
   refine hK24 _ _ ?_
   refine wp_ret ?_;with_reducible repeat first | refine of_then_ret ?_ | refine of_block_ret ?_
   have R:y.code' x bi=listC y.regs y.params:=(if_neg (by omega)).trans (if_pos (by omega))
   exact ret_tmp (t:=2) h25 rfl rfl ⟨by rw [R],hW19.bel⟩
  have h9:(listC y.regs y.params)=0:=bne_eq_false_iff_eq.1 hb
  have hc26:Hid ((listC y.regs y.params)=0):=h9
  clear h9
  clear hb
  refine wp_skip ?_
  refine hK17 _ _ ?_
  refine wp_seq_k fun K27 hK27=>?_
  refine wp_seq_k fun K28 hK28=>?_
  refine fr_region ?_
  intro ops hops
  have hg3:(ops[3]?).bind (fun o:Oper=>o.dst)=some 31:=hops 3
  clear hops
  refine St.go h22 ?_;clear h22 a22
  refine sfblockLook2 trivial rfl rfl ?_
  refine sbInt 0 hW19 trivial rfl rfl rfl rfl ?_
  refine seq trivial rfl rfl rfl ?_
  refine sm trivial rfl rfl ?_
  intro a29 h29
  rcases Bool.eq_false_or_eq_true ((bi:Int) == 0) with hb | hb
  ·rw [hb] at h29
   have h9:bi=0:=by have h8:=eq_of_beq hb;omega
   have hc30:Hid (bi=0):=h9
   clear h9
   clear hb
   refine St.go h29 ?_;clear h29 a29
   refine sS 0 19 Tryz.underlying148 rfl infblockLook hW19 ⟨_,hg3,rfl,rfl⟩ rfl rfl rfl rfl ?_
   refine sc_1 cf174 hW19 (takes_any (m:=m) (p:=p) (c:=c) (fi:=fi) (bi:=bi) (hx.out.below hW19.bel) hs.out (hy.out.below hW19.bel) ht.out) ⟨_,hg3,rfl,rfl⟩ rfl rfl ?_
   clear hW19;intro w31 hW31
   refine sn ⟨_,hg3,rfl,rfl⟩ rfl rfl ?_
   refine sp trivial rfl rfl rfl ?_
   refine St.nil fun a32 h32=>?_
   refine hK28 _ _ ?_
   refine fr_cond (t:=35) h32 rfl (fun hb=>?_) (fun hb=>?_)
   ·have hb:(bdec (y.takes x))=false:=by simpa using hb
    have hc33:¬ (y.takes x):=fun h=>by rw [bdec_true h] at hb;cases hb
    clear hb
    refine wp_seq_k fun K34 hK34=>?_
    refine rg h32 fun ops=>?_;clear h32 a32
    refine sa trivial rfl rfl ?_
    refine St.nil fun a35 h35=>?_
    refine hK34 _ _ ?_
    refine wp_ret ?_;with_reducible repeat first | refine of_then_ret ?_ | refine of_block_ret ?_
    have:=hc26.out
    have:=hc30.out
    have R:y.code' x bi=9:=(if_neg (by omega)).trans ((if_neg (by omega)).trans (if_pos (⟨by omega,takes_no hc33⟩)))
    exact ret_tmp (t:=2) h35 rfl rfl ⟨by rw [R],hW31.bel⟩
   have hb:(bdec (y.takes x))=true:=by simpa using hb
   have hc36:(y.takes x):=bdec_iff.1 hb
   clear hb
   refine wp_skip ?_
   refine hK27 _ _ ?_
   refine wp_seq_k fun K37 hK37=>?_
   refine wp_seq_k fun K38 hK38=>?_
   refine rg h32 fun ops=>?_;clear h32 a32
   refine sfblockLook1 trivial rfl rfl ?_
   refine sfBlock2 trivial rfl rfl ?_
   refine sbInss 0 hW31 trivial rfl rfl rfl rfl ?_
   refine slInss trivial rfl rfl ?_
   refine sgt trivial rfl rfl rfl ?_
   refine St.nil fun a39 h39=>?_
   refine hK38 _ _ ?_
   refine fr_cond (t:=40) h39 rfl (fun hb=>?_) (fun hb=>?_)
   ·have hc40:40 < y.code.length:=by have:=of_decide_eq_true hb;omega
    clear hb
    refine wp_seq_k fun K41 hK41=>?_
    refine rg h39 fun ops=>?_;clear h39 a39
    refine sa trivial rfl rfl ?_
    refine St.nil fun a42 h42=>?_
    refine hK41 _ _ ?_
    refine wp_ret ?_;with_reducible repeat first | refine of_then_ret ?_ | refine of_block_ret ?_
    have:=hc26.out
    have:=hc30.out
    have R:y.code' x bi=2:=(if_neg (by omega)).trans ((if_neg (by omega)).trans ((if_neg (fun h=>takes_yes hc36 h.2)).trans (if_pos (by omega))))
    exact ret_tmp (t:=2) h42 rfl rfl ⟨by rw [R],hW31.bel⟩
   have hc43:¬ (40 < y.code.length):=by have:=of_decide_eq_false hb;omega
   clear hb
   refine wp_skip ?_
   refine hK37 _ _ ?_
   refine wp_seq_k fun K44 hK44=>?_
   refine rg h39 fun ops=>?_;clear h39 a39
   refine sa trivial rfl rfl ?_
   refine St.nil fun a45 h45=>?_
   refine hK44 _ _ ?_
   refine wp_ret ?_;with_reducible repeat first | refine of_then_ret ?_ | refine of_block_ret ?_
   have:=hc26.out
   have:=hc30.out
   have R:y.code' x bi=0:=(if_neg (by omega)).trans ((if_neg (by omega)).trans ((if_neg (fun h=>takes_yes hc36 h.2)).trans ((if_neg (by omega)).trans (rfl))))
   exact ret_tmp (t:=2) h45 rfl rfl ⟨by rw [R],hW31.bel⟩
  rw [hb] at h29
  have h9:¬ bi=0:=by have h8:=ne_of_beq_false hb;omega
  have hc46:¬ bi=0:=h9
  clear h9
  clear hb
  refine St.go h29 ?_;clear h29 a29
  refine so hg3 rfl rfl rfl rfl ?_
  refine so hg3 rfl rfl rfl rfl ?_
  refine so hg3 rfl rfl rfl rfl ?_
  refine spf trivial rfl rfl rfl ?_
  refine St.nil fun a47 h47=>?_
  refine hK28 _ _ ?_
  refine fr_false (t:=35) h47 rfl ?_
  refine wp_skip ?_
  refine hK27 _ _ ?_
  refine wp_seq_k fun K48 hK48=>?_
  refine wp_seq_k fun K49 hK49=>?_
  refine rg h47 fun ops=>?_;clear h47 a47
  refine sfblockLook1 trivial rfl rfl ?_
  refine sfBlock2 trivial rfl rfl ?_
  refine sbInss 0 hW19 trivial rfl rfl rfl rfl ?_
  refine slInss trivial rfl rfl ?_
  refine sgt trivial rfl rfl rfl ?_
  refine St.nil fun a50 h50=>?_
  refine hK49 _ _ ?_
  refine fr_cond (t:=40) h50 rfl (fun hb=>?_) (fun hb=>?_)
  ·have hc51:40 < y.code.length:=by have:=of_decide_eq_true hb;omega
   clear hb
   refine wp_seq_k fun K52 hK52=>?_
   refine rg h50 fun ops=>?_;clear h50 a50
   refine sa trivial rfl rfl ?_
   refine St.nil fun a53 h53=>?_
   refine hK52 _ _ ?_
   refine wp_ret ?_;with_reducible repeat first | refine of_then_ret ?_ | refine of_block_ret ?_
   have:=hc26.out
   have R:y.code' x bi=2:=(if_neg (by omega)).trans ((if_neg (by omega)).trans ((if_neg (by omega)).trans (if_pos (by omega))))
   exact ret_tmp (t:=2) h53 rfl rfl ⟨by rw [R],hW19.bel⟩
  have hc54:¬ (40 < y.code.length):=by have:=of_decide_eq_false hb;omega
  clear hb
  refine wp_skip ?_
  refine hK48 _ _ ?_
  refine wp_seq_k fun K55 hK55=>?_
  refine rg h50 fun ops=>?_;clear h50 a50
  refine sa trivial rfl rfl ?_
  refine St.nil fun a56 h56=>?_
  refine hK55 _ _ ?_
  refine wp_ret ?_;with_reducible repeat first | refine of_then_ret ?_ | refine of_block_ret ?_
  have:=hc26.out
  have R:y.code' x bi=0:=(if_neg (by omega)).trans ((if_neg (by omega)).trans ((if_neg (by omega)).trans ((if_neg (by omega)).trans (rfl))))
  exact ret_tmp (t:=2) h56 rfl rfl ⟨by rw [R],hW19.bel⟩
theorem ffIns_any {l : List MIns} {p : Option Addr} {c Bc : Nat} {w : World} (G : Nat → MIns → Int × Int) (hl0 : insL.list.In w All l [.slice p l.length c]) (hsb : l.length ≤ 100000)
    (hcl0:∀ (i:Nat) x (z:IP) wx,l[i]?=some x→IIn wx All x z→Below w.heap.size w wx→Rd Tryz.prog 139 #[.int .i64 (i:Int),.agg #[.int .i64 x.op,.int .i64 x.a,.int .i64 x.b,.int .i64 x.c,.int .i64 x.k,.int .i64 x.n,.slice z.pR x.regs.length z.cR,.slice z.pA x.args.length z.cA],.pointer (some ⟨Bc,0,none⟩)] wx (faultV (G i x))) :
    Rd Tryz.prog 138 #[.slice p l.length c,.func (.func 139) #[] #[.pointer (some ⟨Bc,0,none⟩)]] w (faultV (firstF G 0 l)):=by
  have hl:Hid _:=hl0
  have hcl:Hid _:=hcl0
  clear hl0 hcl0
  refine fr_enter (n:=25) Tryz.func138 rfl rfl rfl ?_
  intro a hF
  have hW:=Wd.start w
  replace hF:Fr 25 a [(0,.slice p l.length c),(1,.func (.func 139) #[] #[.pointer (some ⟨Bc,0,none⟩)])]:=hF
  refine wp_seq_k fun K1 hK1=>?_
  refine rg hF fun ops=>?_;clear hF a
  refine sAFault hW trivial rfl ?_
  clear hW;intro w2 B2 hW2 hN;clear hN
  refine St.nil fun a3 h3=>?_
  refine hK1 _ _ ?_
  refine wp_seq_k fun K4 hK4=>?_
  refine wp_seq_k fun K5 hK5=>?_
  refine rg h3 fun ops=>?_;clear h3 a3
  refine sm trivial rfl rfl ?_
  refine slInss trivial rfl rfl ?_
  refine sm trivial rfl rfl ?_
  refine St.nil fun a6 h6=>?_
  refine hK5 _ _ ?_
  refine wp_block ?_
  refine fr_loop (fun r a w'=>∃ q:Nat,q≤l.length∧r=l.length - q∧(∀ (j:Nat) y,j < q→l[j]?=some y→(G j y).1=0)∧Fr 25 a [(1,.func (.func 139) #[] #[.pointer (some ⟨Bc,0,none⟩)]),(0,.slice p l.length c),(4,.pointer (some ⟨B2,0,none⟩)),(8,.slice p l.length c),(9,.int .i64 (l.length:Int)),(10,.int .i64 (q:Int))]∧Wd w w' [(B2,#[.int .i64 0,.int .i64 0],27)]) (l.length) ⟨0,Nat.zero_le _,rfl,(fun j y hj=>by omega),(h6.keep (h6.keep (h6.keep (h6.keep (h6.keep (h6.keep h6.nil (t:=10) rfl) (t:=9) rfl) (t:=8) rfl) (t:=4) rfl) (t:=0) rfl) (t:=1) rfl),hW2⟩ ?_
  clear h6 hW2
  rintro r a7 w7 ⟨q,hq,hr,hall,hF7,hW7⟩ KL hKL
  refine wp_seq_k fun K8 hK8=>?_
  refine rg hF7 fun ops=>?_;clear hF7 a7
  refine slt trivial rfl rfl rfl ?_
  refine St.nil fun a9 h9=>?_
  refine hK8 _ _ ?_
  refine wp_seq_k fun K10 hK10=>?_
  refine fr_cond (t:=11) h9 rfl (fun hb=>?_) (fun hb=>?_)
  ·have hlt1:q < l.length:=by have:=of_decide_eq_true hb;omega
   clear hb
   obtain ⟨x,hx1⟩:∃ v9,(l)[q]?=some v9:=⟨_,List.getElem?_eq_getElem hlt1⟩
   obtain ⟨g1,o1,i1,hp1,E1,In1⟩:=ins_at hl.out hx1
   replace In1:Hid _:=In1
   replace hp1:Hid _:=hp1
   replace hx1:Hid _:=hx1
   replace E1:Hid _:=E1
   refine wp_skip ?_
   refine hK10 _ _ ?_
   refine wp_seq_k fun K11 hK11=>?_
   refine wp_block ?_
   refine wp_seq_k fun K12 hK12=>?_
   refine rg h9 fun ops=>?_;clear h9 a9
   refine sm trivial rfl rfl ?_
   refine siInss hp1.out hlt1 trivial rfl rfl rfl ?_
   refine sSE Tryz.underlying45 rfl (rangeAt_bel E1.out hW7.bel) infIns trivial rfl rfl ?_
   refine sAIns hW7 trivial rfl ?_
   clear hW7;intro w13 B13 hW13 hN;clear hN
   refine sa trivial rfl rfl ?_
   refine sT 0 hW13 rfl rfl infIns rfl rfl rfl ?_
   clear hW13;intro w14 hW14
   refine St.nil fun a15 h15=>?_
   refine hK12 _ _ ?_
   refine wp_seq_k fun K16 hK16=>?_
   refine rg h15 fun ops=>?_;clear h15 a15
   refine sm trivial rfl rfl ?_
   refine sm trivial rfl rfl ?_
   refine sS 0 8 Tryz.underlying45 rfl infIns hW14 trivial rfl rfl rfl rfl ?_
   refine sv_21 cf139 hW14 (hcl.out q x i1 w14 hx1.out (In1.out.below hW14.bel) hW14.bel) trivial rfl rfl rfl rfl ?_
   clear hW14;intro w17 hW17
   refine sAFault hW17 trivial rfl ?_
   clear hW17;intro w18 B18 hW18 hN;clear hN
   refine sT 0 hW18 rfl rfl infFault rfl rfl rfl ?_
   clear hW18;intro w19 hW19
   refine St.nil fun a20 h20=>?_
   refine hK16 _ _ ?_
   refine wp_seq_k fun K21 hK21=>?_
   refine rg h20 fun ops=>?_;clear h20 a20
   refine sfFault0 trivial rfl rfl ?_
   refine sbInt 0 hW19 trivial rfl rfl rfl rfl ?_
   refine sne trivial rfl rfl rfl ?_
   refine St.nil fun a22 h22=>?_
   refine hK21 _ _ ?_
   refine fr_cond (t:=21) h22 rfl (fun hb=>?_) (fun hb=>?_)
   ·have h9:¬ ((G q x).1)=0:=bne_iff_ne.1 hb
    have hne:¬ ((G q x).1)=0:=h9
    clear h9
    clear hb
    refine wp_seq_k fun K23 hK23=>?_
    refine rg h22 fun ops=>?_;clear h22 a22
    refine sS 0 2 Tryz.underlying27 rfl infFault hW19 trivial rfl rfl rfl rfl ?_
    refine sT 2 hW19 rfl rfl infFault rfl rfl rfl ?_
    clear hW19;intro w24 hW24
    refine St.nil fun a25 h25=>?_
    refine hK23 _ _ ?_
    refine wp_ret ?_;with_reducible repeat first | refine of_then_ret ?_ | refine of_block_ret ?_
    have R:firstF G 0 l=G q x:=by have h9:=firstF_eq (f:=G) (j:=0) hx1.out (fun k y hk hy=>by rw [Nat.zero_add];exact hall k y hk hy) (by rw [Nat.zero_add];exact hne);rwa [Nat.zero_add] at h9
    exact ret_box 2 h25 hW24 rfl rfl rfl Tryz.underlying27 rfl infFault ⟨by show Ending.returned (.agg #[.int .i64 ((G q x).1),.int .i64 ((G q x).2)])=_;rw [R],hW24.bel⟩
   have h9:((G q x).1)=0:=bne_eq_false_iff_eq.1 hb
   have hne:Hid (((G q x).1)=0):=h9
   clear h9
   clear hb
   refine wp_skip ?_
   refine hK11 _ _ ?_
   refine rg h22 fun ops=>?_;clear h22 a22
   refine sad (by omega) trivial rfl rfl rfl ?_
   refine sm trivial rfl rfl ?_
   refine St.nil fun a26 h26=>?_
   refine hKL _ _ (l.length - (q+1)) (by omega) ⟨q+1,by omega,rfl,?_,(h26.keep (h26.keep (h26.keep (h26.keep (h26.keep (h26.keep h26.nil (t:=10) rfl) (t:=9) rfl) (t:=8) rfl) (t:=4) rfl) (t:=0) rfl) (t:=1) rfl),hW19.tail.tail⟩
   ·intro j y hj hy
    by_cases e:j=q
    · subst e;rw [hx1.out] at hy;cases hy;exact hne.out
    · exact hall j y (by omega) hy
  have hge:q=l.length:=by have:=of_decide_eq_false hb;omega
  clear hb
  refine wp_exit ?_
  refine hK4 _ _ ?_
  refine wp_seq_k fun K27 hK27=>?_
  refine rg h9 fun ops=>?_;clear h9 a9
  intro a28 h28
  refine fr_pure (t:=24) (v:=.agg #[.int .i64 0,.int .i64 0]) (w':=w7) h28 rfl rfl rfl (fun K hK=>?_) ?_
  ·go_simp
   exact hK
  clear h28;intro a29 hF29
  refine St.go hF29 ?_;clear hF29 a29
  refine sT 0 hW7 rfl rfl infFault rfl rfl rfl ?_
  clear hW7;intro w30 hW30
  refine St.nil fun a31 h31=>?_
  refine hK27 _ _ ?_
  refine wp_ret ?_;with_reducible repeat first | refine of_then_ret ?_ | refine of_block_ret ?_
  have R:firstF G 0 l=(0,0):=firstF_zero (fun k y hy=>by rw [Nat.zero_add];exact hall k y (by have:=(List.getElem?_eq_some_iff.1 hy).1;omega) hy)
  exact ret_box 0 h31 hW30 rfl rfl rfl Tryz.underlying27 rfl infFault ⟨by show Ending.returned (.agg #[.int .i64 0,.int .i64 0])=_;rw [R],hW30.bel⟩
theorem ffBlock_any {n : Nat} {l : List (MBlock n)} {p : Option Addr} {c Bc : Nat} {w : World} (G : Nat → (MBlock n) → Int × Int) (hl0 : (blockL n).list.In w All l [.slice p l.length c]) (hsb : l.length ≤ 100000)
    (hcl0:∀ (i:Nat) x (z:BP) wx,l[i]?=some x→BIn wx All x z→Below w.heap.size w wx→Rd Tryz.prog 108 #[.int .i64 (i:Int),.agg #[.int .i64 x.regs,.slice z.pP x.params.length z.cP,.slice z.pC x.code.length z.cC,.int .i64 x.fin.op,.int .i64 x.fin.a,.int .i64 x.fin.yes.block,.slice z.e.pYR x.fin.yes.regs.length z.e.cYR,.slice z.e.pYA x.fin.yes.args.length z.e.cYA,.int .i64 x.fin.no.block,.slice z.e.pNR x.fin.no.regs.length z.e.cNR,.slice z.e.pNA x.fin.no.args.length z.e.cNA,.slice z.e.pA x.fin.args.length z.e.cA],.pointer (some ⟨Bc,0,none⟩)] wx (faultV (G i x))) :
    Rd Tryz.prog 107 #[.slice p l.length c,.func (.func 108) #[] #[.pointer (some ⟨Bc,0,none⟩)]] w (faultV (firstF G 0 l)):=by
  have hl:Hid _:=hl0
  have hcl:Hid _:=hcl0
  clear hl0 hcl0
  refine fr_enter (n:=25) Tryz.func107 rfl rfl rfl ?_
  intro a hF
  have hW:=Wd.start w
  replace hF:Fr 25 a [(0,.slice p l.length c),(1,.func (.func 108) #[] #[.pointer (some ⟨Bc,0,none⟩)])]:=hF
  refine wp_seq_k fun K1 hK1=>?_
  refine rg hF fun ops=>?_;clear hF a
  refine sAFault hW trivial rfl ?_
  clear hW;intro w2 B2 hW2 hN;clear hN
  refine St.nil fun a3 h3=>?_
  refine hK1 _ _ ?_
  refine wp_seq_k fun K4 hK4=>?_
  refine wp_seq_k fun K5 hK5=>?_
  refine rg h3 fun ops=>?_;clear h3 a3
  refine sm trivial rfl rfl ?_
  refine slBlocks trivial rfl rfl ?_
  refine sm trivial rfl rfl ?_
  refine St.nil fun a6 h6=>?_
  refine hK5 _ _ ?_
  refine wp_block ?_
  refine fr_loop (fun r a w'=>∃ q:Nat,q≤l.length∧r=l.length - q∧(∀ (j:Nat) y,j < q→l[j]?=some y→(G j y).1=0)∧Fr 25 a [(1,.func (.func 108) #[] #[.pointer (some ⟨Bc,0,none⟩)]),(0,.slice p l.length c),(4,.pointer (some ⟨B2,0,none⟩)),(8,.slice p l.length c),(9,.int .i64 (l.length:Int)),(10,.int .i64 (q:Int))]∧Wd w w' [(B2,#[.int .i64 0,.int .i64 0],27)]) (l.length) ⟨0,Nat.zero_le _,rfl,(fun j y hj=>by omega),(h6.keep (h6.keep (h6.keep (h6.keep (h6.keep (h6.keep h6.nil (t:=10) rfl) (t:=9) rfl) (t:=8) rfl) (t:=4) rfl) (t:=0) rfl) (t:=1) rfl),hW2⟩ ?_
  clear h6 hW2
  rintro r a7 w7 ⟨q,hq,hr,hall,hF7,hW7⟩ KL hKL
  refine wp_seq_k fun K8 hK8=>?_
  refine rg hF7 fun ops=>?_;clear hF7 a7
  refine slt trivial rfl rfl rfl ?_
  refine St.nil fun a9 h9=>?_
  refine hK8 _ _ ?_
  refine wp_seq_k fun K10 hK10=>?_
  refine fr_cond (t:=11) h9 rfl (fun hb=>?_) (fun hb=>?_)
  ·have hlt1:q < l.length:=by have:=of_decide_eq_true hb;omega
   clear hb
   obtain ⟨x,hx1⟩:∃ v9,(l)[q]?=some v9:=⟨_,List.getElem?_eq_getElem hlt1⟩
   obtain ⟨g1,o1,b1,hp1,E1,In1⟩:=block_at hl.out hx1
   replace In1:Hid _:=In1
   replace hp1:Hid _:=hp1
   replace hx1:Hid _:=hx1
   replace E1:Hid _:=E1
   refine wp_skip ?_
   refine hK10 _ _ ?_
   refine wp_seq_k fun K11 hK11=>?_
   refine wp_block ?_
   refine wp_seq_k fun K12 hK12=>?_
   refine rg h9 fun ops=>?_;clear h9 a9
   refine sm trivial rfl rfl ?_
   refine siBlocks hp1.out hlt1 trivial rfl rfl rfl ?_
   refine sSE Tryz.underlying52 rfl (rangeAt_bel E1.out hW7.bel) infBlock trivial rfl rfl ?_
   refine sABlock hW7 trivial rfl ?_
   clear hW7;intro w13 B13 hW13 hN;clear hN
   refine sa trivial rfl rfl ?_
   refine sT 0 hW13 rfl rfl infBlock rfl rfl rfl ?_
   clear hW13;intro w14 hW14
   refine St.nil fun a15 h15=>?_
   refine hK12 _ _ ?_
   refine wp_seq_k fun K16 hK16=>?_
   refine rg h15 fun ops=>?_;clear h15 a15
   refine sm trivial rfl rfl ?_
   refine sm trivial rfl rfl ?_
   refine sS 0 12 Tryz.underlying52 rfl infBlock hW14 trivial rfl rfl rfl rfl ?_
   refine sv_21 cf108 hW14 (hcl.out q x b1 w14 hx1.out (In1.out.below hW14.bel) hW14.bel) trivial rfl rfl rfl rfl ?_
   clear hW14;intro w17 hW17
   refine sAFault hW17 trivial rfl ?_
   clear hW17;intro w18 B18 hW18 hN;clear hN
   refine sT 0 hW18 rfl rfl infFault rfl rfl rfl ?_
   clear hW18;intro w19 hW19
   refine St.nil fun a20 h20=>?_
   refine hK16 _ _ ?_
   refine wp_seq_k fun K21 hK21=>?_
   refine rg h20 fun ops=>?_;clear h20 a20
   refine sfFault0 trivial rfl rfl ?_
   refine sbInt 0 hW19 trivial rfl rfl rfl rfl ?_
   refine sne trivial rfl rfl rfl ?_
   refine St.nil fun a22 h22=>?_
   refine hK21 _ _ ?_
   refine fr_cond (t:=21) h22 rfl (fun hb=>?_) (fun hb=>?_)
   ·have h9:¬ ((G q x).1)=0:=bne_iff_ne.1 hb
    have hne:¬ ((G q x).1)=0:=h9
    clear h9
    clear hb
    refine wp_seq_k fun K23 hK23=>?_
    refine rg h22 fun ops=>?_;clear h22 a22
    refine sS 0 2 Tryz.underlying27 rfl infFault hW19 trivial rfl rfl rfl rfl ?_
    refine sT 2 hW19 rfl rfl infFault rfl rfl rfl ?_
    clear hW19;intro w24 hW24
    refine St.nil fun a25 h25=>?_
    refine hK23 _ _ ?_
    refine wp_ret ?_;with_reducible repeat first | refine of_then_ret ?_ | refine of_block_ret ?_
    have R:firstF G 0 l=G q x:=by have h9:=firstF_eq (f:=G) (j:=0) hx1.out (fun k y hk hy=>by rw [Nat.zero_add];exact hall k y hk hy) (by rw [Nat.zero_add];exact hne);rwa [Nat.zero_add] at h9
    exact ret_box 2 h25 hW24 rfl rfl rfl Tryz.underlying27 rfl infFault ⟨by show Ending.returned (.agg #[.int .i64 ((G q x).1),.int .i64 ((G q x).2)])=_;rw [R],hW24.bel⟩
   have h9:((G q x).1)=0:=bne_eq_false_iff_eq.1 hb
   have hne:Hid (((G q x).1)=0):=h9
   clear h9
   clear hb
   refine wp_skip ?_
   refine hK11 _ _ ?_
   refine rg h22 fun ops=>?_;clear h22 a22
   refine sad (by omega) trivial rfl rfl rfl ?_
   refine sm trivial rfl rfl ?_
   refine St.nil fun a26 h26=>?_
   refine hKL _ _ (l.length - (q+1)) (by omega) ⟨q+1,by omega,rfl,?_,(h26.keep (h26.keep (h26.keep (h26.keep (h26.keep (h26.keep h26.nil (t:=10) rfl) (t:=9) rfl) (t:=8) rfl) (t:=4) rfl) (t:=0) rfl) (t:=1) rfl),hW19.tail.tail⟩
   ·intro j y hj hy
    by_cases e:j=q
    · subst e;rw [hx1.out] at hy;cases hy;exact hne.out
    · exact hall j y (by omega) hy
  have hge:q=l.length:=by have:=of_decide_eq_false hb;omega
  clear hb
  refine wp_exit ?_
  refine hK4 _ _ ?_
  refine wp_seq_k fun K27 hK27=>?_
  refine rg h9 fun ops=>?_;clear h9 a9
  intro a28 h28
  refine fr_pure (t:=24) (v:=.agg #[.int .i64 0,.int .i64 0]) (w':=w7) h28 rfl rfl rfl (fun K hK=>?_) ?_
  ·go_simp
   exact hK
  clear h28;intro a29 hF29
  refine St.go hF29 ?_;clear hF29 a29
  refine sT 0 hW7 rfl rfl infFault rfl rfl rfl ?_
  clear hW7;intro w30 hW30
  refine St.nil fun a31 h31=>?_
  refine hK27 _ _ ?_
  refine wp_ret ?_;with_reducible repeat first | refine of_then_ret ?_ | refine of_block_ret ?_
  have R:firstF G 0 l=(0,0):=firstF_zero (fun k y hy=>by rw [Nat.zero_add];exact hall k y (by have:=(List.getElem?_eq_some_iff.1 hy).1;omega) hy)
  exact ret_box 0 h31 hW30 rfl rfl rfl Tryz.underlying27 rfl infFault ⟨by show Ending.returned (.agg #[.int .i64 0,.int .i64 0])=_;rw [R],hW30.bel⟩
theorem ffFunc_any {n : Nat} {l : List (MFunc n)} {p : Option Addr} {c Bc : Nat} {w : World} (G : Nat → (MFunc n) → Int × Int) (hl0 : (modL n).In w All l [.slice p l.length c]) (hsb : l.length ≤ 100000)
    (hcl0:∀ (i:Nat) x (z:FP) wx,l[i]?=some x→FIn wx All x z→Below w.heap.size w wx→Rd Tryz.prog 55 #[.int .i64 (i:Int),.agg #[.int .i64 x.regs,.slice z.pP x.params.length z.cP,.slice z.pR x.results.length z.cR,.slice z.pB x.blocks.length z.cB],.pointer (some ⟨Bc,0,none⟩)] wx (faultV (G i x))) :
    Rd Tryz.prog 54 #[.slice p l.length c,.func (.func 55) #[] #[.pointer (some ⟨Bc,0,none⟩)]] w (faultV (firstF G 0 l)):=by
  have hl:Hid _:=hl0
  have hcl:Hid _:=hcl0
  clear hl0 hcl0
  refine fr_enter (n:=25) Tryz.func54 rfl rfl rfl ?_
  intro a hF
  have hW:=Wd.start w
  replace hF:Fr 25 a [(0,.slice p l.length c),(1,.func (.func 55) #[] #[.pointer (some ⟨Bc,0,none⟩)])]:=hF
  refine wp_seq_k fun K1 hK1=>?_
  refine rg hF fun ops=>?_;clear hF a
  refine sAFault hW trivial rfl ?_
  clear hW;intro w2 B2 hW2 hN;clear hN
  refine St.nil fun a3 h3=>?_
  refine hK1 _ _ ?_
  refine wp_seq_k fun K4 hK4=>?_
  refine wp_seq_k fun K5 hK5=>?_
  refine rg h3 fun ops=>?_;clear h3 a3
  refine sm trivial rfl rfl ?_
  refine slFuncs trivial rfl rfl ?_
  refine sm trivial rfl rfl ?_
  refine St.nil fun a6 h6=>?_
  refine hK5 _ _ ?_
  refine wp_block ?_
  refine fr_loop (fun r a w'=>∃ q:Nat,q≤l.length∧r=l.length - q∧(∀ (j:Nat) y,j < q→l[j]?=some y→(G j y).1=0)∧Fr 25 a [(1,.func (.func 55) #[] #[.pointer (some ⟨Bc,0,none⟩)]),(0,.slice p l.length c),(4,.pointer (some ⟨B2,0,none⟩)),(8,.slice p l.length c),(9,.int .i64 (l.length:Int)),(10,.int .i64 (q:Int))]∧Wd w w' [(B2,#[.int .i64 0,.int .i64 0],27)]) (l.length) ⟨0,Nat.zero_le _,rfl,(fun j y hj=>by omega),(h6.keep (h6.keep (h6.keep (h6.keep (h6.keep (h6.keep h6.nil (t:=10) rfl) (t:=9) rfl) (t:=8) rfl) (t:=4) rfl) (t:=0) rfl) (t:=1) rfl),hW2⟩ ?_
  clear h6 hW2
  rintro r a7 w7 ⟨q,hq,hr,hall,hF7,hW7⟩ KL hKL
  refine wp_seq_k fun K8 hK8=>?_
  refine rg hF7 fun ops=>?_;clear hF7 a7
  refine slt trivial rfl rfl rfl ?_
  refine St.nil fun a9 h9=>?_
  refine hK8 _ _ ?_
  refine wp_seq_k fun K10 hK10=>?_
  refine fr_cond (t:=11) h9 rfl (fun hb=>?_) (fun hb=>?_)
  ·have hlt1:q < l.length:=by have:=of_decide_eq_true hb;omega
   clear hb
   obtain ⟨x,hx1⟩:∃ v9,(l)[q]?=some v9:=⟨_,List.getElem?_eq_getElem hlt1⟩
   obtain ⟨g1,o1,f1,hp1,E1,In1⟩:=func_at hl.out hx1
   replace In1:Hid _:=In1
   replace hp1:Hid _:=hp1
   replace hx1:Hid _:=hx1
   replace E1:Hid _:=E1
   refine wp_skip ?_
   refine hK10 _ _ ?_
   refine wp_seq_k fun K11 hK11=>?_
   refine wp_block ?_
   refine wp_seq_k fun K12 hK12=>?_
   refine rg h9 fun ops=>?_;clear h9 a9
   refine sm trivial rfl rfl ?_
   refine siFuncs hp1.out hlt1 trivial rfl rfl rfl ?_
   refine sSE Tryz.underlying42 rfl (rangeAt_bel E1.out hW7.bel) infFunc trivial rfl rfl ?_
   refine sAFunc hW7 trivial rfl ?_
   clear hW7;intro w13 B13 hW13 hN;clear hN
   refine sa trivial rfl rfl ?_
   refine sT 0 hW13 rfl rfl infFunc rfl rfl rfl ?_
   clear hW13;intro w14 hW14
   refine St.nil fun a15 h15=>?_
   refine hK12 _ _ ?_
   refine wp_seq_k fun K16 hK16=>?_
   refine rg h15 fun ops=>?_;clear h15 a15
   refine sm trivial rfl rfl ?_
   refine sm trivial rfl rfl ?_
   refine sS 0 4 Tryz.underlying42 rfl infFunc hW14 trivial rfl rfl rfl rfl ?_
   refine sv_21 cf55 hW14 (hcl.out q x f1 w14 hx1.out (In1.out.below hW14.bel) hW14.bel) trivial rfl rfl rfl rfl ?_
   clear hW14;intro w17 hW17
   refine sAFault hW17 trivial rfl ?_
   clear hW17;intro w18 B18 hW18 hN;clear hN
   refine sT 0 hW18 rfl rfl infFault rfl rfl rfl ?_
   clear hW18;intro w19 hW19
   refine St.nil fun a20 h20=>?_
   refine hK16 _ _ ?_
   refine wp_seq_k fun K21 hK21=>?_
   refine rg h20 fun ops=>?_;clear h20 a20
   refine sfFault0 trivial rfl rfl ?_
   refine sbInt 0 hW19 trivial rfl rfl rfl rfl ?_
   refine sne trivial rfl rfl rfl ?_
   refine St.nil fun a22 h22=>?_
   refine hK21 _ _ ?_
   refine fr_cond (t:=21) h22 rfl (fun hb=>?_) (fun hb=>?_)
   ·have h9:¬ ((G q x).1)=0:=bne_iff_ne.1 hb
    have hne:¬ ((G q x).1)=0:=h9
    clear h9
    clear hb
    refine wp_seq_k fun K23 hK23=>?_
    refine rg h22 fun ops=>?_;clear h22 a22
    refine sS 0 2 Tryz.underlying27 rfl infFault hW19 trivial rfl rfl rfl rfl ?_
    refine sT 2 hW19 rfl rfl infFault rfl rfl rfl ?_
    clear hW19;intro w24 hW24
    refine St.nil fun a25 h25=>?_
    refine hK23 _ _ ?_
    refine wp_ret ?_;with_reducible repeat first | refine of_then_ret ?_ | refine of_block_ret ?_
    have R:firstF G 0 l=G q x:=by have h9:=firstF_eq (f:=G) (j:=0) hx1.out (fun k y hk hy=>by rw [Nat.zero_add];exact hall k y hk hy) (by rw [Nat.zero_add];exact hne);rwa [Nat.zero_add] at h9
    exact ret_box 2 h25 hW24 rfl rfl rfl Tryz.underlying27 rfl infFault ⟨by show Ending.returned (.agg #[.int .i64 ((G q x).1),.int .i64 ((G q x).2)])=_;rw [R],hW24.bel⟩
   have h9:((G q x).1)=0:=bne_eq_false_iff_eq.1 hb
   have hne:Hid (((G q x).1)=0):=h9
   clear h9
   clear hb
   refine wp_skip ?_
   refine hK11 _ _ ?_
   refine rg h22 fun ops=>?_;clear h22 a22
   refine sad (by omega) trivial rfl rfl rfl ?_
   refine sm trivial rfl rfl ?_
   refine St.nil fun a26 h26=>?_
   refine hKL _ _ (l.length - (q+1)) (by omega) ⟨q+1,by omega,rfl,?_,(h26.keep (h26.keep (h26.keep (h26.keep (h26.keep (h26.keep h26.nil (t:=10) rfl) (t:=9) rfl) (t:=8) rfl) (t:=4) rfl) (t:=0) rfl) (t:=1) rfl),hW19.tail.tail⟩
   ·intro j y hj hy
    by_cases e:j=q
    · subst e;rw [hx1.out] at hy;cases hy;exact hne.out
    · exact hall j y (by omega) hy
  have hge:q=l.length:=by have:=of_decide_eq_false hb;omega
  clear hb
  refine wp_exit ?_
  refine hK4 _ _ ?_
  refine wp_seq_k fun K27 hK27=>?_
  refine rg h9 fun ops=>?_;clear h9 a9
  intro a28 h28
  refine fr_pure (t:=24) (v:=.agg #[.int .i64 0,.int .i64 0]) (w':=w7) h28 rfl rfl rfl (fun K hK=>?_) ?_
  ·go_simp
   exact hK
  clear h28;intro a29 hF29
  refine St.go hF29 ?_;clear hF29 a29
  refine sT 0 hW7 rfl rfl infFault rfl rfl rfl ?_
  clear hW7;intro w30 hW30
  refine St.nil fun a31 h31=>?_
  refine hK27 _ _ ?_
  refine wp_ret ?_;with_reducible repeat first | refine of_then_ret ?_ | refine of_block_ret ?_
  have R:firstF G 0 l=(0,0):=firstF_zero (fun k y hy=>by rw [Nat.zero_add];exact hall k y (by have:=(List.getElem?_eq_some_iff.1 hy).1;omega) hy)
  exact ret_box 0 h31 hW30 rfl rfl rfl Tryz.underlying27 rfl infFault ⟨by show Ending.returned (.agg #[.int .i64 0,.int .i64 0])=_;rw [R],hW30.bel⟩
end Go.Proofs.YtalfbnllodhkiacGreatDoor
