/-
  Ins: the form of an instruction (package code).
-/
import Derived.Test.YtmnmnokkojcodabCodFormG
import Derived.Test.YtmnmnokkojcodabCodFormI
namespace Go.Proofs.Ytmnmnokkojcodab
open Go.ChangeShapes Go.WideShapes Go.ChangeAt Go.RowKit
set_option linter.unusedVariables false
set_option linter.unusedSimpArgs false

set_option maxHeartbeats 4000000 in
set_option maxRecDepth 100000 in
theorem wf1 {xa xb xc xk xn : Int} {ra aa : Option Addr} {rl rc al ac : Nat} {w : World} :
    Rd Try.prog 57 #[.agg #[.int .i64 1, .int .i64 xa, .int .i64 xb, .int .i64 xc, .int .i64 xk, .int .i64 xn, .slice ra rl rc, .slice aa al ac]] w (.tuple #[.agg #[.int .i64 1, .int .i64 xa, .int .i64 xb, .int .i64 xc, .int .i64 xk, .int .i64 0, .slice ra rl rc, .slice aa al ac], .bool true]) := by
  refine fr_enter (n := 48) Try.func57 rfl rfl rfl ?_
  intro a hF
  have hW := Wd.start w
  replace hF : Fr 48 a [(0, .agg #[.int .i64 1, .int .i64 xa, .int .i64 xb, .int .i64 xc, .int .i64 xk, .int .i64 xn, .slice ra rl rc, .slice aa al ac])] := hF
  refine wp_seq_k ?_
  intro K1 hK1
  refine fr_region ?_
  intro ops hops
  clear hops
  refine St.go hF ?_; clear hF a
  refine sB hW trivial rfl rfl ?_
  clear hW; intro w2 B2 hW2 hN; clear hN
  refine sAIns hW2 trivial rfl ?_
  clear hW2; intro w3 B3 hW3 hN; clear hN
  refine sa trivial rfl rfl ?_
  refine St.nil fun a4 h4 => ?_
  refine hK1 _ _ ?_
  refine wp_seq_k ?_
  intro K5 hK5
  refine wp_seq_k ?_
  intro K6 hK6
  refine fr_region ?_
  intro ops hops
  clear hops
  refine St.go h4 ?_; clear h4 a4
  refine sfIns0 trivial rfl rfl ?_
  refine sbInt 1 hW3 trivial rfl rfl rfl rfl ?_
  refine St.nil fun a7 h7 => ?_
  refine hK6 _ _ ?_
  refine wp_block ?_
  refine wp_seq_k ?_
  intro K8 hK8
  refine fr_region ?_
  intro ops hops
  clear hops
  refine fr_pure (t := 8) (v := .bool true) (w' := w3) h7 rfl rfl rfl (fun K hK => ?_) ?_
  ·have k0 : a7.tmps.getD 5 undef = .int .i64 1 := h7.sl 5 _ rfl
   go_simp
   exact hK
  clear h7; intro a9 hF9
  refine St.go hF9 ?_; clear hF9 a9
  refine sa trivial rfl rfl ?_
  refine St.nil fun a10 h10 => ?_
  refine hK8 _ _ ?_
  refine fr_true (t := 7) h10 rfl ?_
  refine fr_region ?_
  intro ops hops
  clear hops
  refine St.go h10 ?_; clear h10 a10
  refine sfIns5 trivial rfl rfl ?_
  refine s1 1 inf1Int6 hW3 rfl rfl rfl rfl rfl rfl ?_
  clear hW3; intro w11 hW11
  refine St.nil fun a12 h12 => ?_
  refine hK5 _ _ ?_
  refine wp_seq_k ?_
  intro K13 hK13
  refine fr_region ?_
  intro ops hops
  clear hops
  refine St.go h12 ?_; clear h12 a12
  refine sS 1 8 Try.underlying46 rfl infIns hW11 trivial rfl rfl rfl rfl ?_
  refine sT 0 hW11 rfl rfl infIns rfl rfl rfl ?_
  clear hW11; intro w14 hW14
  refine sa trivial rfl rfl ?_
  refine St.nil fun a15 h15 => ?_
  refine hK13 _ _ ?_
  refine wp_ret ?_
  repeat (first | with_reducible refine of_then_ret ?_ | with_reducible refine of_block_ret ?_)
  have k0 : a15.tmps[2]?.getD undef = .pointer (some ⟨B3, 0, none⟩) := h15.sl2 2 _ rfl
  have k1 : a15.tmps[3]?.getD undef = .bool true := h15.sl2 3 _ rfl
  have c0 : w14.cell? ⟨B3, 0, none⟩ = some (.int .i64 1) := cellOf (hW14.get 0 rfl) 0 _ rfl
  have c1 : w14.cell? ⟨B3, 1, none⟩ = some (.int .i64 xa) := cellOf (hW14.get 0 rfl) 1 _ rfl
  have c2 : w14.cell? ⟨B3, 2, none⟩ = some (.int .i64 xb) := cellOf (hW14.get 0 rfl) 2 _ rfl
  have c3 : w14.cell? ⟨B3, 3, none⟩ = some (.int .i64 xc) := cellOf (hW14.get 0 rfl) 3 _ rfl
  have c4 : w14.cell? ⟨B3, 4, none⟩ = some (.int .i64 xk) := cellOf (hW14.get 0 rfl) 4 _ rfl
  have c5 : w14.cell? ⟨B3, 5, none⟩ = some (.int .i64 0) := cellOf (hW14.get 0 rfl) 5 _ rfl
  have c6 : w14.cell? ⟨B3, 6, none⟩ = some (.slice ra rl rc) := cellOf (hW14.get 0 rfl) 6 _ rfl
  have c7 : w14.cell? ⟨B3, 7, none⟩ = some (.slice aa al ac) := cellOf (hW14.get 0 rfl) 7 _ rfl
  exact bodyPost_ret (v := .tuple #[.agg #[.int .i64 1, .int .i64 xa, .int .i64 xb, .int .i64 xc, .int .i64 xk, .int .i64 0, .slice ra rl rc, .slice aa al ac], .bool true]) (by simp [results, Try.results57, go_sem, k0, k1, c0, c1, c2, c3, c4, c5, c6, c7]) h15.defers ⟨rfl, hW14.bel⟩

set_option maxHeartbeats 4000000 in
set_option maxRecDepth 100000 in
theorem wf2 {xa xb xc xk xn : Int} {ra aa : Option Addr} {rl rc al ac : Nat} {w : World} :
    Rd Try.prog 57 #[.agg #[.int .i64 2, .int .i64 xa, .int .i64 xb, .int .i64 xc, .int .i64 xk, .int .i64 xn, .slice ra rl rc, .slice aa al ac]] w (.tuple #[.agg #[.int .i64 2, .int .i64 0, .int .i64 0, .int .i64 xc, .int .i64 0, .int .i64 xn, .slice ra rl rc, .slice aa al ac], .bool true]) := by
  refine fr_enter (n := 48) Try.func57 rfl rfl rfl ?_
  intro a hF
  have hW := Wd.start w
  replace hF : Fr 48 a [(0, .agg #[.int .i64 2, .int .i64 xa, .int .i64 xb, .int .i64 xc, .int .i64 xk, .int .i64 xn, .slice ra rl rc, .slice aa al ac])] := hF
  refine wp_seq_k ?_
  intro K1 hK1
  refine fr_region ?_
  intro ops hops
  clear hops
  refine St.go hF ?_; clear hF a
  refine sB hW trivial rfl rfl ?_
  clear hW; intro w2 B2 hW2 hN; clear hN
  refine sAIns hW2 trivial rfl ?_
  clear hW2; intro w3 B3 hW3 hN; clear hN
  refine sa trivial rfl rfl ?_
  refine St.nil fun a4 h4 => ?_
  refine hK1 _ _ ?_
  refine wp_seq_k ?_
  intro K5 hK5
  refine wp_seq_k ?_
  intro K6 hK6
  refine fr_region ?_
  intro ops hops
  clear hops
  refine St.go h4 ?_; clear h4 a4
  refine sfIns0 trivial rfl rfl ?_
  refine sbInt 1 hW3 trivial rfl rfl rfl rfl ?_
  refine St.nil fun a7 h7 => ?_
  refine hK6 _ _ ?_
  refine wp_block ?_
  refine wp_seq_k ?_
  intro K8 hK8
  refine fr_region ?_
  intro ops hops
  clear hops
  refine St.go h7 ?_; clear h7 a7
  refine seq trivial rfl rfl rfl ?_
  refine sa trivial rfl rfl ?_
  refine St.nil fun a9 h9 => ?_
  refine hK8 _ _ ?_
  refine fr_false (t := 7) h9 rfl ?_
  refine wp_seq_k ?_
  intro K10 hK10
  refine wp_seq_k ?_
  intro K11 hK11
  refine fr_region ?_
  intro ops hops
  clear hops
  refine St.go h9 ?_; clear h9 a9
  refine seq trivial rfl rfl rfl ?_
  refine sa trivial rfl rfl ?_
  refine St.nil fun a12 h12 => ?_
  refine hK11 _ _ ?_
  refine fr_false (t := 10) h12 rfl ?_
  refine fr_region ?_
  intro ops hops
  clear hops
  refine St.go h12 ?_; clear h12 a12
  refine seq trivial rfl rfl rfl ?_
  refine sa trivial rfl rfl ?_
  refine St.nil fun a13 h13 => ?_
  refine hK10 _ _ ?_
  refine fr_false (t := 10) h13 rfl ?_
  refine wp_seq_k ?_
  intro K14 hK14
  refine wp_seq_k ?_
  intro K15 hK15
  refine fr_region ?_
  intro ops hops
  clear hops
  refine St.go h13 ?_; clear h13 a13
  refine seq trivial rfl rfl rfl ?_
  refine sa trivial rfl rfl ?_
  refine St.nil fun a16 h16 => ?_
  refine hK15 _ _ ?_
  refine fr_false (t := 13) h16 rfl ?_
  refine wp_seq_k ?_
  intro K17 hK17
  refine fr_region ?_
  intro ops hops
  clear hops
  refine St.go h16 ?_; clear h16 a16
  refine seq trivial rfl rfl rfl ?_
  refine sa trivial rfl rfl ?_
  refine St.nil fun a18 h18 => ?_
  refine hK17 _ _ ?_
  refine fr_false (t := 13) h18 rfl ?_
  refine fr_region ?_
  intro ops hops
  clear hops
  refine St.go h18 ?_; clear h18 a18
  refine seq trivial rfl rfl rfl ?_
  refine sa trivial rfl rfl ?_
  refine St.nil fun a19 h19 => ?_
  refine hK14 _ _ ?_
  refine fr_false (t := 13) h19 rfl ?_
  refine wp_seq_k ?_
  intro K20 hK20
  refine wp_seq_k ?_
  intro K21 hK21
  refine fr_region ?_
  intro ops hops
  clear hops
  refine St.go h19 ?_; clear h19 a19
  refine seq trivial rfl rfl rfl ?_
  refine sa trivial rfl rfl ?_
  refine St.nil fun a22 h22 => ?_
  refine hK21 _ _ ?_
  refine fr_false (t := 18) h22 rfl ?_
  refine fr_region ?_
  intro ops hops
  clear hops
  refine St.go h22 ?_; clear h22 a22
  refine seq trivial rfl rfl rfl ?_
  refine sa trivial rfl rfl ?_
  refine St.nil fun a23 h23 => ?_
  refine hK20 _ _ ?_
  refine fr_false (t := 18) h23 rfl ?_
  refine wp_seq_k ?_
  intro K24 hK24
  refine fr_region ?_
  intro ops hops
  clear hops
  refine St.go h23 ?_; clear h23 a23
  refine seq trivial rfl rfl rfl ?_
  refine sa trivial rfl rfl ?_
  refine St.nil fun a25 h25 => ?_
  refine hK24 _ _ ?_
  refine fr_false (t := 23) h25 rfl ?_
  refine wp_seq_k ?_
  intro K26 hK26
  refine wp_seq_k ?_
  intro K27 hK27
  refine fr_region ?_
  intro ops hops
  clear hops
  refine fr_pure (t := 29) (v := .bool true) (w' := w3) h25 rfl rfl rfl (fun K hK => ?_) ?_
  ·have k0 : a25.tmps.getD 5 undef = .int .i64 2 := h25.sl 5 _ rfl
   go_simp
   exact hK
  clear h25; intro a28 hF28
  refine St.go hF28 ?_; clear hF28 a28
  refine sa trivial rfl rfl ?_
  refine St.nil fun a29 h29 => ?_
  refine hK27 _ _ ?_
  refine fr_true (t := 28) h29 rfl ?_
  refine wp_skip ?_
  refine hK26 _ _ ?_
  refine fr_true (t := 28) h29 rfl ?_
  refine fr_region ?_
  intro ops hops
  clear hops
  refine St.go h29 ?_; clear h29 a29
  refine sfIns1 trivial rfl rfl ?_
  refine s1 1 inf1Int hW3 rfl rfl rfl rfl rfl rfl ?_
  clear hW3; intro w30 hW30
  refine sfIns2 trivial rfl rfl ?_
  refine s1 1 inf1Int hW30 rfl rfl rfl rfl rfl rfl ?_
  clear hW30; intro w31 hW31
  refine sfIns4 trivial rfl rfl ?_
  refine s1 1 inf1Int hW31 rfl rfl rfl rfl rfl rfl ?_
  clear hW31; intro w32 hW32
  refine St.nil fun a33 h33 => ?_
  refine hK5 _ _ ?_
  refine wp_seq_k ?_
  intro K34 hK34
  refine fr_region ?_
  intro ops hops
  clear hops
  refine St.go h33 ?_; clear h33 a33
  refine sS 1 8 Try.underlying46 rfl infIns hW32 trivial rfl rfl rfl rfl ?_
  refine sT 0 hW32 rfl rfl infIns rfl rfl rfl ?_
  clear hW32; intro w35 hW35
  refine sa trivial rfl rfl ?_
  refine St.nil fun a36 h36 => ?_
  refine hK34 _ _ ?_
  refine wp_ret ?_
  repeat (first | with_reducible refine of_then_ret ?_ | with_reducible refine of_block_ret ?_)
  have k0 : a36.tmps[2]?.getD undef = .pointer (some ⟨B3, 0, none⟩) := h36.sl2 2 _ rfl
  have k1 : a36.tmps[3]?.getD undef = .bool true := h36.sl2 3 _ rfl
  have c0 : w35.cell? ⟨B3, 0, none⟩ = some (.int .i64 2) := cellOf (hW35.get 0 rfl) 0 _ rfl
  have c1 : w35.cell? ⟨B3, 1, none⟩ = some (.int .i64 0) := cellOf (hW35.get 0 rfl) 1 _ rfl
  have c2 : w35.cell? ⟨B3, 2, none⟩ = some (.int .i64 0) := cellOf (hW35.get 0 rfl) 2 _ rfl
  have c3 : w35.cell? ⟨B3, 3, none⟩ = some (.int .i64 xc) := cellOf (hW35.get 0 rfl) 3 _ rfl
  have c4 : w35.cell? ⟨B3, 4, none⟩ = some (.int .i64 0) := cellOf (hW35.get 0 rfl) 4 _ rfl
  have c5 : w35.cell? ⟨B3, 5, none⟩ = some (.int .i64 xn) := cellOf (hW35.get 0 rfl) 5 _ rfl
  have c6 : w35.cell? ⟨B3, 6, none⟩ = some (.slice ra rl rc) := cellOf (hW35.get 0 rfl) 6 _ rfl
  have c7 : w35.cell? ⟨B3, 7, none⟩ = some (.slice aa al ac) := cellOf (hW35.get 0 rfl) 7 _ rfl
  exact bodyPost_ret (v := .tuple #[.agg #[.int .i64 2, .int .i64 0, .int .i64 0, .int .i64 xc, .int .i64 0, .int .i64 xn, .slice ra rl rc, .slice aa al ac], .bool true]) (by simp [results, Try.results57, go_sem, k0, k1, c0, c1, c2, c3, c4, c5, c6, c7]) h36.defers ⟨rfl, hW35.bel⟩

set_option maxHeartbeats 4000000 in
set_option maxRecDepth 100000 in
theorem wf3 {xa xb xc xk xn : Int} {ra aa : Option Addr} {rl rc al ac : Nat} {w : World} :
    Rd Try.prog 57 #[.agg #[.int .i64 3, .int .i64 xa, .int .i64 xb, .int .i64 xc, .int .i64 xk, .int .i64 xn, .slice ra rl rc, .slice aa al ac]] w (.tuple #[.agg #[.int .i64 3, .int .i64 xa, .int .i64 xb, .int .i64 xc, .int .i64 xk, .int .i64 xn, .slice ra rl rc, .slice aa al ac], .bool true]) := by
  refine fr_enter (n := 48) Try.func57 rfl rfl rfl ?_
  intro a hF
  have hW := Wd.start w
  replace hF : Fr 48 a [(0, .agg #[.int .i64 3, .int .i64 xa, .int .i64 xb, .int .i64 xc, .int .i64 xk, .int .i64 xn, .slice ra rl rc, .slice aa al ac])] := hF
  refine wp_seq_k ?_
  intro K1 hK1
  refine fr_region ?_
  intro ops hops
  clear hops
  refine St.go hF ?_; clear hF a
  refine sB hW trivial rfl rfl ?_
  clear hW; intro w2 B2 hW2 hN; clear hN
  refine sAIns hW2 trivial rfl ?_
  clear hW2; intro w3 B3 hW3 hN; clear hN
  refine sa trivial rfl rfl ?_
  refine St.nil fun a4 h4 => ?_
  refine hK1 _ _ ?_
  refine wp_seq_k ?_
  intro K5 hK5
  refine wp_seq_k ?_
  intro K6 hK6
  refine fr_region ?_
  intro ops hops
  clear hops
  refine St.go h4 ?_; clear h4 a4
  refine sfIns0 trivial rfl rfl ?_
  refine sbInt 1 hW3 trivial rfl rfl rfl rfl ?_
  refine St.nil fun a7 h7 => ?_
  refine hK6 _ _ ?_
  refine wp_block ?_
  refine wp_seq_k ?_
  intro K8 hK8
  refine fr_region ?_
  intro ops hops
  clear hops
  refine St.go h7 ?_; clear h7 a7
  refine seq trivial rfl rfl rfl ?_
  refine sa trivial rfl rfl ?_
  refine St.nil fun a9 h9 => ?_
  refine hK8 _ _ ?_
  refine fr_false (t := 7) h9 rfl ?_
  refine wp_seq_k ?_
  intro K10 hK10
  refine wp_seq_k ?_
  intro K11 hK11
  refine fr_region ?_
  intro ops hops
  clear hops
  refine fr_pure (t := 11) (v := .bool true) (w' := w3) h9 rfl rfl rfl (fun K hK => ?_) ?_
  ·have k0 : a9.tmps.getD 5 undef = .int .i64 3 := h9.sl 5 _ rfl
   go_simp
   exact hK
  clear h9; intro a12 hF12
  refine St.go hF12 ?_; clear hF12 a12
  refine sa trivial rfl rfl ?_
  refine St.nil fun a13 h13 => ?_
  refine hK11 _ _ ?_
  refine fr_true (t := 10) h13 rfl ?_
  refine wp_skip ?_
  refine hK10 _ _ ?_
  refine fr_true (t := 10) h13 rfl ?_
  refine wp_skip ?_
  refine hK5 _ _ ?_
  refine wp_seq_k ?_
  intro K14 hK14
  refine fr_region ?_
  intro ops hops
  clear hops
  refine St.go h13 ?_; clear h13 a13
  refine sS 1 8 Try.underlying46 rfl infIns hW3 trivial rfl rfl rfl rfl ?_
  refine sT 0 hW3 rfl rfl infIns rfl rfl rfl ?_
  clear hW3; intro w15 hW15
  refine sa trivial rfl rfl ?_
  refine St.nil fun a16 h16 => ?_
  refine hK14 _ _ ?_
  refine wp_ret ?_
  repeat (first | with_reducible refine of_then_ret ?_ | with_reducible refine of_block_ret ?_)
  have k0 : a16.tmps[2]?.getD undef = .pointer (some ⟨B3, 0, none⟩) := h16.sl2 2 _ rfl
  have k1 : a16.tmps[3]?.getD undef = .bool true := h16.sl2 3 _ rfl
  have c0 : w15.cell? ⟨B3, 0, none⟩ = some (.int .i64 3) := cellOf (hW15.get 0 rfl) 0 _ rfl
  have c1 : w15.cell? ⟨B3, 1, none⟩ = some (.int .i64 xa) := cellOf (hW15.get 0 rfl) 1 _ rfl
  have c2 : w15.cell? ⟨B3, 2, none⟩ = some (.int .i64 xb) := cellOf (hW15.get 0 rfl) 2 _ rfl
  have c3 : w15.cell? ⟨B3, 3, none⟩ = some (.int .i64 xc) := cellOf (hW15.get 0 rfl) 3 _ rfl
  have c4 : w15.cell? ⟨B3, 4, none⟩ = some (.int .i64 xk) := cellOf (hW15.get 0 rfl) 4 _ rfl
  have c5 : w15.cell? ⟨B3, 5, none⟩ = some (.int .i64 xn) := cellOf (hW15.get 0 rfl) 5 _ rfl
  have c6 : w15.cell? ⟨B3, 6, none⟩ = some (.slice ra rl rc) := cellOf (hW15.get 0 rfl) 6 _ rfl
  have c7 : w15.cell? ⟨B3, 7, none⟩ = some (.slice aa al ac) := cellOf (hW15.get 0 rfl) 7 _ rfl
  exact bodyPost_ret (v := .tuple #[.agg #[.int .i64 3, .int .i64 xa, .int .i64 xb, .int .i64 xc, .int .i64 xk, .int .i64 xn, .slice ra rl rc, .slice aa al ac], .bool true]) (by simp [results, Try.results57, go_sem, k0, k1, c0, c1, c2, c3, c4, c5, c6, c7]) h16.defers ⟨rfl, hW15.bel⟩

set_option maxHeartbeats 4000000 in
set_option maxRecDepth 100000 in
theorem wf4 {xa xb xc xk xn : Int} {ra aa : Option Addr} {rl rc al ac : Nat} {w : World} :
    Rd Try.prog 57 #[.agg #[.int .i64 4, .int .i64 xa, .int .i64 xb, .int .i64 xc, .int .i64 xk, .int .i64 xn, .slice ra rl rc, .slice aa al ac]] w (.tuple #[.agg #[.int .i64 4, .int .i64 0, .int .i64 xb, .int .i64 xc, .int .i64 xk, .int .i64 xn, .slice ra rl rc, .slice aa al ac], .bool true]) := by
  refine fr_enter (n := 48) Try.func57 rfl rfl rfl ?_
  intro a hF
  have hW := Wd.start w
  replace hF : Fr 48 a [(0, .agg #[.int .i64 4, .int .i64 xa, .int .i64 xb, .int .i64 xc, .int .i64 xk, .int .i64 xn, .slice ra rl rc, .slice aa al ac])] := hF
  refine wp_seq_k ?_
  intro K1 hK1
  refine fr_region ?_
  intro ops hops
  clear hops
  refine St.go hF ?_; clear hF a
  refine sB hW trivial rfl rfl ?_
  clear hW; intro w2 B2 hW2 hN; clear hN
  refine sAIns hW2 trivial rfl ?_
  clear hW2; intro w3 B3 hW3 hN; clear hN
  refine sa trivial rfl rfl ?_
  refine St.nil fun a4 h4 => ?_
  refine hK1 _ _ ?_
  refine wp_seq_k ?_
  intro K5 hK5
  refine wp_seq_k ?_
  intro K6 hK6
  refine fr_region ?_
  intro ops hops
  clear hops
  refine St.go h4 ?_; clear h4 a4
  refine sfIns0 trivial rfl rfl ?_
  refine sbInt 1 hW3 trivial rfl rfl rfl rfl ?_
  refine St.nil fun a7 h7 => ?_
  refine hK6 _ _ ?_
  refine wp_block ?_
  refine wp_seq_k ?_
  intro K8 hK8
  refine fr_region ?_
  intro ops hops
  clear hops
  refine St.go h7 ?_; clear h7 a7
  refine seq trivial rfl rfl rfl ?_
  refine sa trivial rfl rfl ?_
  refine St.nil fun a9 h9 => ?_
  refine hK8 _ _ ?_
  refine fr_false (t := 7) h9 rfl ?_
  refine wp_seq_k ?_
  intro K10 hK10
  refine wp_seq_k ?_
  intro K11 hK11
  refine fr_region ?_
  intro ops hops
  clear hops
  refine St.go h9 ?_; clear h9 a9
  refine seq trivial rfl rfl rfl ?_
  refine sa trivial rfl rfl ?_
  refine St.nil fun a12 h12 => ?_
  refine hK11 _ _ ?_
  refine fr_false (t := 10) h12 rfl ?_
  refine fr_region ?_
  intro ops hops
  clear hops
  refine St.go h12 ?_; clear h12 a12
  refine seq trivial rfl rfl rfl ?_
  refine sa trivial rfl rfl ?_
  refine St.nil fun a13 h13 => ?_
  refine hK10 _ _ ?_
  refine fr_false (t := 10) h13 rfl ?_
  refine wp_seq_k ?_
  intro K14 hK14
  refine wp_seq_k ?_
  intro K15 hK15
  refine fr_region ?_
  intro ops hops
  clear hops
  refine fr_pure (t := 14) (v := .bool true) (w' := w3) h13 rfl rfl rfl (fun K hK => ?_) ?_
  ·have k0 : a13.tmps.getD 5 undef = .int .i64 4 := h13.sl 5 _ rfl
   go_simp
   exact hK
  clear h13; intro a16 hF16
  refine St.go hF16 ?_; clear hF16 a16
  refine sa trivial rfl rfl ?_
  refine St.nil fun a17 h17 => ?_
  refine hK15 _ _ ?_
  refine fr_true (t := 13) h17 rfl ?_
  refine wp_skip ?_
  refine hK14 _ _ ?_
  refine fr_true (t := 13) h17 rfl ?_
  refine fr_region ?_
  intro ops hops
  clear hops
  refine St.go h17 ?_; clear h17 a17
  refine sfIns1 trivial rfl rfl ?_
  refine s1 1 inf1Int hW3 rfl rfl rfl rfl rfl rfl ?_
  clear hW3; intro w18 hW18
  refine St.nil fun a19 h19 => ?_
  refine hK5 _ _ ?_
  refine wp_seq_k ?_
  intro K20 hK20
  refine fr_region ?_
  intro ops hops
  clear hops
  refine St.go h19 ?_; clear h19 a19
  refine sS 1 8 Try.underlying46 rfl infIns hW18 trivial rfl rfl rfl rfl ?_
  refine sT 0 hW18 rfl rfl infIns rfl rfl rfl ?_
  clear hW18; intro w21 hW21
  refine sa trivial rfl rfl ?_
  refine St.nil fun a22 h22 => ?_
  refine hK20 _ _ ?_
  refine wp_ret ?_
  repeat (first | with_reducible refine of_then_ret ?_ | with_reducible refine of_block_ret ?_)
  have k0 : a22.tmps[2]?.getD undef = .pointer (some ⟨B3, 0, none⟩) := h22.sl2 2 _ rfl
  have k1 : a22.tmps[3]?.getD undef = .bool true := h22.sl2 3 _ rfl
  have c0 : w21.cell? ⟨B3, 0, none⟩ = some (.int .i64 4) := cellOf (hW21.get 0 rfl) 0 _ rfl
  have c1 : w21.cell? ⟨B3, 1, none⟩ = some (.int .i64 0) := cellOf (hW21.get 0 rfl) 1 _ rfl
  have c2 : w21.cell? ⟨B3, 2, none⟩ = some (.int .i64 xb) := cellOf (hW21.get 0 rfl) 2 _ rfl
  have c3 : w21.cell? ⟨B3, 3, none⟩ = some (.int .i64 xc) := cellOf (hW21.get 0 rfl) 3 _ rfl
  have c4 : w21.cell? ⟨B3, 4, none⟩ = some (.int .i64 xk) := cellOf (hW21.get 0 rfl) 4 _ rfl
  have c5 : w21.cell? ⟨B3, 5, none⟩ = some (.int .i64 xn) := cellOf (hW21.get 0 rfl) 5 _ rfl
  have c6 : w21.cell? ⟨B3, 6, none⟩ = some (.slice ra rl rc) := cellOf (hW21.get 0 rfl) 6 _ rfl
  have c7 : w21.cell? ⟨B3, 7, none⟩ = some (.slice aa al ac) := cellOf (hW21.get 0 rfl) 7 _ rfl
  exact bodyPost_ret (v := .tuple #[.agg #[.int .i64 4, .int .i64 0, .int .i64 xb, .int .i64 xc, .int .i64 xk, .int .i64 xn, .slice ra rl rc, .slice aa al ac], .bool true]) (by simp [results, Try.results57, go_sem, k0, k1, c0, c1, c2, c3, c4, c5, c6, c7]) h22.defers ⟨rfl, hW21.bel⟩

set_option maxHeartbeats 4000000 in
set_option maxRecDepth 100000 in
theorem wf5 {xa xb xc xk xn : Int} {ra aa : Option Addr} {rl rc al ac : Nat} {w : World} :
    Rd Try.prog 57 #[.agg #[.int .i64 5, .int .i64 xa, .int .i64 xb, .int .i64 xc, .int .i64 xk, .int .i64 xn, .slice ra rl rc, .slice aa al ac]] w (.tuple #[.agg #[.int .i64 5, .int .i64 0, .int .i64 xb, .int .i64 xc, .int .i64 xk, .int .i64 xn, .slice ra rl rc, .slice none 0 0], .bool true]) := by
  refine fr_enter (n := 48) Try.func57 rfl rfl rfl ?_
  intro a hF
  have hW := Wd.start w
  replace hF : Fr 48 a [(0, .agg #[.int .i64 5, .int .i64 xa, .int .i64 xb, .int .i64 xc, .int .i64 xk, .int .i64 xn, .slice ra rl rc, .slice aa al ac])] := hF
  refine wp_seq_k ?_
  intro K1 hK1
  refine fr_region ?_
  intro ops hops
  clear hops
  refine St.go hF ?_; clear hF a
  refine sB hW trivial rfl rfl ?_
  clear hW; intro w2 B2 hW2 hN; clear hN
  refine sAIns hW2 trivial rfl ?_
  clear hW2; intro w3 B3 hW3 hN; clear hN
  refine sa trivial rfl rfl ?_
  refine St.nil fun a4 h4 => ?_
  refine hK1 _ _ ?_
  refine wp_seq_k ?_
  intro K5 hK5
  refine wp_seq_k ?_
  intro K6 hK6
  refine fr_region ?_
  intro ops hops
  clear hops
  refine St.go h4 ?_; clear h4 a4
  refine sfIns0 trivial rfl rfl ?_
  refine sbInt 1 hW3 trivial rfl rfl rfl rfl ?_
  refine St.nil fun a7 h7 => ?_
  refine hK6 _ _ ?_
  refine wp_block ?_
  refine wp_seq_k ?_
  intro K8 hK8
  refine fr_region ?_
  intro ops hops
  clear hops
  refine St.go h7 ?_; clear h7 a7
  refine seq trivial rfl rfl rfl ?_
  refine sa trivial rfl rfl ?_
  refine St.nil fun a9 h9 => ?_
  refine hK8 _ _ ?_
  refine fr_false (t := 7) h9 rfl ?_
  refine wp_seq_k ?_
  intro K10 hK10
  refine wp_seq_k ?_
  intro K11 hK11
  refine fr_region ?_
  intro ops hops
  clear hops
  refine St.go h9 ?_; clear h9 a9
  refine seq trivial rfl rfl rfl ?_
  refine sa trivial rfl rfl ?_
  refine St.nil fun a12 h12 => ?_
  refine hK11 _ _ ?_
  refine fr_false (t := 10) h12 rfl ?_
  refine fr_region ?_
  intro ops hops
  clear hops
  refine St.go h12 ?_; clear h12 a12
  refine seq trivial rfl rfl rfl ?_
  refine sa trivial rfl rfl ?_
  refine St.nil fun a13 h13 => ?_
  refine hK10 _ _ ?_
  refine fr_false (t := 10) h13 rfl ?_
  refine wp_seq_k ?_
  intro K14 hK14
  refine wp_seq_k ?_
  intro K15 hK15
  refine fr_region ?_
  intro ops hops
  clear hops
  refine St.go h13 ?_; clear h13 a13
  refine seq trivial rfl rfl rfl ?_
  refine sa trivial rfl rfl ?_
  refine St.nil fun a16 h16 => ?_
  refine hK15 _ _ ?_
  refine fr_false (t := 13) h16 rfl ?_
  refine wp_seq_k ?_
  intro K17 hK17
  refine fr_region ?_
  intro ops hops
  clear hops
  refine St.go h16 ?_; clear h16 a16
  refine seq trivial rfl rfl rfl ?_
  refine sa trivial rfl rfl ?_
  refine St.nil fun a18 h18 => ?_
  refine hK17 _ _ ?_
  refine fr_false (t := 13) h18 rfl ?_
  refine fr_region ?_
  intro ops hops
  clear hops
  refine St.go h18 ?_; clear h18 a18
  refine seq trivial rfl rfl rfl ?_
  refine sa trivial rfl rfl ?_
  refine St.nil fun a19 h19 => ?_
  refine hK14 _ _ ?_
  refine fr_false (t := 13) h19 rfl ?_
  refine wp_seq_k ?_
  intro K20 hK20
  refine wp_seq_k ?_
  intro K21 hK21
  refine fr_region ?_
  intro ops hops
  clear hops
  refine St.go h19 ?_; clear h19 a19
  refine seq trivial rfl rfl rfl ?_
  refine sa trivial rfl rfl ?_
  refine St.nil fun a22 h22 => ?_
  refine hK21 _ _ ?_
  refine fr_false (t := 18) h22 rfl ?_
  refine fr_region ?_
  intro ops hops
  clear hops
  refine St.go h22 ?_; clear h22 a22
  refine seq trivial rfl rfl rfl ?_
  refine sa trivial rfl rfl ?_
  refine St.nil fun a23 h23 => ?_
  refine hK20 _ _ ?_
  refine fr_false (t := 18) h23 rfl ?_
  refine wp_seq_k ?_
  intro K24 hK24
  refine fr_region ?_
  intro ops hops
  clear hops
  refine St.go h23 ?_; clear h23 a23
  refine seq trivial rfl rfl rfl ?_
  refine sa trivial rfl rfl ?_
  refine St.nil fun a25 h25 => ?_
  refine hK24 _ _ ?_
  refine fr_false (t := 23) h25 rfl ?_
  refine wp_seq_k ?_
  intro K26 hK26
  refine wp_seq_k ?_
  intro K27 hK27
  refine fr_region ?_
  intro ops hops
  clear hops
  refine St.go h25 ?_; clear h25 a25
  refine seq trivial rfl rfl rfl ?_
  refine sa trivial rfl rfl ?_
  refine St.nil fun a28 h28 => ?_
  refine hK27 _ _ ?_
  refine fr_false (t := 28) h28 rfl ?_
  refine fr_region ?_
  intro ops hops
  clear hops
  refine St.go h28 ?_; clear h28 a28
  refine seq trivial rfl rfl rfl ?_
  refine sa trivial rfl rfl ?_
  refine St.nil fun a29 h29 => ?_
  refine hK26 _ _ ?_
  refine fr_false (t := 28) h29 rfl ?_
  refine wp_seq_k ?_
  intro K30 hK30
  refine fr_region ?_
  intro ops hops
  clear hops
  refine St.go h29 ?_; clear h29 a29
  refine seq trivial rfl rfl rfl ?_
  refine sa trivial rfl rfl ?_
  refine St.nil fun a31 h31 => ?_
  refine hK30 _ _ ?_
  refine fr_false (t := 34) h31 rfl ?_
  refine wp_seq_k ?_
  intro K32 hK32
  refine fr_region ?_
  intro ops hops
  clear hops
  refine fr_pure (t := 39) (v := .bool true) (w' := w3) h31 rfl rfl rfl (fun K hK => ?_) ?_
  ·have k0 : a31.tmps.getD 5 undef = .int .i64 5 := h31.sl 5 _ rfl
   go_simp
   exact hK
  clear h31; intro a33 hF33
  refine St.go hF33 ?_; clear hF33 a33
  refine sa trivial rfl rfl ?_
  refine St.nil fun a34 h34 => ?_
  refine hK32 _ _ ?_
  refine fr_true (t := 38) h34 rfl ?_
  refine fr_region ?_
  intro ops hops
  clear hops
  refine St.go h34 ?_; clear h34 a34
  refine sfIns1 trivial rfl rfl ?_
  refine s1 1 inf1Int hW3 rfl rfl rfl rfl rfl rfl ?_
  clear hW3; intro w35 hW35
  refine sfIns7 trivial rfl rfl ?_
  refine s1 1 inf1Ints hW35 rfl rfl rfl rfl rfl rfl ?_
  clear hW35; intro w36 hW36
  refine St.nil fun a37 h37 => ?_
  refine hK5 _ _ ?_
  refine wp_seq_k ?_
  intro K38 hK38
  refine fr_region ?_
  intro ops hops
  clear hops
  refine St.go h37 ?_; clear h37 a37
  refine sS 1 8 Try.underlying46 rfl infIns hW36 trivial rfl rfl rfl rfl ?_
  refine sT 0 hW36 rfl rfl infIns rfl rfl rfl ?_
  clear hW36; intro w39 hW39
  refine sa trivial rfl rfl ?_
  refine St.nil fun a40 h40 => ?_
  refine hK38 _ _ ?_
  refine wp_ret ?_
  repeat (first | with_reducible refine of_then_ret ?_ | with_reducible refine of_block_ret ?_)
  have k0 : a40.tmps[2]?.getD undef = .pointer (some ⟨B3, 0, none⟩) := h40.sl2 2 _ rfl
  have k1 : a40.tmps[3]?.getD undef = .bool true := h40.sl2 3 _ rfl
  have c0 : w39.cell? ⟨B3, 0, none⟩ = some (.int .i64 5) := cellOf (hW39.get 0 rfl) 0 _ rfl
  have c1 : w39.cell? ⟨B3, 1, none⟩ = some (.int .i64 0) := cellOf (hW39.get 0 rfl) 1 _ rfl
  have c2 : w39.cell? ⟨B3, 2, none⟩ = some (.int .i64 xb) := cellOf (hW39.get 0 rfl) 2 _ rfl
  have c3 : w39.cell? ⟨B3, 3, none⟩ = some (.int .i64 xc) := cellOf (hW39.get 0 rfl) 3 _ rfl
  have c4 : w39.cell? ⟨B3, 4, none⟩ = some (.int .i64 xk) := cellOf (hW39.get 0 rfl) 4 _ rfl
  have c5 : w39.cell? ⟨B3, 5, none⟩ = some (.int .i64 xn) := cellOf (hW39.get 0 rfl) 5 _ rfl
  have c6 : w39.cell? ⟨B3, 6, none⟩ = some (.slice ra rl rc) := cellOf (hW39.get 0 rfl) 6 _ rfl
  have c7 : w39.cell? ⟨B3, 7, none⟩ = some (.slice none 0 0) := cellOf (hW39.get 0 rfl) 7 _ rfl
  exact bodyPost_ret (v := .tuple #[.agg #[.int .i64 5, .int .i64 0, .int .i64 xb, .int .i64 xc, .int .i64 xk, .int .i64 xn, .slice ra rl rc, .slice none 0 0], .bool true]) (by simp [results, Try.results57, go_sem, k0, k1, c0, c1, c2, c3, c4, c5, c6, c7]) h40.defers ⟨rfl, hW39.bel⟩

set_option maxHeartbeats 4000000 in
set_option maxRecDepth 100000 in
theorem wf6 {xa xb xc xk xn : Int} {ra aa : Option Addr} {rl rc al ac : Nat} {w : World} :
    Rd Try.prog 57 #[.agg #[.int .i64 6, .int .i64 xa, .int .i64 xb, .int .i64 xc, .int .i64 xk, .int .i64 xn, .slice ra rl rc, .slice aa al ac]] w (.tuple #[.agg #[.int .i64 6, .int .i64 0, .int .i64 xb, .int .i64 xc, .int .i64 0, .int .i64 xn, .slice ra rl rc, .slice aa al ac], .bool true]) := by
  refine fr_enter (n := 48) Try.func57 rfl rfl rfl ?_
  intro a hF
  have hW := Wd.start w
  replace hF : Fr 48 a [(0, .agg #[.int .i64 6, .int .i64 xa, .int .i64 xb, .int .i64 xc, .int .i64 xk, .int .i64 xn, .slice ra rl rc, .slice aa al ac])] := hF
  refine wp_seq_k ?_
  intro K1 hK1
  refine fr_region ?_
  intro ops hops
  clear hops
  refine St.go hF ?_; clear hF a
  refine sB hW trivial rfl rfl ?_
  clear hW; intro w2 B2 hW2 hN; clear hN
  refine sAIns hW2 trivial rfl ?_
  clear hW2; intro w3 B3 hW3 hN; clear hN
  refine sa trivial rfl rfl ?_
  refine St.nil fun a4 h4 => ?_
  refine hK1 _ _ ?_
  refine wp_seq_k ?_
  intro K5 hK5
  refine wp_seq_k ?_
  intro K6 hK6
  refine fr_region ?_
  intro ops hops
  clear hops
  refine St.go h4 ?_; clear h4 a4
  refine sfIns0 trivial rfl rfl ?_
  refine sbInt 1 hW3 trivial rfl rfl rfl rfl ?_
  refine St.nil fun a7 h7 => ?_
  refine hK6 _ _ ?_
  refine wp_block ?_
  refine wp_seq_k ?_
  intro K8 hK8
  refine fr_region ?_
  intro ops hops
  clear hops
  refine St.go h7 ?_; clear h7 a7
  refine seq trivial rfl rfl rfl ?_
  refine sa trivial rfl rfl ?_
  refine St.nil fun a9 h9 => ?_
  refine hK8 _ _ ?_
  refine fr_false (t := 7) h9 rfl ?_
  refine wp_seq_k ?_
  intro K10 hK10
  refine wp_seq_k ?_
  intro K11 hK11
  refine fr_region ?_
  intro ops hops
  clear hops
  refine St.go h9 ?_; clear h9 a9
  refine seq trivial rfl rfl rfl ?_
  refine sa trivial rfl rfl ?_
  refine St.nil fun a12 h12 => ?_
  refine hK11 _ _ ?_
  refine fr_false (t := 10) h12 rfl ?_
  refine fr_region ?_
  intro ops hops
  clear hops
  refine St.go h12 ?_; clear h12 a12
  refine seq trivial rfl rfl rfl ?_
  refine sa trivial rfl rfl ?_
  refine St.nil fun a13 h13 => ?_
  refine hK10 _ _ ?_
  refine fr_false (t := 10) h13 rfl ?_
  refine wp_seq_k ?_
  intro K14 hK14
  refine wp_seq_k ?_
  intro K15 hK15
  refine fr_region ?_
  intro ops hops
  clear hops
  refine St.go h13 ?_; clear h13 a13
  refine seq trivial rfl rfl rfl ?_
  refine sa trivial rfl rfl ?_
  refine St.nil fun a16 h16 => ?_
  refine hK15 _ _ ?_
  refine fr_false (t := 13) h16 rfl ?_
  refine wp_seq_k ?_
  intro K17 hK17
  refine fr_region ?_
  intro ops hops
  clear hops
  refine St.go h16 ?_; clear h16 a16
  refine seq trivial rfl rfl rfl ?_
  refine sa trivial rfl rfl ?_
  refine St.nil fun a18 h18 => ?_
  refine hK17 _ _ ?_
  refine fr_false (t := 13) h18 rfl ?_
  refine fr_region ?_
  intro ops hops
  clear hops
  refine St.go h18 ?_; clear h18 a18
  refine seq trivial rfl rfl rfl ?_
  refine sa trivial rfl rfl ?_
  refine St.nil fun a19 h19 => ?_
  refine hK14 _ _ ?_
  refine fr_false (t := 13) h19 rfl ?_
  refine wp_seq_k ?_
  intro K20 hK20
  refine wp_seq_k ?_
  intro K21 hK21
  refine fr_region ?_
  intro ops hops
  clear hops
  refine St.go h19 ?_; clear h19 a19
  refine seq trivial rfl rfl rfl ?_
  refine sa trivial rfl rfl ?_
  refine St.nil fun a22 h22 => ?_
  refine hK21 _ _ ?_
  refine fr_false (t := 18) h22 rfl ?_
  refine fr_region ?_
  intro ops hops
  clear hops
  refine St.go h22 ?_; clear h22 a22
  refine seq trivial rfl rfl rfl ?_
  refine sa trivial rfl rfl ?_
  refine St.nil fun a23 h23 => ?_
  refine hK20 _ _ ?_
  refine fr_false (t := 18) h23 rfl ?_
  refine wp_seq_k ?_
  intro K24 hK24
  refine fr_region ?_
  intro ops hops
  clear hops
  refine St.go h23 ?_; clear h23 a23
  refine seq trivial rfl rfl rfl ?_
  refine sa trivial rfl rfl ?_
  refine St.nil fun a25 h25 => ?_
  refine hK24 _ _ ?_
  refine fr_false (t := 23) h25 rfl ?_
  refine wp_seq_k ?_
  intro K26 hK26
  refine wp_seq_k ?_
  intro K27 hK27
  refine fr_region ?_
  intro ops hops
  clear hops
  refine St.go h25 ?_; clear h25 a25
  refine seq trivial rfl rfl rfl ?_
  refine sa trivial rfl rfl ?_
  refine St.nil fun a28 h28 => ?_
  refine hK27 _ _ ?_
  refine fr_false (t := 28) h28 rfl ?_
  refine fr_region ?_
  intro ops hops
  clear hops
  refine St.go h28 ?_; clear h28 a28
  refine seq trivial rfl rfl rfl ?_
  refine sa trivial rfl rfl ?_
  refine St.nil fun a29 h29 => ?_
  refine hK26 _ _ ?_
  refine fr_false (t := 28) h29 rfl ?_
  refine wp_seq_k ?_
  intro K30 hK30
  refine fr_region ?_
  intro ops hops
  clear hops
  refine fr_pure (t := 35) (v := .bool true) (w' := w3) h29 rfl rfl rfl (fun K hK => ?_) ?_
  ·have k0 : a29.tmps.getD 5 undef = .int .i64 6 := h29.sl 5 _ rfl
   go_simp
   exact hK
  clear h29; intro a31 hF31
  refine St.go hF31 ?_; clear hF31 a31
  refine sa trivial rfl rfl ?_
  refine St.nil fun a32 h32 => ?_
  refine hK30 _ _ ?_
  refine fr_true (t := 34) h32 rfl ?_
  refine fr_region ?_
  intro ops hops
  clear hops
  refine St.go h32 ?_; clear h32 a32
  refine sfIns1 trivial rfl rfl ?_
  refine s1 1 inf1Int hW3 rfl rfl rfl rfl rfl rfl ?_
  clear hW3; intro w33 hW33
  refine sfIns4 trivial rfl rfl ?_
  refine s1 1 inf1Int hW33 rfl rfl rfl rfl rfl rfl ?_
  clear hW33; intro w34 hW34
  refine St.nil fun a35 h35 => ?_
  refine hK5 _ _ ?_
  refine wp_seq_k ?_
  intro K36 hK36
  refine fr_region ?_
  intro ops hops
  clear hops
  refine St.go h35 ?_; clear h35 a35
  refine sS 1 8 Try.underlying46 rfl infIns hW34 trivial rfl rfl rfl rfl ?_
  refine sT 0 hW34 rfl rfl infIns rfl rfl rfl ?_
  clear hW34; intro w37 hW37
  refine sa trivial rfl rfl ?_
  refine St.nil fun a38 h38 => ?_
  refine hK36 _ _ ?_
  refine wp_ret ?_
  repeat (first | with_reducible refine of_then_ret ?_ | with_reducible refine of_block_ret ?_)
  have k0 : a38.tmps[2]?.getD undef = .pointer (some ⟨B3, 0, none⟩) := h38.sl2 2 _ rfl
  have k1 : a38.tmps[3]?.getD undef = .bool true := h38.sl2 3 _ rfl
  have c0 : w37.cell? ⟨B3, 0, none⟩ = some (.int .i64 6) := cellOf (hW37.get 0 rfl) 0 _ rfl
  have c1 : w37.cell? ⟨B3, 1, none⟩ = some (.int .i64 0) := cellOf (hW37.get 0 rfl) 1 _ rfl
  have c2 : w37.cell? ⟨B3, 2, none⟩ = some (.int .i64 xb) := cellOf (hW37.get 0 rfl) 2 _ rfl
  have c3 : w37.cell? ⟨B3, 3, none⟩ = some (.int .i64 xc) := cellOf (hW37.get 0 rfl) 3 _ rfl
  have c4 : w37.cell? ⟨B3, 4, none⟩ = some (.int .i64 0) := cellOf (hW37.get 0 rfl) 4 _ rfl
  have c5 : w37.cell? ⟨B3, 5, none⟩ = some (.int .i64 xn) := cellOf (hW37.get 0 rfl) 5 _ rfl
  have c6 : w37.cell? ⟨B3, 6, none⟩ = some (.slice ra rl rc) := cellOf (hW37.get 0 rfl) 6 _ rfl
  have c7 : w37.cell? ⟨B3, 7, none⟩ = some (.slice aa al ac) := cellOf (hW37.get 0 rfl) 7 _ rfl
  exact bodyPost_ret (v := .tuple #[.agg #[.int .i64 6, .int .i64 0, .int .i64 xb, .int .i64 xc, .int .i64 0, .int .i64 xn, .slice ra rl rc, .slice aa al ac], .bool true]) (by simp [results, Try.results57, go_sem, k0, k1, c0, c1, c2, c3, c4, c5, c6, c7]) h38.defers ⟨rfl, hW37.bel⟩

set_option maxHeartbeats 4000000 in
set_option maxRecDepth 100000 in
theorem wf7 {xa xb xc xk xn : Int} {ra aa : Option Addr} {rl rc al ac : Nat} {w : World} :
    Rd Try.prog 57 #[.agg #[.int .i64 7, .int .i64 xa, .int .i64 xb, .int .i64 xc, .int .i64 xk, .int .i64 xn, .slice ra rl rc, .slice aa al ac]] w (.tuple #[.agg #[.int .i64 7, .int .i64 0, .int .i64 0, .int .i64 xc, .int .i64 0, .int .i64 xn, .slice ra rl rc, .slice aa al ac], .bool true]) := by
  refine fr_enter (n := 48) Try.func57 rfl rfl rfl ?_
  intro a hF
  have hW := Wd.start w
  replace hF : Fr 48 a [(0, .agg #[.int .i64 7, .int .i64 xa, .int .i64 xb, .int .i64 xc, .int .i64 xk, .int .i64 xn, .slice ra rl rc, .slice aa al ac])] := hF
  refine wp_seq_k ?_
  intro K1 hK1
  refine fr_region ?_
  intro ops hops
  clear hops
  refine St.go hF ?_; clear hF a
  refine sB hW trivial rfl rfl ?_
  clear hW; intro w2 B2 hW2 hN; clear hN
  refine sAIns hW2 trivial rfl ?_
  clear hW2; intro w3 B3 hW3 hN; clear hN
  refine sa trivial rfl rfl ?_
  refine St.nil fun a4 h4 => ?_
  refine hK1 _ _ ?_
  refine wp_seq_k ?_
  intro K5 hK5
  refine wp_seq_k ?_
  intro K6 hK6
  refine fr_region ?_
  intro ops hops
  clear hops
  refine St.go h4 ?_; clear h4 a4
  refine sfIns0 trivial rfl rfl ?_
  refine sbInt 1 hW3 trivial rfl rfl rfl rfl ?_
  refine St.nil fun a7 h7 => ?_
  refine hK6 _ _ ?_
  refine wp_block ?_
  refine wp_seq_k ?_
  intro K8 hK8
  refine fr_region ?_
  intro ops hops
  clear hops
  refine St.go h7 ?_; clear h7 a7
  refine seq trivial rfl rfl rfl ?_
  refine sa trivial rfl rfl ?_
  refine St.nil fun a9 h9 => ?_
  refine hK8 _ _ ?_
  refine fr_false (t := 7) h9 rfl ?_
  refine wp_seq_k ?_
  intro K10 hK10
  refine wp_seq_k ?_
  intro K11 hK11
  refine fr_region ?_
  intro ops hops
  clear hops
  refine St.go h9 ?_; clear h9 a9
  refine seq trivial rfl rfl rfl ?_
  refine sa trivial rfl rfl ?_
  refine St.nil fun a12 h12 => ?_
  refine hK11 _ _ ?_
  refine fr_false (t := 10) h12 rfl ?_
  refine fr_region ?_
  intro ops hops
  clear hops
  refine St.go h12 ?_; clear h12 a12
  refine seq trivial rfl rfl rfl ?_
  refine sa trivial rfl rfl ?_
  refine St.nil fun a13 h13 => ?_
  refine hK10 _ _ ?_
  refine fr_false (t := 10) h13 rfl ?_
  refine wp_seq_k ?_
  intro K14 hK14
  refine wp_seq_k ?_
  intro K15 hK15
  refine fr_region ?_
  intro ops hops
  clear hops
  refine St.go h13 ?_; clear h13 a13
  refine seq trivial rfl rfl rfl ?_
  refine sa trivial rfl rfl ?_
  refine St.nil fun a16 h16 => ?_
  refine hK15 _ _ ?_
  refine fr_false (t := 13) h16 rfl ?_
  refine wp_seq_k ?_
  intro K17 hK17
  refine fr_region ?_
  intro ops hops
  clear hops
  refine St.go h16 ?_; clear h16 a16
  refine seq trivial rfl rfl rfl ?_
  refine sa trivial rfl rfl ?_
  refine St.nil fun a18 h18 => ?_
  refine hK17 _ _ ?_
  refine fr_false (t := 13) h18 rfl ?_
  refine fr_region ?_
  intro ops hops
  clear hops
  refine St.go h18 ?_; clear h18 a18
  refine seq trivial rfl rfl rfl ?_
  refine sa trivial rfl rfl ?_
  refine St.nil fun a19 h19 => ?_
  refine hK14 _ _ ?_
  refine fr_false (t := 13) h19 rfl ?_
  refine wp_seq_k ?_
  intro K20 hK20
  refine wp_seq_k ?_
  intro K21 hK21
  refine fr_region ?_
  intro ops hops
  clear hops
  refine St.go h19 ?_; clear h19 a19
  refine seq trivial rfl rfl rfl ?_
  refine sa trivial rfl rfl ?_
  refine St.nil fun a22 h22 => ?_
  refine hK21 _ _ ?_
  refine fr_false (t := 18) h22 rfl ?_
  refine fr_region ?_
  intro ops hops
  clear hops
  refine St.go h22 ?_; clear h22 a22
  refine seq trivial rfl rfl rfl ?_
  refine sa trivial rfl rfl ?_
  refine St.nil fun a23 h23 => ?_
  refine hK20 _ _ ?_
  refine fr_false (t := 18) h23 rfl ?_
  refine wp_seq_k ?_
  intro K24 hK24
  refine fr_region ?_
  intro ops hops
  clear hops
  refine St.go h23 ?_; clear h23 a23
  refine seq trivial rfl rfl rfl ?_
  refine sa trivial rfl rfl ?_
  refine St.nil fun a25 h25 => ?_
  refine hK24 _ _ ?_
  refine fr_false (t := 23) h25 rfl ?_
  refine wp_seq_k ?_
  intro K26 hK26
  refine wp_seq_k ?_
  intro K27 hK27
  refine fr_region ?_
  intro ops hops
  clear hops
  refine St.go h25 ?_; clear h25 a25
  refine seq trivial rfl rfl rfl ?_
  refine sa trivial rfl rfl ?_
  refine St.nil fun a28 h28 => ?_
  refine hK27 _ _ ?_
  refine fr_false (t := 28) h28 rfl ?_
  refine fr_region ?_
  intro ops hops
  clear hops
  refine fr_pure (t := 30) (v := .bool true) (w' := w3) h28 rfl rfl rfl (fun K hK => ?_) ?_
  ·have k0 : a28.tmps.getD 5 undef = .int .i64 7 := h28.sl 5 _ rfl
   go_simp
   exact hK
  clear h28; intro a29 hF29
  refine St.go hF29 ?_; clear hF29 a29
  refine sa trivial rfl rfl ?_
  refine St.nil fun a30 h30 => ?_
  refine hK26 _ _ ?_
  refine fr_true (t := 28) h30 rfl ?_
  refine fr_region ?_
  intro ops hops
  clear hops
  refine St.go h30 ?_; clear h30 a30
  refine sfIns1 trivial rfl rfl ?_
  refine s1 1 inf1Int hW3 rfl rfl rfl rfl rfl rfl ?_
  clear hW3; intro w31 hW31
  refine sfIns2 trivial rfl rfl ?_
  refine s1 1 inf1Int hW31 rfl rfl rfl rfl rfl rfl ?_
  clear hW31; intro w32 hW32
  refine sfIns4 trivial rfl rfl ?_
  refine s1 1 inf1Int hW32 rfl rfl rfl rfl rfl rfl ?_
  clear hW32; intro w33 hW33
  refine St.nil fun a34 h34 => ?_
  refine hK5 _ _ ?_
  refine wp_seq_k ?_
  intro K35 hK35
  refine fr_region ?_
  intro ops hops
  clear hops
  refine St.go h34 ?_; clear h34 a34
  refine sS 1 8 Try.underlying46 rfl infIns hW33 trivial rfl rfl rfl rfl ?_
  refine sT 0 hW33 rfl rfl infIns rfl rfl rfl ?_
  clear hW33; intro w36 hW36
  refine sa trivial rfl rfl ?_
  refine St.nil fun a37 h37 => ?_
  refine hK35 _ _ ?_
  refine wp_ret ?_
  repeat (first | with_reducible refine of_then_ret ?_ | with_reducible refine of_block_ret ?_)
  have k0 : a37.tmps[2]?.getD undef = .pointer (some ⟨B3, 0, none⟩) := h37.sl2 2 _ rfl
  have k1 : a37.tmps[3]?.getD undef = .bool true := h37.sl2 3 _ rfl
  have c0 : w36.cell? ⟨B3, 0, none⟩ = some (.int .i64 7) := cellOf (hW36.get 0 rfl) 0 _ rfl
  have c1 : w36.cell? ⟨B3, 1, none⟩ = some (.int .i64 0) := cellOf (hW36.get 0 rfl) 1 _ rfl
  have c2 : w36.cell? ⟨B3, 2, none⟩ = some (.int .i64 0) := cellOf (hW36.get 0 rfl) 2 _ rfl
  have c3 : w36.cell? ⟨B3, 3, none⟩ = some (.int .i64 xc) := cellOf (hW36.get 0 rfl) 3 _ rfl
  have c4 : w36.cell? ⟨B3, 4, none⟩ = some (.int .i64 0) := cellOf (hW36.get 0 rfl) 4 _ rfl
  have c5 : w36.cell? ⟨B3, 5, none⟩ = some (.int .i64 xn) := cellOf (hW36.get 0 rfl) 5 _ rfl
  have c6 : w36.cell? ⟨B3, 6, none⟩ = some (.slice ra rl rc) := cellOf (hW36.get 0 rfl) 6 _ rfl
  have c7 : w36.cell? ⟨B3, 7, none⟩ = some (.slice aa al ac) := cellOf (hW36.get 0 rfl) 7 _ rfl
  exact bodyPost_ret (v := .tuple #[.agg #[.int .i64 7, .int .i64 0, .int .i64 0, .int .i64 xc, .int .i64 0, .int .i64 xn, .slice ra rl rc, .slice aa al ac], .bool true]) (by simp [results, Try.results57, go_sem, k0, k1, c0, c1, c2, c3, c4, c5, c6, c7]) h37.defers ⟨rfl, hW36.bel⟩

set_option maxHeartbeats 4000000 in
set_option maxRecDepth 100000 in
theorem wf8 {xa xb xc xk xn : Int} {ra aa : Option Addr} {rl rc al ac : Nat} {w : World} :
    Rd Try.prog 57 #[.agg #[.int .i64 8, .int .i64 xa, .int .i64 xb, .int .i64 xc, .int .i64 xk, .int .i64 xn, .slice ra rl rc, .slice aa al ac]] w (.tuple #[.agg #[.int .i64 8, .int .i64 0, .int .i64 0, .int .i64 xc, .int .i64 xk, .int .i64 xn, .slice ra rl rc, .slice aa al ac], .bool true]) := by
  refine fr_enter (n := 48) Try.func57 rfl rfl rfl ?_
  intro a hF
  have hW := Wd.start w
  replace hF : Fr 48 a [(0, .agg #[.int .i64 8, .int .i64 xa, .int .i64 xb, .int .i64 xc, .int .i64 xk, .int .i64 xn, .slice ra rl rc, .slice aa al ac])] := hF
  refine wp_seq_k ?_
  intro K1 hK1
  refine fr_region ?_
  intro ops hops
  clear hops
  refine St.go hF ?_; clear hF a
  refine sB hW trivial rfl rfl ?_
  clear hW; intro w2 B2 hW2 hN; clear hN
  refine sAIns hW2 trivial rfl ?_
  clear hW2; intro w3 B3 hW3 hN; clear hN
  refine sa trivial rfl rfl ?_
  refine St.nil fun a4 h4 => ?_
  refine hK1 _ _ ?_
  refine wp_seq_k ?_
  intro K5 hK5
  refine wp_seq_k ?_
  intro K6 hK6
  refine fr_region ?_
  intro ops hops
  clear hops
  refine St.go h4 ?_; clear h4 a4
  refine sfIns0 trivial rfl rfl ?_
  refine sbInt 1 hW3 trivial rfl rfl rfl rfl ?_
  refine St.nil fun a7 h7 => ?_
  refine hK6 _ _ ?_
  refine wp_block ?_
  refine wp_seq_k ?_
  intro K8 hK8
  refine fr_region ?_
  intro ops hops
  clear hops
  refine St.go h7 ?_; clear h7 a7
  refine seq trivial rfl rfl rfl ?_
  refine sa trivial rfl rfl ?_
  refine St.nil fun a9 h9 => ?_
  refine hK8 _ _ ?_
  refine fr_false (t := 7) h9 rfl ?_
  refine wp_seq_k ?_
  intro K10 hK10
  refine wp_seq_k ?_
  intro K11 hK11
  refine fr_region ?_
  intro ops hops
  clear hops
  refine St.go h9 ?_; clear h9 a9
  refine seq trivial rfl rfl rfl ?_
  refine sa trivial rfl rfl ?_
  refine St.nil fun a12 h12 => ?_
  refine hK11 _ _ ?_
  refine fr_false (t := 10) h12 rfl ?_
  refine fr_region ?_
  intro ops hops
  clear hops
  refine St.go h12 ?_; clear h12 a12
  refine seq trivial rfl rfl rfl ?_
  refine sa trivial rfl rfl ?_
  refine St.nil fun a13 h13 => ?_
  refine hK10 _ _ ?_
  refine fr_false (t := 10) h13 rfl ?_
  refine wp_seq_k ?_
  intro K14 hK14
  refine wp_seq_k ?_
  intro K15 hK15
  refine fr_region ?_
  intro ops hops
  clear hops
  refine St.go h13 ?_; clear h13 a13
  refine seq trivial rfl rfl rfl ?_
  refine sa trivial rfl rfl ?_
  refine St.nil fun a16 h16 => ?_
  refine hK15 _ _ ?_
  refine fr_false (t := 13) h16 rfl ?_
  refine wp_seq_k ?_
  intro K17 hK17
  refine fr_region ?_
  intro ops hops
  clear hops
  refine St.go h16 ?_; clear h16 a16
  refine seq trivial rfl rfl rfl ?_
  refine sa trivial rfl rfl ?_
  refine St.nil fun a18 h18 => ?_
  refine hK17 _ _ ?_
  refine fr_false (t := 13) h18 rfl ?_
  refine fr_region ?_
  intro ops hops
  clear hops
  refine St.go h18 ?_; clear h18 a18
  refine seq trivial rfl rfl rfl ?_
  refine sa trivial rfl rfl ?_
  refine St.nil fun a19 h19 => ?_
  refine hK14 _ _ ?_
  refine fr_false (t := 13) h19 rfl ?_
  refine wp_seq_k ?_
  intro K20 hK20
  refine wp_seq_k ?_
  intro K21 hK21
  refine fr_region ?_
  intro ops hops
  clear hops
  refine fr_pure (t := 19) (v := .bool true) (w' := w3) h19 rfl rfl rfl (fun K hK => ?_) ?_
  ·have k0 : a19.tmps.getD 5 undef = .int .i64 8 := h19.sl 5 _ rfl
   go_simp
   exact hK
  clear h19; intro a22 hF22
  refine St.go hF22 ?_; clear hF22 a22
  refine sa trivial rfl rfl ?_
  refine St.nil fun a23 h23 => ?_
  refine hK21 _ _ ?_
  refine fr_true (t := 18) h23 rfl ?_
  refine wp_skip ?_
  refine hK20 _ _ ?_
  refine fr_true (t := 18) h23 rfl ?_
  refine fr_region ?_
  intro ops hops
  clear hops
  refine St.go h23 ?_; clear h23 a23
  refine sfIns1 trivial rfl rfl ?_
  refine s1 1 inf1Int hW3 rfl rfl rfl rfl rfl rfl ?_
  clear hW3; intro w24 hW24
  refine sfIns2 trivial rfl rfl ?_
  refine s1 1 inf1Int hW24 rfl rfl rfl rfl rfl rfl ?_
  clear hW24; intro w25 hW25
  refine St.nil fun a26 h26 => ?_
  refine hK5 _ _ ?_
  refine wp_seq_k ?_
  intro K27 hK27
  refine fr_region ?_
  intro ops hops
  clear hops
  refine St.go h26 ?_; clear h26 a26
  refine sS 1 8 Try.underlying46 rfl infIns hW25 trivial rfl rfl rfl rfl ?_
  refine sT 0 hW25 rfl rfl infIns rfl rfl rfl ?_
  clear hW25; intro w28 hW28
  refine sa trivial rfl rfl ?_
  refine St.nil fun a29 h29 => ?_
  refine hK27 _ _ ?_
  refine wp_ret ?_
  repeat (first | with_reducible refine of_then_ret ?_ | with_reducible refine of_block_ret ?_)
  have k0 : a29.tmps[2]?.getD undef = .pointer (some ⟨B3, 0, none⟩) := h29.sl2 2 _ rfl
  have k1 : a29.tmps[3]?.getD undef = .bool true := h29.sl2 3 _ rfl
  have c0 : w28.cell? ⟨B3, 0, none⟩ = some (.int .i64 8) := cellOf (hW28.get 0 rfl) 0 _ rfl
  have c1 : w28.cell? ⟨B3, 1, none⟩ = some (.int .i64 0) := cellOf (hW28.get 0 rfl) 1 _ rfl
  have c2 : w28.cell? ⟨B3, 2, none⟩ = some (.int .i64 0) := cellOf (hW28.get 0 rfl) 2 _ rfl
  have c3 : w28.cell? ⟨B3, 3, none⟩ = some (.int .i64 xc) := cellOf (hW28.get 0 rfl) 3 _ rfl
  have c4 : w28.cell? ⟨B3, 4, none⟩ = some (.int .i64 xk) := cellOf (hW28.get 0 rfl) 4 _ rfl
  have c5 : w28.cell? ⟨B3, 5, none⟩ = some (.int .i64 xn) := cellOf (hW28.get 0 rfl) 5 _ rfl
  have c6 : w28.cell? ⟨B3, 6, none⟩ = some (.slice ra rl rc) := cellOf (hW28.get 0 rfl) 6 _ rfl
  have c7 : w28.cell? ⟨B3, 7, none⟩ = some (.slice aa al ac) := cellOf (hW28.get 0 rfl) 7 _ rfl
  exact bodyPost_ret (v := .tuple #[.agg #[.int .i64 8, .int .i64 0, .int .i64 0, .int .i64 xc, .int .i64 xk, .int .i64 xn, .slice ra rl rc, .slice aa al ac], .bool true]) (by simp [results, Try.results57, go_sem, k0, k1, c0, c1, c2, c3, c4, c5, c6, c7]) h29.defers ⟨rfl, hW28.bel⟩

set_option maxHeartbeats 4000000 in
set_option maxRecDepth 100000 in
theorem wf9 {xa xb xc xk xn : Int} {ra aa : Option Addr} {rl rc al ac : Nat} {w : World} :
    Rd Try.prog 57 #[.agg #[.int .i64 9, .int .i64 xa, .int .i64 xb, .int .i64 xc, .int .i64 xk, .int .i64 xn, .slice ra rl rc, .slice aa al ac]] w (.tuple #[.agg #[.int .i64 9, .int .i64 0, .int .i64 0, .int .i64 xc, .int .i64 xk, .int .i64 xn, .slice ra rl rc, .slice aa al ac], .bool true]) := by
  refine fr_enter (n := 48) Try.func57 rfl rfl rfl ?_
  intro a hF
  have hW := Wd.start w
  replace hF : Fr 48 a [(0, .agg #[.int .i64 9, .int .i64 xa, .int .i64 xb, .int .i64 xc, .int .i64 xk, .int .i64 xn, .slice ra rl rc, .slice aa al ac])] := hF
  refine wp_seq_k ?_
  intro K1 hK1
  refine fr_region ?_
  intro ops hops
  clear hops
  refine St.go hF ?_; clear hF a
  refine sB hW trivial rfl rfl ?_
  clear hW; intro w2 B2 hW2 hN; clear hN
  refine sAIns hW2 trivial rfl ?_
  clear hW2; intro w3 B3 hW3 hN; clear hN
  refine sa trivial rfl rfl ?_
  refine St.nil fun a4 h4 => ?_
  refine hK1 _ _ ?_
  refine wp_seq_k ?_
  intro K5 hK5
  refine wp_seq_k ?_
  intro K6 hK6
  refine fr_region ?_
  intro ops hops
  clear hops
  refine St.go h4 ?_; clear h4 a4
  refine sfIns0 trivial rfl rfl ?_
  refine sbInt 1 hW3 trivial rfl rfl rfl rfl ?_
  refine St.nil fun a7 h7 => ?_
  refine hK6 _ _ ?_
  refine wp_block ?_
  refine wp_seq_k ?_
  intro K8 hK8
  refine fr_region ?_
  intro ops hops
  clear hops
  refine St.go h7 ?_; clear h7 a7
  refine seq trivial rfl rfl rfl ?_
  refine sa trivial rfl rfl ?_
  refine St.nil fun a9 h9 => ?_
  refine hK8 _ _ ?_
  refine fr_false (t := 7) h9 rfl ?_
  refine wp_seq_k ?_
  intro K10 hK10
  refine wp_seq_k ?_
  intro K11 hK11
  refine fr_region ?_
  intro ops hops
  clear hops
  refine St.go h9 ?_; clear h9 a9
  refine seq trivial rfl rfl rfl ?_
  refine sa trivial rfl rfl ?_
  refine St.nil fun a12 h12 => ?_
  refine hK11 _ _ ?_
  refine fr_false (t := 10) h12 rfl ?_
  refine fr_region ?_
  intro ops hops
  clear hops
  refine St.go h12 ?_; clear h12 a12
  refine seq trivial rfl rfl rfl ?_
  refine sa trivial rfl rfl ?_
  refine St.nil fun a13 h13 => ?_
  refine hK10 _ _ ?_
  refine fr_false (t := 10) h13 rfl ?_
  refine wp_seq_k ?_
  intro K14 hK14
  refine wp_seq_k ?_
  intro K15 hK15
  refine fr_region ?_
  intro ops hops
  clear hops
  refine St.go h13 ?_; clear h13 a13
  refine seq trivial rfl rfl rfl ?_
  refine sa trivial rfl rfl ?_
  refine St.nil fun a16 h16 => ?_
  refine hK15 _ _ ?_
  refine fr_false (t := 13) h16 rfl ?_
  refine wp_seq_k ?_
  intro K17 hK17
  refine fr_region ?_
  intro ops hops
  clear hops
  refine St.go h16 ?_; clear h16 a16
  refine seq trivial rfl rfl rfl ?_
  refine sa trivial rfl rfl ?_
  refine St.nil fun a18 h18 => ?_
  refine hK17 _ _ ?_
  refine fr_false (t := 13) h18 rfl ?_
  refine fr_region ?_
  intro ops hops
  clear hops
  refine St.go h18 ?_; clear h18 a18
  refine seq trivial rfl rfl rfl ?_
  refine sa trivial rfl rfl ?_
  refine St.nil fun a19 h19 => ?_
  refine hK14 _ _ ?_
  refine fr_false (t := 13) h19 rfl ?_
  refine wp_seq_k ?_
  intro K20 hK20
  refine wp_seq_k ?_
  intro K21 hK21
  refine fr_region ?_
  intro ops hops
  clear hops
  refine St.go h19 ?_; clear h19 a19
  refine seq trivial rfl rfl rfl ?_
  refine sa trivial rfl rfl ?_
  refine St.nil fun a22 h22 => ?_
  refine hK21 _ _ ?_
  refine fr_false (t := 18) h22 rfl ?_
  refine fr_region ?_
  intro ops hops
  clear hops
  refine fr_pure (t := 20) (v := .bool true) (w' := w3) h22 rfl rfl rfl (fun K hK => ?_) ?_
  ·have k0 : a22.tmps.getD 5 undef = .int .i64 9 := h22.sl 5 _ rfl
   go_simp
   exact hK
  clear h22; intro a23 hF23
  refine St.go hF23 ?_; clear hF23 a23
  refine sa trivial rfl rfl ?_
  refine St.nil fun a24 h24 => ?_
  refine hK20 _ _ ?_
  refine fr_true (t := 18) h24 rfl ?_
  refine fr_region ?_
  intro ops hops
  clear hops
  refine St.go h24 ?_; clear h24 a24
  refine sfIns1 trivial rfl rfl ?_
  refine s1 1 inf1Int hW3 rfl rfl rfl rfl rfl rfl ?_
  clear hW3; intro w25 hW25
  refine sfIns2 trivial rfl rfl ?_
  refine s1 1 inf1Int hW25 rfl rfl rfl rfl rfl rfl ?_
  clear hW25; intro w26 hW26
  refine St.nil fun a27 h27 => ?_
  refine hK5 _ _ ?_
  refine wp_seq_k ?_
  intro K28 hK28
  refine fr_region ?_
  intro ops hops
  clear hops
  refine St.go h27 ?_; clear h27 a27
  refine sS 1 8 Try.underlying46 rfl infIns hW26 trivial rfl rfl rfl rfl ?_
  refine sT 0 hW26 rfl rfl infIns rfl rfl rfl ?_
  clear hW26; intro w29 hW29
  refine sa trivial rfl rfl ?_
  refine St.nil fun a30 h30 => ?_
  refine hK28 _ _ ?_
  refine wp_ret ?_
  repeat (first | with_reducible refine of_then_ret ?_ | with_reducible refine of_block_ret ?_)
  have k0 : a30.tmps[2]?.getD undef = .pointer (some ⟨B3, 0, none⟩) := h30.sl2 2 _ rfl
  have k1 : a30.tmps[3]?.getD undef = .bool true := h30.sl2 3 _ rfl
  have c0 : w29.cell? ⟨B3, 0, none⟩ = some (.int .i64 9) := cellOf (hW29.get 0 rfl) 0 _ rfl
  have c1 : w29.cell? ⟨B3, 1, none⟩ = some (.int .i64 0) := cellOf (hW29.get 0 rfl) 1 _ rfl
  have c2 : w29.cell? ⟨B3, 2, none⟩ = some (.int .i64 0) := cellOf (hW29.get 0 rfl) 2 _ rfl
  have c3 : w29.cell? ⟨B3, 3, none⟩ = some (.int .i64 xc) := cellOf (hW29.get 0 rfl) 3 _ rfl
  have c4 : w29.cell? ⟨B3, 4, none⟩ = some (.int .i64 xk) := cellOf (hW29.get 0 rfl) 4 _ rfl
  have c5 : w29.cell? ⟨B3, 5, none⟩ = some (.int .i64 xn) := cellOf (hW29.get 0 rfl) 5 _ rfl
  have c6 : w29.cell? ⟨B3, 6, none⟩ = some (.slice ra rl rc) := cellOf (hW29.get 0 rfl) 6 _ rfl
  have c7 : w29.cell? ⟨B3, 7, none⟩ = some (.slice aa al ac) := cellOf (hW29.get 0 rfl) 7 _ rfl
  exact bodyPost_ret (v := .tuple #[.agg #[.int .i64 9, .int .i64 0, .int .i64 0, .int .i64 xc, .int .i64 xk, .int .i64 xn, .slice ra rl rc, .slice aa al ac], .bool true]) (by simp [results, Try.results57, go_sem, k0, k1, c0, c1, c2, c3, c4, c5, c6, c7]) h30.defers ⟨rfl, hW29.bel⟩

set_option maxHeartbeats 4000000 in
set_option maxRecDepth 100000 in
theorem wf10 {xa xb xc xk xn : Int} {ra aa : Option Addr} {rl rc al ac : Nat} {w : World} :
    Rd Try.prog 57 #[.agg #[.int .i64 10, .int .i64 xa, .int .i64 xb, .int .i64 xc, .int .i64 xk, .int .i64 xn, .slice ra rl rc, .slice aa al ac]] w (.tuple #[.agg #[.int .i64 10, .int .i64 0, .int .i64 0, .int .i64 0, .int .i64 xk, .int .i64 xn, .slice ra rl rc, .slice aa al ac], .bool true]) := by
  refine fr_enter (n := 48) Try.func57 rfl rfl rfl ?_
  intro a hF
  have hW := Wd.start w
  replace hF : Fr 48 a [(0, .agg #[.int .i64 10, .int .i64 xa, .int .i64 xb, .int .i64 xc, .int .i64 xk, .int .i64 xn, .slice ra rl rc, .slice aa al ac])] := hF
  refine wp_seq_k ?_
  intro K1 hK1
  refine fr_region ?_
  intro ops hops
  clear hops
  refine St.go hF ?_; clear hF a
  refine sB hW trivial rfl rfl ?_
  clear hW; intro w2 B2 hW2 hN; clear hN
  refine sAIns hW2 trivial rfl ?_
  clear hW2; intro w3 B3 hW3 hN; clear hN
  refine sa trivial rfl rfl ?_
  refine St.nil fun a4 h4 => ?_
  refine hK1 _ _ ?_
  refine wp_seq_k ?_
  intro K5 hK5
  refine wp_seq_k ?_
  intro K6 hK6
  refine fr_region ?_
  intro ops hops
  clear hops
  refine St.go h4 ?_; clear h4 a4
  refine sfIns0 trivial rfl rfl ?_
  refine sbInt 1 hW3 trivial rfl rfl rfl rfl ?_
  refine St.nil fun a7 h7 => ?_
  refine hK6 _ _ ?_
  refine wp_block ?_
  refine wp_seq_k ?_
  intro K8 hK8
  refine fr_region ?_
  intro ops hops
  clear hops
  refine St.go h7 ?_; clear h7 a7
  refine seq trivial rfl rfl rfl ?_
  refine sa trivial rfl rfl ?_
  refine St.nil fun a9 h9 => ?_
  refine hK8 _ _ ?_
  refine fr_false (t := 7) h9 rfl ?_
  refine wp_seq_k ?_
  intro K10 hK10
  refine wp_seq_k ?_
  intro K11 hK11
  refine fr_region ?_
  intro ops hops
  clear hops
  refine St.go h9 ?_; clear h9 a9
  refine seq trivial rfl rfl rfl ?_
  refine sa trivial rfl rfl ?_
  refine St.nil fun a12 h12 => ?_
  refine hK11 _ _ ?_
  refine fr_false (t := 10) h12 rfl ?_
  refine fr_region ?_
  intro ops hops
  clear hops
  refine St.go h12 ?_; clear h12 a12
  refine seq trivial rfl rfl rfl ?_
  refine sa trivial rfl rfl ?_
  refine St.nil fun a13 h13 => ?_
  refine hK10 _ _ ?_
  refine fr_false (t := 10) h13 rfl ?_
  refine wp_seq_k ?_
  intro K14 hK14
  refine wp_seq_k ?_
  intro K15 hK15
  refine fr_region ?_
  intro ops hops
  clear hops
  refine St.go h13 ?_; clear h13 a13
  refine seq trivial rfl rfl rfl ?_
  refine sa trivial rfl rfl ?_
  refine St.nil fun a16 h16 => ?_
  refine hK15 _ _ ?_
  refine fr_false (t := 13) h16 rfl ?_
  refine wp_seq_k ?_
  intro K17 hK17
  refine fr_region ?_
  intro ops hops
  clear hops
  refine St.go h16 ?_; clear h16 a16
  refine seq trivial rfl rfl rfl ?_
  refine sa trivial rfl rfl ?_
  refine St.nil fun a18 h18 => ?_
  refine hK17 _ _ ?_
  refine fr_false (t := 13) h18 rfl ?_
  refine fr_region ?_
  intro ops hops
  clear hops
  refine St.go h18 ?_; clear h18 a18
  refine seq trivial rfl rfl rfl ?_
  refine sa trivial rfl rfl ?_
  refine St.nil fun a19 h19 => ?_
  refine hK14 _ _ ?_
  refine fr_false (t := 13) h19 rfl ?_
  refine wp_seq_k ?_
  intro K20 hK20
  refine wp_seq_k ?_
  intro K21 hK21
  refine fr_region ?_
  intro ops hops
  clear hops
  refine St.go h19 ?_; clear h19 a19
  refine seq trivial rfl rfl rfl ?_
  refine sa trivial rfl rfl ?_
  refine St.nil fun a22 h22 => ?_
  refine hK21 _ _ ?_
  refine fr_false (t := 18) h22 rfl ?_
  refine fr_region ?_
  intro ops hops
  clear hops
  refine St.go h22 ?_; clear h22 a22
  refine seq trivial rfl rfl rfl ?_
  refine sa trivial rfl rfl ?_
  refine St.nil fun a23 h23 => ?_
  refine hK20 _ _ ?_
  refine fr_false (t := 18) h23 rfl ?_
  refine wp_seq_k ?_
  intro K24 hK24
  refine fr_region ?_
  intro ops hops
  clear hops
  refine fr_pure (t := 24) (v := .bool true) (w' := w3) h23 rfl rfl rfl (fun K hK => ?_) ?_
  ·have k0 : a23.tmps.getD 5 undef = .int .i64 10 := h23.sl 5 _ rfl
   go_simp
   exact hK
  clear h23; intro a25 hF25
  refine St.go hF25 ?_; clear hF25 a25
  refine sa trivial rfl rfl ?_
  refine St.nil fun a26 h26 => ?_
  refine hK24 _ _ ?_
  refine fr_true (t := 23) h26 rfl ?_
  refine fr_region ?_
  intro ops hops
  clear hops
  refine St.go h26 ?_; clear h26 a26
  refine sfIns1 trivial rfl rfl ?_
  refine s1 1 inf1Int hW3 rfl rfl rfl rfl rfl rfl ?_
  clear hW3; intro w27 hW27
  refine sfIns2 trivial rfl rfl ?_
  refine s1 1 inf1Int hW27 rfl rfl rfl rfl rfl rfl ?_
  clear hW27; intro w28 hW28
  refine sfIns3 trivial rfl rfl ?_
  refine s1 1 inf1Int hW28 rfl rfl rfl rfl rfl rfl ?_
  clear hW28; intro w29 hW29
  refine St.nil fun a30 h30 => ?_
  refine hK5 _ _ ?_
  refine wp_seq_k ?_
  intro K31 hK31
  refine fr_region ?_
  intro ops hops
  clear hops
  refine St.go h30 ?_; clear h30 a30
  refine sS 1 8 Try.underlying46 rfl infIns hW29 trivial rfl rfl rfl rfl ?_
  refine sT 0 hW29 rfl rfl infIns rfl rfl rfl ?_
  clear hW29; intro w32 hW32
  refine sa trivial rfl rfl ?_
  refine St.nil fun a33 h33 => ?_
  refine hK31 _ _ ?_
  refine wp_ret ?_
  repeat (first | with_reducible refine of_then_ret ?_ | with_reducible refine of_block_ret ?_)
  have k0 : a33.tmps[2]?.getD undef = .pointer (some ⟨B3, 0, none⟩) := h33.sl2 2 _ rfl
  have k1 : a33.tmps[3]?.getD undef = .bool true := h33.sl2 3 _ rfl
  have c0 : w32.cell? ⟨B3, 0, none⟩ = some (.int .i64 10) := cellOf (hW32.get 0 rfl) 0 _ rfl
  have c1 : w32.cell? ⟨B3, 1, none⟩ = some (.int .i64 0) := cellOf (hW32.get 0 rfl) 1 _ rfl
  have c2 : w32.cell? ⟨B3, 2, none⟩ = some (.int .i64 0) := cellOf (hW32.get 0 rfl) 2 _ rfl
  have c3 : w32.cell? ⟨B3, 3, none⟩ = some (.int .i64 0) := cellOf (hW32.get 0 rfl) 3 _ rfl
  have c4 : w32.cell? ⟨B3, 4, none⟩ = some (.int .i64 xk) := cellOf (hW32.get 0 rfl) 4 _ rfl
  have c5 : w32.cell? ⟨B3, 5, none⟩ = some (.int .i64 xn) := cellOf (hW32.get 0 rfl) 5 _ rfl
  have c6 : w32.cell? ⟨B3, 6, none⟩ = some (.slice ra rl rc) := cellOf (hW32.get 0 rfl) 6 _ rfl
  have c7 : w32.cell? ⟨B3, 7, none⟩ = some (.slice aa al ac) := cellOf (hW32.get 0 rfl) 7 _ rfl
  exact bodyPost_ret (v := .tuple #[.agg #[.int .i64 10, .int .i64 0, .int .i64 0, .int .i64 0, .int .i64 xk, .int .i64 xn, .slice ra rl rc, .slice aa al ac], .bool true]) (by simp [results, Try.results57, go_sem, k0, k1, c0, c1, c2, c3, c4, c5, c6, c7]) h33.defers ⟨rfl, hW32.bel⟩

set_option maxHeartbeats 4000000 in
set_option maxRecDepth 100000 in
theorem wf11 {xa xb xc xk xn : Int} {ra aa : Option Addr} {rl rc al ac : Nat} {w : World} :
    Rd Try.prog 57 #[.agg #[.int .i64 11, .int .i64 xa, .int .i64 xb, .int .i64 xc, .int .i64 xk, .int .i64 xn, .slice ra rl rc, .slice aa al ac]] w (.tuple #[.agg #[.int .i64 11, .int .i64 0, .int .i64 xb, .int .i64 xc, .int .i64 xk, .int .i64 xn, .slice ra rl rc, .slice aa al ac], .bool true]) := by
  refine fr_enter (n := 48) Try.func57 rfl rfl rfl ?_
  intro a hF
  have hW := Wd.start w
  replace hF : Fr 48 a [(0, .agg #[.int .i64 11, .int .i64 xa, .int .i64 xb, .int .i64 xc, .int .i64 xk, .int .i64 xn, .slice ra rl rc, .slice aa al ac])] := hF
  refine wp_seq_k ?_
  intro K1 hK1
  refine fr_region ?_
  intro ops hops
  clear hops
  refine St.go hF ?_; clear hF a
  refine sB hW trivial rfl rfl ?_
  clear hW; intro w2 B2 hW2 hN; clear hN
  refine sAIns hW2 trivial rfl ?_
  clear hW2; intro w3 B3 hW3 hN; clear hN
  refine sa trivial rfl rfl ?_
  refine St.nil fun a4 h4 => ?_
  refine hK1 _ _ ?_
  refine wp_seq_k ?_
  intro K5 hK5
  refine wp_seq_k ?_
  intro K6 hK6
  refine fr_region ?_
  intro ops hops
  clear hops
  refine St.go h4 ?_; clear h4 a4
  refine sfIns0 trivial rfl rfl ?_
  refine sbInt 1 hW3 trivial rfl rfl rfl rfl ?_
  refine St.nil fun a7 h7 => ?_
  refine hK6 _ _ ?_
  refine wp_block ?_
  refine wp_seq_k ?_
  intro K8 hK8
  refine fr_region ?_
  intro ops hops
  clear hops
  refine St.go h7 ?_; clear h7 a7
  refine seq trivial rfl rfl rfl ?_
  refine sa trivial rfl rfl ?_
  refine St.nil fun a9 h9 => ?_
  refine hK8 _ _ ?_
  refine fr_false (t := 7) h9 rfl ?_
  refine wp_seq_k ?_
  intro K10 hK10
  refine wp_seq_k ?_
  intro K11 hK11
  refine fr_region ?_
  intro ops hops
  clear hops
  refine St.go h9 ?_; clear h9 a9
  refine seq trivial rfl rfl rfl ?_
  refine sa trivial rfl rfl ?_
  refine St.nil fun a12 h12 => ?_
  refine hK11 _ _ ?_
  refine fr_false (t := 10) h12 rfl ?_
  refine fr_region ?_
  intro ops hops
  clear hops
  refine St.go h12 ?_; clear h12 a12
  refine seq trivial rfl rfl rfl ?_
  refine sa trivial rfl rfl ?_
  refine St.nil fun a13 h13 => ?_
  refine hK10 _ _ ?_
  refine fr_false (t := 10) h13 rfl ?_
  refine wp_seq_k ?_
  intro K14 hK14
  refine wp_seq_k ?_
  intro K15 hK15
  refine fr_region ?_
  intro ops hops
  clear hops
  refine St.go h13 ?_; clear h13 a13
  refine seq trivial rfl rfl rfl ?_
  refine sa trivial rfl rfl ?_
  refine St.nil fun a16 h16 => ?_
  refine hK15 _ _ ?_
  refine fr_false (t := 13) h16 rfl ?_
  refine wp_seq_k ?_
  intro K17 hK17
  refine fr_region ?_
  intro ops hops
  clear hops
  refine fr_pure (t := 15) (v := .bool true) (w' := w3) h16 rfl rfl rfl (fun K hK => ?_) ?_
  ·have k0 : a16.tmps.getD 5 undef = .int .i64 11 := h16.sl 5 _ rfl
   go_simp
   exact hK
  clear h16; intro a18 hF18
  refine St.go hF18 ?_; clear hF18 a18
  refine sa trivial rfl rfl ?_
  refine St.nil fun a19 h19 => ?_
  refine hK17 _ _ ?_
  refine fr_true (t := 13) h19 rfl ?_
  refine wp_skip ?_
  refine hK14 _ _ ?_
  refine fr_true (t := 13) h19 rfl ?_
  refine fr_region ?_
  intro ops hops
  clear hops
  refine St.go h19 ?_; clear h19 a19
  refine sfIns1 trivial rfl rfl ?_
  refine s1 1 inf1Int hW3 rfl rfl rfl rfl rfl rfl ?_
  clear hW3; intro w20 hW20
  refine St.nil fun a21 h21 => ?_
  refine hK5 _ _ ?_
  refine wp_seq_k ?_
  intro K22 hK22
  refine fr_region ?_
  intro ops hops
  clear hops
  refine St.go h21 ?_; clear h21 a21
  refine sS 1 8 Try.underlying46 rfl infIns hW20 trivial rfl rfl rfl rfl ?_
  refine sT 0 hW20 rfl rfl infIns rfl rfl rfl ?_
  clear hW20; intro w23 hW23
  refine sa trivial rfl rfl ?_
  refine St.nil fun a24 h24 => ?_
  refine hK22 _ _ ?_
  refine wp_ret ?_
  repeat (first | with_reducible refine of_then_ret ?_ | with_reducible refine of_block_ret ?_)
  have k0 : a24.tmps[2]?.getD undef = .pointer (some ⟨B3, 0, none⟩) := h24.sl2 2 _ rfl
  have k1 : a24.tmps[3]?.getD undef = .bool true := h24.sl2 3 _ rfl
  have c0 : w23.cell? ⟨B3, 0, none⟩ = some (.int .i64 11) := cellOf (hW23.get 0 rfl) 0 _ rfl
  have c1 : w23.cell? ⟨B3, 1, none⟩ = some (.int .i64 0) := cellOf (hW23.get 0 rfl) 1 _ rfl
  have c2 : w23.cell? ⟨B3, 2, none⟩ = some (.int .i64 xb) := cellOf (hW23.get 0 rfl) 2 _ rfl
  have c3 : w23.cell? ⟨B3, 3, none⟩ = some (.int .i64 xc) := cellOf (hW23.get 0 rfl) 3 _ rfl
  have c4 : w23.cell? ⟨B3, 4, none⟩ = some (.int .i64 xk) := cellOf (hW23.get 0 rfl) 4 _ rfl
  have c5 : w23.cell? ⟨B3, 5, none⟩ = some (.int .i64 xn) := cellOf (hW23.get 0 rfl) 5 _ rfl
  have c6 : w23.cell? ⟨B3, 6, none⟩ = some (.slice ra rl rc) := cellOf (hW23.get 0 rfl) 6 _ rfl
  have c7 : w23.cell? ⟨B3, 7, none⟩ = some (.slice aa al ac) := cellOf (hW23.get 0 rfl) 7 _ rfl
  exact bodyPost_ret (v := .tuple #[.agg #[.int .i64 11, .int .i64 0, .int .i64 xb, .int .i64 xc, .int .i64 xk, .int .i64 xn, .slice ra rl rc, .slice aa al ac], .bool true]) (by simp [results, Try.results57, go_sem, k0, k1, c0, c1, c2, c3, c4, c5, c6, c7]) h24.defers ⟨rfl, hW23.bel⟩

set_option maxHeartbeats 4000000 in
set_option maxRecDepth 100000 in
theorem wf12 {xa xb xc xk xn : Int} {ra aa : Option Addr} {rl rc al ac : Nat} {w : World} :
    Rd Try.prog 57 #[.agg #[.int .i64 12, .int .i64 xa, .int .i64 xb, .int .i64 xc, .int .i64 xk, .int .i64 xn, .slice ra rl rc, .slice aa al ac]] w (.tuple #[.agg #[.int .i64 12, .int .i64 xa, .int .i64 xb, .int .i64 xc, .int .i64 xk, .int .i64 xn, .slice ra rl rc, .slice aa al ac], .bool true]) := by
  refine fr_enter (n := 48) Try.func57 rfl rfl rfl ?_
  intro a hF
  have hW := Wd.start w
  replace hF : Fr 48 a [(0, .agg #[.int .i64 12, .int .i64 xa, .int .i64 xb, .int .i64 xc, .int .i64 xk, .int .i64 xn, .slice ra rl rc, .slice aa al ac])] := hF
  refine wp_seq_k ?_
  intro K1 hK1
  refine fr_region ?_
  intro ops hops
  clear hops
  refine St.go hF ?_; clear hF a
  refine sB hW trivial rfl rfl ?_
  clear hW; intro w2 B2 hW2 hN; clear hN
  refine sAIns hW2 trivial rfl ?_
  clear hW2; intro w3 B3 hW3 hN; clear hN
  refine sa trivial rfl rfl ?_
  refine St.nil fun a4 h4 => ?_
  refine hK1 _ _ ?_
  refine wp_seq_k ?_
  intro K5 hK5
  refine wp_seq_k ?_
  intro K6 hK6
  refine fr_region ?_
  intro ops hops
  clear hops
  refine St.go h4 ?_; clear h4 a4
  refine sfIns0 trivial rfl rfl ?_
  refine sbInt 1 hW3 trivial rfl rfl rfl rfl ?_
  refine St.nil fun a7 h7 => ?_
  refine hK6 _ _ ?_
  refine wp_block ?_
  refine wp_seq_k ?_
  intro K8 hK8
  refine fr_region ?_
  intro ops hops
  clear hops
  refine St.go h7 ?_; clear h7 a7
  refine seq trivial rfl rfl rfl ?_
  refine sa trivial rfl rfl ?_
  refine St.nil fun a9 h9 => ?_
  refine hK8 _ _ ?_
  refine fr_false (t := 7) h9 rfl ?_
  refine wp_seq_k ?_
  intro K10 hK10
  refine wp_seq_k ?_
  intro K11 hK11
  refine fr_region ?_
  intro ops hops
  clear hops
  refine St.go h9 ?_; clear h9 a9
  refine seq trivial rfl rfl rfl ?_
  refine sa trivial rfl rfl ?_
  refine St.nil fun a12 h12 => ?_
  refine hK11 _ _ ?_
  refine fr_false (t := 10) h12 rfl ?_
  refine fr_region ?_
  intro ops hops
  clear hops
  refine fr_pure (t := 12) (v := .bool true) (w' := w3) h12 rfl rfl rfl (fun K hK => ?_) ?_
  ·have k0 : a12.tmps.getD 5 undef = .int .i64 12 := h12.sl 5 _ rfl
   go_simp
   exact hK
  clear h12; intro a13 hF13
  refine St.go hF13 ?_; clear hF13 a13
  refine sa trivial rfl rfl ?_
  refine St.nil fun a14 h14 => ?_
  refine hK10 _ _ ?_
  refine fr_true (t := 10) h14 rfl ?_
  refine wp_skip ?_
  refine hK5 _ _ ?_
  refine wp_seq_k ?_
  intro K15 hK15
  refine fr_region ?_
  intro ops hops
  clear hops
  refine St.go h14 ?_; clear h14 a14
  refine sS 1 8 Try.underlying46 rfl infIns hW3 trivial rfl rfl rfl rfl ?_
  refine sT 0 hW3 rfl rfl infIns rfl rfl rfl ?_
  clear hW3; intro w16 hW16
  refine sa trivial rfl rfl ?_
  refine St.nil fun a17 h17 => ?_
  refine hK15 _ _ ?_
  refine wp_ret ?_
  repeat (first | with_reducible refine of_then_ret ?_ | with_reducible refine of_block_ret ?_)
  have k0 : a17.tmps[2]?.getD undef = .pointer (some ⟨B3, 0, none⟩) := h17.sl2 2 _ rfl
  have k1 : a17.tmps[3]?.getD undef = .bool true := h17.sl2 3 _ rfl
  have c0 : w16.cell? ⟨B3, 0, none⟩ = some (.int .i64 12) := cellOf (hW16.get 0 rfl) 0 _ rfl
  have c1 : w16.cell? ⟨B3, 1, none⟩ = some (.int .i64 xa) := cellOf (hW16.get 0 rfl) 1 _ rfl
  have c2 : w16.cell? ⟨B3, 2, none⟩ = some (.int .i64 xb) := cellOf (hW16.get 0 rfl) 2 _ rfl
  have c3 : w16.cell? ⟨B3, 3, none⟩ = some (.int .i64 xc) := cellOf (hW16.get 0 rfl) 3 _ rfl
  have c4 : w16.cell? ⟨B3, 4, none⟩ = some (.int .i64 xk) := cellOf (hW16.get 0 rfl) 4 _ rfl
  have c5 : w16.cell? ⟨B3, 5, none⟩ = some (.int .i64 xn) := cellOf (hW16.get 0 rfl) 5 _ rfl
  have c6 : w16.cell? ⟨B3, 6, none⟩ = some (.slice ra rl rc) := cellOf (hW16.get 0 rfl) 6 _ rfl
  have c7 : w16.cell? ⟨B3, 7, none⟩ = some (.slice aa al ac) := cellOf (hW16.get 0 rfl) 7 _ rfl
  exact bodyPost_ret (v := .tuple #[.agg #[.int .i64 12, .int .i64 xa, .int .i64 xb, .int .i64 xc, .int .i64 xk, .int .i64 xn, .slice ra rl rc, .slice aa al ac], .bool true]) (by simp [results, Try.results57, go_sem, k0, k1, c0, c1, c2, c3, c4, c5, c6, c7]) h17.defers ⟨rfl, hW16.bel⟩

set_option maxHeartbeats 4000000 in
set_option maxRecDepth 100000 in
theorem wf13 {xa xb xc xk xn : Int} {ra aa : Option Addr} {rl rc al ac : Nat} {w : World} :
    Rd Try.prog 57 #[.agg #[.int .i64 13, .int .i64 xa, .int .i64 xb, .int .i64 xc, .int .i64 xk, .int .i64 xn, .slice ra rl rc, .slice aa al ac]] w (.tuple #[.agg #[.int .i64 13, .int .i64 0, .int .i64 xb, .int .i64 xc, .int .i64 xk, .int .i64 xn, .slice ra rl rc, .slice aa al ac], .bool true]) := by
  refine fr_enter (n := 48) Try.func57 rfl rfl rfl ?_
  intro a hF
  have hW := Wd.start w
  replace hF : Fr 48 a [(0, .agg #[.int .i64 13, .int .i64 xa, .int .i64 xb, .int .i64 xc, .int .i64 xk, .int .i64 xn, .slice ra rl rc, .slice aa al ac])] := hF
  refine wp_seq_k ?_
  intro K1 hK1
  refine fr_region ?_
  intro ops hops
  clear hops
  refine St.go hF ?_; clear hF a
  refine sB hW trivial rfl rfl ?_
  clear hW; intro w2 B2 hW2 hN; clear hN
  refine sAIns hW2 trivial rfl ?_
  clear hW2; intro w3 B3 hW3 hN; clear hN
  refine sa trivial rfl rfl ?_
  refine St.nil fun a4 h4 => ?_
  refine hK1 _ _ ?_
  refine wp_seq_k ?_
  intro K5 hK5
  refine wp_seq_k ?_
  intro K6 hK6
  refine fr_region ?_
  intro ops hops
  clear hops
  refine St.go h4 ?_; clear h4 a4
  refine sfIns0 trivial rfl rfl ?_
  refine sbInt 1 hW3 trivial rfl rfl rfl rfl ?_
  refine St.nil fun a7 h7 => ?_
  refine hK6 _ _ ?_
  refine wp_block ?_
  refine wp_seq_k ?_
  intro K8 hK8
  refine fr_region ?_
  intro ops hops
  clear hops
  refine St.go h7 ?_; clear h7 a7
  refine seq trivial rfl rfl rfl ?_
  refine sa trivial rfl rfl ?_
  refine St.nil fun a9 h9 => ?_
  refine hK8 _ _ ?_
  refine fr_false (t := 7) h9 rfl ?_
  refine wp_seq_k ?_
  intro K10 hK10
  refine wp_seq_k ?_
  intro K11 hK11
  refine fr_region ?_
  intro ops hops
  clear hops
  refine St.go h9 ?_; clear h9 a9
  refine seq trivial rfl rfl rfl ?_
  refine sa trivial rfl rfl ?_
  refine St.nil fun a12 h12 => ?_
  refine hK11 _ _ ?_
  refine fr_false (t := 10) h12 rfl ?_
  refine fr_region ?_
  intro ops hops
  clear hops
  refine St.go h12 ?_; clear h12 a12
  refine seq trivial rfl rfl rfl ?_
  refine sa trivial rfl rfl ?_
  refine St.nil fun a13 h13 => ?_
  refine hK10 _ _ ?_
  refine fr_false (t := 10) h13 rfl ?_
  refine wp_seq_k ?_
  intro K14 hK14
  refine wp_seq_k ?_
  intro K15 hK15
  refine fr_region ?_
  intro ops hops
  clear hops
  refine St.go h13 ?_; clear h13 a13
  refine seq trivial rfl rfl rfl ?_
  refine sa trivial rfl rfl ?_
  refine St.nil fun a16 h16 => ?_
  refine hK15 _ _ ?_
  refine fr_false (t := 13) h16 rfl ?_
  refine wp_seq_k ?_
  intro K17 hK17
  refine fr_region ?_
  intro ops hops
  clear hops
  refine St.go h16 ?_; clear h16 a16
  refine seq trivial rfl rfl rfl ?_
  refine sa trivial rfl rfl ?_
  refine St.nil fun a18 h18 => ?_
  refine hK17 _ _ ?_
  refine fr_false (t := 13) h18 rfl ?_
  refine fr_region ?_
  intro ops hops
  clear hops
  refine fr_pure (t := 16) (v := .bool true) (w' := w3) h18 rfl rfl rfl (fun K hK => ?_) ?_
  ·have k0 : a18.tmps.getD 5 undef = .int .i64 13 := h18.sl 5 _ rfl
   go_simp
   exact hK
  clear h18; intro a19 hF19
  refine St.go hF19 ?_; clear hF19 a19
  refine sa trivial rfl rfl ?_
  refine St.nil fun a20 h20 => ?_
  refine hK14 _ _ ?_
  refine fr_true (t := 13) h20 rfl ?_
  refine fr_region ?_
  intro ops hops
  clear hops
  refine St.go h20 ?_; clear h20 a20
  refine sfIns1 trivial rfl rfl ?_
  refine s1 1 inf1Int hW3 rfl rfl rfl rfl rfl rfl ?_
  clear hW3; intro w21 hW21
  refine St.nil fun a22 h22 => ?_
  refine hK5 _ _ ?_
  refine wp_seq_k ?_
  intro K23 hK23
  refine fr_region ?_
  intro ops hops
  clear hops
  refine St.go h22 ?_; clear h22 a22
  refine sS 1 8 Try.underlying46 rfl infIns hW21 trivial rfl rfl rfl rfl ?_
  refine sT 0 hW21 rfl rfl infIns rfl rfl rfl ?_
  clear hW21; intro w24 hW24
  refine sa trivial rfl rfl ?_
  refine St.nil fun a25 h25 => ?_
  refine hK23 _ _ ?_
  refine wp_ret ?_
  repeat (first | with_reducible refine of_then_ret ?_ | with_reducible refine of_block_ret ?_)
  have k0 : a25.tmps[2]?.getD undef = .pointer (some ⟨B3, 0, none⟩) := h25.sl2 2 _ rfl
  have k1 : a25.tmps[3]?.getD undef = .bool true := h25.sl2 3 _ rfl
  have c0 : w24.cell? ⟨B3, 0, none⟩ = some (.int .i64 13) := cellOf (hW24.get 0 rfl) 0 _ rfl
  have c1 : w24.cell? ⟨B3, 1, none⟩ = some (.int .i64 0) := cellOf (hW24.get 0 rfl) 1 _ rfl
  have c2 : w24.cell? ⟨B3, 2, none⟩ = some (.int .i64 xb) := cellOf (hW24.get 0 rfl) 2 _ rfl
  have c3 : w24.cell? ⟨B3, 3, none⟩ = some (.int .i64 xc) := cellOf (hW24.get 0 rfl) 3 _ rfl
  have c4 : w24.cell? ⟨B3, 4, none⟩ = some (.int .i64 xk) := cellOf (hW24.get 0 rfl) 4 _ rfl
  have c5 : w24.cell? ⟨B3, 5, none⟩ = some (.int .i64 xn) := cellOf (hW24.get 0 rfl) 5 _ rfl
  have c6 : w24.cell? ⟨B3, 6, none⟩ = some (.slice ra rl rc) := cellOf (hW24.get 0 rfl) 6 _ rfl
  have c7 : w24.cell? ⟨B3, 7, none⟩ = some (.slice aa al ac) := cellOf (hW24.get 0 rfl) 7 _ rfl
  exact bodyPost_ret (v := .tuple #[.agg #[.int .i64 13, .int .i64 0, .int .i64 xb, .int .i64 xc, .int .i64 xk, .int .i64 xn, .slice ra rl rc, .slice aa al ac], .bool true]) (by simp [results, Try.results57, go_sem, k0, k1, c0, c1, c2, c3, c4, c5, c6, c7]) h25.defers ⟨rfl, hW24.bel⟩

set_option maxHeartbeats 4000000 in
set_option maxRecDepth 100000 in
theorem wf14 {xa xb xc xk xn : Int} {ra aa : Option Addr} {rl rc al ac : Nat} {w : World} :
    Rd Try.prog 57 #[.agg #[.int .i64 14, .int .i64 xa, .int .i64 xb, .int .i64 xc, .int .i64 xk, .int .i64 xn, .slice ra rl rc, .slice aa al ac]] w (.tuple #[.agg #[.int .i64 14, .int .i64 xa, .int .i64 xb, .int .i64 xc, .int .i64 0, .int .i64 xn, .slice none 0 0, .slice none 0 0], .bool true]) := by
  refine fr_enter (n := 48) Try.func57 rfl rfl rfl ?_
  intro a hF
  have hW := Wd.start w
  replace hF : Fr 48 a [(0, .agg #[.int .i64 14, .int .i64 xa, .int .i64 xb, .int .i64 xc, .int .i64 xk, .int .i64 xn, .slice ra rl rc, .slice aa al ac])] := hF
  refine wp_seq_k ?_
  intro K1 hK1
  refine fr_region ?_
  intro ops hops
  clear hops
  refine St.go hF ?_; clear hF a
  refine sB hW trivial rfl rfl ?_
  clear hW; intro w2 B2 hW2 hN; clear hN
  refine sAIns hW2 trivial rfl ?_
  clear hW2; intro w3 B3 hW3 hN; clear hN
  refine sa trivial rfl rfl ?_
  refine St.nil fun a4 h4 => ?_
  refine hK1 _ _ ?_
  refine wp_seq_k ?_
  intro K5 hK5
  refine wp_seq_k ?_
  intro K6 hK6
  refine fr_region ?_
  intro ops hops
  clear hops
  refine St.go h4 ?_; clear h4 a4
  refine sfIns0 trivial rfl rfl ?_
  refine sbInt 1 hW3 trivial rfl rfl rfl rfl ?_
  refine St.nil fun a7 h7 => ?_
  refine hK6 _ _ ?_
  refine wp_block ?_
  refine wp_seq_k ?_
  intro K8 hK8
  refine fr_region ?_
  intro ops hops
  clear hops
  refine St.go h7 ?_; clear h7 a7
  refine seq trivial rfl rfl rfl ?_
  refine sa trivial rfl rfl ?_
  refine St.nil fun a9 h9 => ?_
  refine hK8 _ _ ?_
  refine fr_false (t := 7) h9 rfl ?_
  refine wp_seq_k ?_
  intro K10 hK10
  refine wp_seq_k ?_
  intro K11 hK11
  refine fr_region ?_
  intro ops hops
  clear hops
  refine St.go h9 ?_; clear h9 a9
  refine seq trivial rfl rfl rfl ?_
  refine sa trivial rfl rfl ?_
  refine St.nil fun a12 h12 => ?_
  refine hK11 _ _ ?_
  refine fr_false (t := 10) h12 rfl ?_
  refine fr_region ?_
  intro ops hops
  clear hops
  refine St.go h12 ?_; clear h12 a12
  refine seq trivial rfl rfl rfl ?_
  refine sa trivial rfl rfl ?_
  refine St.nil fun a13 h13 => ?_
  refine hK10 _ _ ?_
  refine fr_false (t := 10) h13 rfl ?_
  refine wp_seq_k ?_
  intro K14 hK14
  refine wp_seq_k ?_
  intro K15 hK15
  refine fr_region ?_
  intro ops hops
  clear hops
  refine St.go h13 ?_; clear h13 a13
  refine seq trivial rfl rfl rfl ?_
  refine sa trivial rfl rfl ?_
  refine St.nil fun a16 h16 => ?_
  refine hK15 _ _ ?_
  refine fr_false (t := 13) h16 rfl ?_
  refine wp_seq_k ?_
  intro K17 hK17
  refine fr_region ?_
  intro ops hops
  clear hops
  refine St.go h16 ?_; clear h16 a16
  refine seq trivial rfl rfl rfl ?_
  refine sa trivial rfl rfl ?_
  refine St.nil fun a18 h18 => ?_
  refine hK17 _ _ ?_
  refine fr_false (t := 13) h18 rfl ?_
  refine fr_region ?_
  intro ops hops
  clear hops
  refine St.go h18 ?_; clear h18 a18
  refine seq trivial rfl rfl rfl ?_
  refine sa trivial rfl rfl ?_
  refine St.nil fun a19 h19 => ?_
  refine hK14 _ _ ?_
  refine fr_false (t := 13) h19 rfl ?_
  refine wp_seq_k ?_
  intro K20 hK20
  refine wp_seq_k ?_
  intro K21 hK21
  refine fr_region ?_
  intro ops hops
  clear hops
  refine St.go h19 ?_; clear h19 a19
  refine seq trivial rfl rfl rfl ?_
  refine sa trivial rfl rfl ?_
  refine St.nil fun a22 h22 => ?_
  refine hK21 _ _ ?_
  refine fr_false (t := 18) h22 rfl ?_
  refine fr_region ?_
  intro ops hops
  clear hops
  refine St.go h22 ?_; clear h22 a22
  refine seq trivial rfl rfl rfl ?_
  refine sa trivial rfl rfl ?_
  refine St.nil fun a23 h23 => ?_
  refine hK20 _ _ ?_
  refine fr_false (t := 18) h23 rfl ?_
  refine wp_seq_k ?_
  intro K24 hK24
  refine fr_region ?_
  intro ops hops
  clear hops
  refine St.go h23 ?_; clear h23 a23
  refine seq trivial rfl rfl rfl ?_
  refine sa trivial rfl rfl ?_
  refine St.nil fun a25 h25 => ?_
  refine hK24 _ _ ?_
  refine fr_false (t := 23) h25 rfl ?_
  refine wp_seq_k ?_
  intro K26 hK26
  refine wp_seq_k ?_
  intro K27 hK27
  refine fr_region ?_
  intro ops hops
  clear hops
  refine St.go h25 ?_; clear h25 a25
  refine seq trivial rfl rfl rfl ?_
  refine sa trivial rfl rfl ?_
  refine St.nil fun a28 h28 => ?_
  refine hK27 _ _ ?_
  refine fr_false (t := 28) h28 rfl ?_
  refine fr_region ?_
  intro ops hops
  clear hops
  refine St.go h28 ?_; clear h28 a28
  refine seq trivial rfl rfl rfl ?_
  refine sa trivial rfl rfl ?_
  refine St.nil fun a29 h29 => ?_
  refine hK26 _ _ ?_
  refine fr_false (t := 28) h29 rfl ?_
  refine wp_seq_k ?_
  intro K30 hK30
  refine fr_region ?_
  intro ops hops
  clear hops
  refine St.go h29 ?_; clear h29 a29
  refine seq trivial rfl rfl rfl ?_
  refine sa trivial rfl rfl ?_
  refine St.nil fun a31 h31 => ?_
  refine hK30 _ _ ?_
  refine fr_false (t := 34) h31 rfl ?_
  refine wp_seq_k ?_
  intro K32 hK32
  refine fr_region ?_
  intro ops hops
  clear hops
  refine St.go h31 ?_; clear h31 a31
  refine seq trivial rfl rfl rfl ?_
  refine sa trivial rfl rfl ?_
  refine St.nil fun a33 h33 => ?_
  refine hK32 _ _ ?_
  refine fr_false (t := 38) h33 rfl ?_
  refine wp_seq_k ?_
  intro K34 hK34
  refine fr_region ?_
  intro ops hops
  clear hops
  refine fr_pure (t := 43) (v := .bool true) (w' := w3) h33 rfl rfl rfl (fun K hK => ?_) ?_
  ·have k0 : a33.tmps.getD 5 undef = .int .i64 14 := h33.sl 5 _ rfl
   go_simp
   exact hK
  clear h33; intro a35 hF35
  refine St.go hF35 ?_; clear hF35 a35
  refine sa trivial rfl rfl ?_
  refine St.nil fun a36 h36 => ?_
  refine hK34 _ _ ?_
  refine fr_true (t := 42) h36 rfl ?_
  refine fr_region ?_
  intro ops hops
  clear hops
  refine St.go h36 ?_; clear h36 a36
  refine sfIns4 trivial rfl rfl ?_
  refine s1 1 inf1Int hW3 rfl rfl rfl rfl rfl rfl ?_
  clear hW3; intro w37 hW37
  refine sfIns6 trivial rfl rfl ?_
  refine s1 1 inf1Ints hW37 rfl rfl rfl rfl rfl rfl ?_
  clear hW37; intro w38 hW38
  refine sfIns7 trivial rfl rfl ?_
  refine s1 1 inf1Ints hW38 rfl rfl rfl rfl rfl rfl ?_
  clear hW38; intro w39 hW39
  refine St.nil fun a40 h40 => ?_
  refine hK5 _ _ ?_
  refine wp_seq_k ?_
  intro K41 hK41
  refine fr_region ?_
  intro ops hops
  clear hops
  refine St.go h40 ?_; clear h40 a40
  refine sS 1 8 Try.underlying46 rfl infIns hW39 trivial rfl rfl rfl rfl ?_
  refine sT 0 hW39 rfl rfl infIns rfl rfl rfl ?_
  clear hW39; intro w42 hW42
  refine sa trivial rfl rfl ?_
  refine St.nil fun a43 h43 => ?_
  refine hK41 _ _ ?_
  refine wp_ret ?_
  repeat (first | with_reducible refine of_then_ret ?_ | with_reducible refine of_block_ret ?_)
  have k0 : a43.tmps[2]?.getD undef = .pointer (some ⟨B3, 0, none⟩) := h43.sl2 2 _ rfl
  have k1 : a43.tmps[3]?.getD undef = .bool true := h43.sl2 3 _ rfl
  have c0 : w42.cell? ⟨B3, 0, none⟩ = some (.int .i64 14) := cellOf (hW42.get 0 rfl) 0 _ rfl
  have c1 : w42.cell? ⟨B3, 1, none⟩ = some (.int .i64 xa) := cellOf (hW42.get 0 rfl) 1 _ rfl
  have c2 : w42.cell? ⟨B3, 2, none⟩ = some (.int .i64 xb) := cellOf (hW42.get 0 rfl) 2 _ rfl
  have c3 : w42.cell? ⟨B3, 3, none⟩ = some (.int .i64 xc) := cellOf (hW42.get 0 rfl) 3 _ rfl
  have c4 : w42.cell? ⟨B3, 4, none⟩ = some (.int .i64 0) := cellOf (hW42.get 0 rfl) 4 _ rfl
  have c5 : w42.cell? ⟨B3, 5, none⟩ = some (.int .i64 xn) := cellOf (hW42.get 0 rfl) 5 _ rfl
  have c6 : w42.cell? ⟨B3, 6, none⟩ = some (.slice none 0 0) := cellOf (hW42.get 0 rfl) 6 _ rfl
  have c7 : w42.cell? ⟨B3, 7, none⟩ = some (.slice none 0 0) := cellOf (hW42.get 0 rfl) 7 _ rfl
  exact bodyPost_ret (v := .tuple #[.agg #[.int .i64 14, .int .i64 xa, .int .i64 xb, .int .i64 xc, .int .i64 0, .int .i64 xn, .slice none 0 0, .slice none 0 0], .bool true]) (by simp [results, Try.results57, go_sem, k0, k1, c0, c1, c2, c3, c4, c5, c6, c7]) h43.defers ⟨rfl, hW42.bel⟩

set_option maxHeartbeats 4000000 in
set_option maxRecDepth 100000 in
theorem wfNo {xop xa xb xc xk xn : Int} {ra aa : Option Addr} {rl rc al ac : Nat} {w : World} (h : xop ≠ 1 ∧ xop ≠ 2 ∧ xop ≠ 3 ∧ xop ≠ 4 ∧ xop ≠ 5 ∧ xop ≠ 6 ∧ xop ≠ 7 ∧ xop ≠ 8 ∧ xop ≠ 9 ∧ xop ≠ 10 ∧ xop ≠ 11 ∧ xop ≠ 12 ∧ xop ≠ 13 ∧ xop ≠ 14) :
    Rd Try.prog 57 #[.agg #[.int .i64 xop, .int .i64 xa, .int .i64 xb, .int .i64 xc, .int .i64 xk, .int .i64 xn, .slice ra rl rc, .slice aa al ac]] w (.tuple #[.agg #[.int .i64 xop, .int .i64 xa, .int .i64 xb, .int .i64 xc, .int .i64 xk, .int .i64 xn, .slice ra rl rc, .slice aa al ac], .bool false]) := by
  refine fr_enter (n := 48) Try.func57 rfl rfl rfl ?_
  intro a hF
  have hW := Wd.start w
  replace hF : Fr 48 a [(0, .agg #[.int .i64 xop, .int .i64 xa, .int .i64 xb, .int .i64 xc, .int .i64 xk, .int .i64 xn, .slice ra rl rc, .slice aa al ac])] := hF
  refine wp_seq_k ?_
  intro K1 hK1
  refine fr_region ?_
  intro ops hops
  clear hops
  refine St.go hF ?_; clear hF a
  refine sB hW trivial rfl rfl ?_
  clear hW; intro w2 B2 hW2 hN; clear hN
  refine sAIns hW2 trivial rfl ?_
  clear hW2; intro w3 B3 hW3 hN; clear hN
  refine sa trivial rfl rfl ?_
  refine St.nil fun a4 h4 => ?_
  refine hK1 _ _ ?_
  refine wp_seq_k ?_
  intro K5 hK5
  refine wp_seq_k ?_
  intro K6 hK6
  refine fr_region ?_
  intro ops hops
  clear hops
  refine St.go h4 ?_; clear h4 a4
  refine sfIns0 trivial rfl rfl ?_
  refine sbInt 1 hW3 trivial rfl rfl rfl rfl ?_
  refine St.nil fun a7 h7 => ?_
  refine hK6 _ _ ?_
  refine wp_block ?_
  refine wp_seq_k ?_
  intro K8 hK8
  refine fr_region ?_
  intro ops hops
  clear hops
  refine St.go h7 ?_; clear h7 a7
  refine seq trivial rfl rfl rfl ?_
  refine sa trivial rfl rfl ?_
  refine St.nil fun a9 h9 => ?_
  refine hK8 _ _ ?_
  refine fr_cond (t := 7) h9 rfl (fun hb => ?_) (fun hb => ?_)
  ·exact absurd (by simpa using hb) (h.1)
  ·clear hb
   refine wp_seq_k ?_
   intro K10 hK10
   refine wp_seq_k ?_
   intro K11 hK11
   refine fr_region ?_
   intro ops hops
   clear hops
   refine St.go h9 ?_; clear h9 a9
   refine seq trivial rfl rfl rfl ?_
   refine sa trivial rfl rfl ?_
   refine St.nil fun a12 h12 => ?_
   refine hK11 _ _ ?_
   refine fr_cond (t := 10) h12 rfl (fun hb => ?_) (fun hb => ?_)
   ·rw [hb] at h12
    exact absurd (by simpa using hb) (h.2.2.1)
   ·rw [hb] at h12
    clear hb
    refine fr_region ?_
    intro ops hops
    clear hops
    refine St.go h12 ?_; clear h12 a12
    refine seq trivial rfl rfl rfl ?_
    refine sa trivial rfl rfl ?_
    refine St.nil fun a13 h13 => ?_
    refine hK10 _ _ ?_
    refine fr_cond (t := 10) h13 rfl (fun hb => ?_) (fun hb => ?_)
    ·rw [hb] at h13
     exact absurd (by simpa using hb) (h.2.2.2.2.2.2.2.2.2.2.2.1)
    ·rw [hb] at h13
     clear hb
     refine wp_seq_k ?_
     intro K14 hK14
     refine wp_seq_k ?_
     intro K15 hK15
     refine fr_region ?_
     intro ops hops
     clear hops
     refine St.go h13 ?_; clear h13 a13
     refine seq trivial rfl rfl rfl ?_
     refine sa trivial rfl rfl ?_
     refine St.nil fun a16 h16 => ?_
     refine hK15 _ _ ?_
     refine fr_cond (t := 13) h16 rfl (fun hb => ?_) (fun hb => ?_)
     ·rw [hb] at h16
      exact absurd (by simpa using hb) (h.2.2.2.1)
     ·rw [hb] at h16
      clear hb
      refine wp_seq_k ?_
      intro K17 hK17
      refine fr_region ?_
      intro ops hops
      clear hops
      refine St.go h16 ?_; clear h16 a16
      refine seq trivial rfl rfl rfl ?_
      refine sa trivial rfl rfl ?_
      refine St.nil fun a18 h18 => ?_
      refine hK17 _ _ ?_
      refine fr_cond (t := 13) h18 rfl (fun hb => ?_) (fun hb => ?_)
      ·rw [hb] at h18
       exact absurd (by simpa using hb) (h.2.2.2.2.2.2.2.2.2.2.1)
      ·rw [hb] at h18
       clear hb
       refine fr_region ?_
       intro ops hops
       clear hops
       refine St.go h18 ?_; clear h18 a18
       refine seq trivial rfl rfl rfl ?_
       refine sa trivial rfl rfl ?_
       refine St.nil fun a19 h19 => ?_
       refine hK14 _ _ ?_
       refine fr_cond (t := 13) h19 rfl (fun hb => ?_) (fun hb => ?_)
       ·rw [hb] at h19
        exact absurd (by simpa using hb) (h.2.2.2.2.2.2.2.2.2.2.2.2.1)
       ·rw [hb] at h19
        clear hb
        refine wp_seq_k ?_
        intro K20 hK20
        refine wp_seq_k ?_
        intro K21 hK21
        refine fr_region ?_
        intro ops hops
        clear hops
        refine St.go h19 ?_; clear h19 a19
        refine seq trivial rfl rfl rfl ?_
        refine sa trivial rfl rfl ?_
        refine St.nil fun a22 h22 => ?_
        refine hK21 _ _ ?_
        refine fr_cond (t := 18) h22 rfl (fun hb => ?_) (fun hb => ?_)
        ·rw [hb] at h22
         exact absurd (by simpa using hb) (h.2.2.2.2.2.2.2.1)
        ·rw [hb] at h22
         clear hb
         refine fr_region ?_
         intro ops hops
         clear hops
         refine St.go h22 ?_; clear h22 a22
         refine seq trivial rfl rfl rfl ?_
         refine sa trivial rfl rfl ?_
         refine St.nil fun a23 h23 => ?_
         refine hK20 _ _ ?_
         refine fr_cond (t := 18) h23 rfl (fun hb => ?_) (fun hb => ?_)
         ·rw [hb] at h23
          exact absurd (by simpa using hb) (h.2.2.2.2.2.2.2.2.1)
         ·rw [hb] at h23
          clear hb
          refine wp_seq_k ?_
          intro K24 hK24
          refine fr_region ?_
          intro ops hops
          clear hops
          refine St.go h23 ?_; clear h23 a23
          refine seq trivial rfl rfl rfl ?_
          refine sa trivial rfl rfl ?_
          refine St.nil fun a25 h25 => ?_
          refine hK24 _ _ ?_
          refine fr_cond (t := 23) h25 rfl (fun hb => ?_) (fun hb => ?_)
          ·exact absurd (by simpa using hb) (h.2.2.2.2.2.2.2.2.2.1)
          ·clear hb
           refine wp_seq_k ?_
           intro K26 hK26
           refine wp_seq_k ?_
           intro K27 hK27
           refine fr_region ?_
           intro ops hops
           clear hops
           refine St.go h25 ?_; clear h25 a25
           refine seq trivial rfl rfl rfl ?_
           refine sa trivial rfl rfl ?_
           refine St.nil fun a28 h28 => ?_
           refine hK27 _ _ ?_
           refine fr_cond (t := 28) h28 rfl (fun hb => ?_) (fun hb => ?_)
           ·rw [hb] at h28
            exact absurd (by simpa using hb) (h.2.1)
           ·rw [hb] at h28
            clear hb
            refine fr_region ?_
            intro ops hops
            clear hops
            refine St.go h28 ?_; clear h28 a28
            refine seq trivial rfl rfl rfl ?_
            refine sa trivial rfl rfl ?_
            refine St.nil fun a29 h29 => ?_
            refine hK26 _ _ ?_
            refine fr_cond (t := 28) h29 rfl (fun hb => ?_) (fun hb => ?_)
            ·rw [hb] at h29
             exact absurd (by simpa using hb) (h.2.2.2.2.2.2.1)
            ·rw [hb] at h29
             clear hb
             refine wp_seq_k ?_
             intro K30 hK30
             refine fr_region ?_
             intro ops hops
             clear hops
             refine St.go h29 ?_; clear h29 a29
             refine seq trivial rfl rfl rfl ?_
             refine sa trivial rfl rfl ?_
             refine St.nil fun a31 h31 => ?_
             refine hK30 _ _ ?_
             refine fr_cond (t := 34) h31 rfl (fun hb => ?_) (fun hb => ?_)
             ·exact absurd (by simpa using hb) (h.2.2.2.2.2.1)
             ·clear hb
              refine wp_seq_k ?_
              intro K32 hK32
              refine fr_region ?_
              intro ops hops
              clear hops
              refine St.go h31 ?_; clear h31 a31
              refine seq trivial rfl rfl rfl ?_
              refine sa trivial rfl rfl ?_
              refine St.nil fun a33 h33 => ?_
              refine hK32 _ _ ?_
              refine fr_cond (t := 38) h33 rfl (fun hb => ?_) (fun hb => ?_)
              ·exact absurd (by simpa using hb) (h.2.2.2.2.1)
              ·clear hb
               refine wp_seq_k ?_
               intro K34 hK34
               refine fr_region ?_
               intro ops hops
               clear hops
               refine St.go h33 ?_; clear h33 a33
               refine seq trivial rfl rfl rfl ?_
               refine sa trivial rfl rfl ?_
               refine St.nil fun a35 h35 => ?_
               refine hK34 _ _ ?_
               refine fr_cond (t := 42) h35 rfl (fun hb => ?_) (fun hb => ?_)
               ·exact absurd (by simpa using hb) (h.2.2.2.2.2.2.2.2.2.2.2.2.2)
               ·clear hb
                refine wp_seq_k ?_
                intro K36 hK36
                refine fr_region ?_
                intro ops hops
                clear hops
                refine St.go h35 ?_; clear h35 a35
                refine sS 1 8 Try.underlying46 rfl infIns hW3 trivial rfl rfl rfl rfl ?_
                refine sT 0 hW3 rfl rfl infIns rfl rfl rfl ?_
                clear hW3; intro w37 hW37
                refine sa trivial rfl rfl ?_
                refine St.nil fun a38 h38 => ?_
                refine hK36 _ _ ?_
                refine wp_ret ?_
                repeat (first | with_reducible refine of_then_ret ?_ | with_reducible refine of_block_ret ?_)
                have k0 : a38.tmps[2]?.getD undef = .pointer (some ⟨B3, 0, none⟩) := h38.sl2 2 _ rfl
                have k1 : a38.tmps[3]?.getD undef = .bool false := h38.sl2 3 _ rfl
                have c0 : w37.cell? ⟨B3, 0, none⟩ = some (.int .i64 xop) := cellOf (hW37.get 0 rfl) 0 _ rfl
                have c1 : w37.cell? ⟨B3, 1, none⟩ = some (.int .i64 xa) := cellOf (hW37.get 0 rfl) 1 _ rfl
                have c2 : w37.cell? ⟨B3, 2, none⟩ = some (.int .i64 xb) := cellOf (hW37.get 0 rfl) 2 _ rfl
                have c3 : w37.cell? ⟨B3, 3, none⟩ = some (.int .i64 xc) := cellOf (hW37.get 0 rfl) 3 _ rfl
                have c4 : w37.cell? ⟨B3, 4, none⟩ = some (.int .i64 xk) := cellOf (hW37.get 0 rfl) 4 _ rfl
                have c5 : w37.cell? ⟨B3, 5, none⟩ = some (.int .i64 xn) := cellOf (hW37.get 0 rfl) 5 _ rfl
                have c6 : w37.cell? ⟨B3, 6, none⟩ = some (.slice ra rl rc) := cellOf (hW37.get 0 rfl) 6 _ rfl
                have c7 : w37.cell? ⟨B3, 7, none⟩ = some (.slice aa al ac) := cellOf (hW37.get 0 rfl) 7 _ rfl
                exact bodyPost_ret (v := .tuple #[.agg #[.int .i64 xop, .int .i64 xa, .int .i64 xb, .int .i64 xc, .int .i64 xk, .int .i64 xn, .slice ra rl rc, .slice aa al ac], .bool false]) (by simp [results, Try.results57, go_sem, k0, k1, c0, c1, c2, c3, c4, c5, c6, c7]) h38.defers ⟨rfl, hW37.bel⟩
end Go.Proofs.Ytmnmnokkojcodab
