/-
  Ins: the form of an instruction (package code), at last.
-/
import Derived.Test.YtmnmnokkojcodabCodFormH
namespace Go.Proofs.Ytmnmnokkojcodab
open Go.ChangeShapes Go.WideShapes Go.ChangeAt Go.RowKit
set_option linter.unusedVariables false
set_option linter.unusedSimpArgs false

theorem fb (f : Bool) (a : Int) : (!f && a != 0) = !((bif f then 0 else a) == 0) := by cases f <;> simp [bne]
theorem fbn (f : Bool) (l : Nat) : (!f && decide (0 < l)) = !(((bif f then 0 else l : Nat) : Int) == 0) := by
  cases f
  · by_cases h : l = 0
    · simp [h]
    · have : 0 < l := by omega
      simp [this, h]
  · simp
theorem bounds_eq (lm : Nat) (op k : Int) (rl al : Nat) : (if op = 2 ∧ (k < 1 ∨ 9 < k) then 1
    else if op = 5 ∧ 8 < al then 2
    else if (op = 6 ∨ op = 7) ∧ (k < 0 ∨ 7 < k) then 1
    else if op = 14 ∧ (k < 0 ∨ (lm : Int) ≤ k) then 1
    else if op = 14 ∧ (6 < rl ∨ 8 < al) then 2
    else 0) = boundsC lm op k rl al := by
  unfold boundsC
  by_cases h2 : op = 2
  · subst h2; simp [rangeC]
  · by_cases h6 : op = 6 ∨ op = 7
    · have h5 : ¬ op = 5 := by omega
      have h14 : ¬ op = 14 := by omega
      simp [h2, h5, h6, h14, rangeC]
    · by_cases h5 : op = 5
      · subst h5; simp [manyC]; split <;> split <;> omega
      · by_cases h14 : op = 14
        · subst h14
          simp [rangeC, handedC, manyC]
          repeat' split
          all_goals omega
        · simp [h2, h5, h6, h14]
theorem insForm_bare {lm : Nat} {op a b c k n : Int} {rl al : Nat} {fa fb' fc fk fn fr fs : Bool} (e : fieldsOf op = some (fa, fb', fc, fk, fn, fr, fs)) :
    insForm lm op a b c k n rl al = if bareB (bif fa then 0 else a) (bif fb' then 0 else b) (bif fc then 0 else c) (bif fk then 0 else k) (bif fn then 0 else n) (bif fr then 0 else rl) (bif fs then 0 else al) = true then boundsC lm op k rl al else 4 := by
  simp only [insForm, e, bounds_eq]
  rw [fb, fb, fb, fb, fb, fbn, fbn]
  unfold bareB
  generalize ((bif fa then 0 else a) == 0) = q1
  generalize ((bif fb' then 0 else b) == 0) = q2
  generalize ((bif fc then 0 else c) == 0) = q3
  generalize ((bif fk then 0 else k) == 0) = q4
  generalize ((bif fn then 0 else n) == 0) = q5
  generalize (((bif fr then 0 else rl : Nat) : Int) == 0) = q6
  generalize (((bif fs then 0 else al : Nat) : Int) == 0) = q7
  cases q1 <;> cases q2 <;> cases q3 <;> cases q4 <;> cases q5 <;> cases q6 <;> cases q7 <;> rfl

set_option maxHeartbeats 4000000 in
set_option maxRecDepth 100000 in
theorem cIns1 {xa xb xc xk xn : Int} {ra aa : Option Addr} {rl rc al ac : Nat} {am : Option Addr} {lm cm : Nat} {w : World} (hlm : lm < 2305843009213693952) :
    Rd Try.prog 20 #[.agg #[.slice am lm cm], .agg #[.int .i64 1, .int .i64 xa, .int .i64 xb, .int .i64 xc, .int .i64 xk, .int .i64 xn, .slice ra rl rc, .slice aa al ac]] w (.int .i64 (insForm lm 1 xa xb xc xk xn rl al)) := by
  refine fr_enter (n := 20) Try.func20 rfl rfl rfl ?_
  intro a hF
  have hW := Wd.start w
  replace hF : Fr 20 a [(0, .agg #[.slice am lm cm]), (1, .agg #[.int .i64 1, .int .i64 xa, .int .i64 xb, .int .i64 xc, .int .i64 xk, .int .i64 xn, .slice ra rl rc, .slice aa al ac])] := hF
  refine wp_seq_k ?_
  intro K1 hK1
  refine fr_region ?_
  intro ops hops
  clear hops
  refine St.go hF ?_; clear hF a
  refine sB hW trivial rfl rfl ?_
  clear hW; intro w2 B2 hW2 hN; clear hN
  refine sB hW2 trivial rfl rfl ?_
  clear hW2; intro w3 B3 hW3 hN; clear hN
  refine sa trivial rfl rfl ?_
  refine St.nil fun a4 h4 => ?_
  refine hK1 _ _ ?_
  refine wp_seq_k ?_
  intro K5 hK5
  refine fr_region ?_
  intro ops hops
  clear hops
  refine St.go h4 ?_; clear h4 a4
  refine sS 0 8 Try.underlying46 rfl infIns hW3 trivial rfl rfl rfl rfl ?_
  refine sc_1 cf57 hW3 (wf1) trivial rfl rfl ?_
  clear hW3; intro w6 hW6
  refine sm trivial rfl rfl ?_
  intro a7 h7
  refine fr_pure (t := 10) (v := .agg #[.int .i64 1, .int .i64 xa, .int .i64 xb, .int .i64 xc, .int .i64 xk, .int .i64 0, .slice ra rl rc, .slice aa al ac]) (w' := w6) h7 rfl rfl rfl (fun K hK => ?_) ?_
  ·have k0 : a7.tmps.getD 7 undef = .tuple #[.agg #[.int .i64 1, .int .i64 xa, .int .i64 xb, .int .i64 xc, .int .i64 xk, .int .i64 0, .slice ra rl rc, .slice aa al ac], .bool true] := h7.sl 7 _ rfl
   go_simp
   exact hK
  clear h7; intro a8 hF8
  refine fr_pure (t := 11) (v := .bool true) (w' := w6) hF8 rfl rfl rfl (fun K hK => ?_) ?_
  ·have k0 : a8.tmps.getD 7 undef = .tuple #[.agg #[.int .i64 1, .int .i64 xa, .int .i64 xb, .int .i64 xc, .int .i64 xk, .int .i64 0, .slice ra rl rc, .slice aa al ac], .bool true] := hF8.sl 7 _ rfl
   go_simp
   exact hK
  clear hF8; intro a9 hF9
  refine St.go hF9 ?_; clear hF9 a9
  refine sAIns hW6 trivial rfl ?_
  clear hW6; intro w10 B10 hW10 hN; clear hN
  refine sT 0 hW10 rfl rfl infIns rfl rfl rfl ?_
  clear hW10; intro w11 hW11
  refine sa trivial rfl rfl ?_
  refine St.nil fun a12 h12 => ?_
  refine hK5 _ _ ?_
  refine wp_seq_k ?_
  intro K13 hK13
  refine wp_seq_k ?_
  intro K14 hK14
  refine fr_region ?_
  intro ops hops
  clear hops
  refine St.go h12 ?_; clear h12 a12
  refine sm trivial rfl rfl ?_
  refine sn trivial rfl rfl ?_
  refine St.nil fun a15 h15 => ?_
  refine hK14 _ _ ?_
  refine fr_false (t := 13) h15 rfl ?_
  refine wp_skip ?_
  refine hK13 _ _ ?_
  refine wp_seq_k ?_
  intro K16 hK16
  refine wp_seq_k ?_
  intro K17 hK17
  refine fr_region ?_
  intro ops hops
  clear hops
  refine St.go h15 ?_; clear h15 a15
  refine sS 0 8 Try.underlying46 rfl infIns hW11 trivial rfl rfl rfl rfl ?_
  refine sc_1 cf58 hW11 (isBare_any) trivial rfl rfl ?_
  clear hW11; intro w18 hW18
  refine sn trivial rfl rfl ?_
  refine St.nil fun a19 h19 => ?_
  refine hK17 _ _ ?_
  refine fr_cond (t := 16) h19 rfl (fun hb => ?_) (fun hb => ?_)
  ·have hc20 : (bareB xa xb xc xk 0 rl al) = false := by simpa using hb
   clear hb
   refine wp_seq_k ?_
   intro K21 hK21
   refine fr_region ?_
   intro ops hops
   clear hops
   refine St.go h19 ?_; clear h19 a19
   refine sa trivial rfl rfl ?_
   refine St.nil fun a22 h22 => ?_
   refine hK21 _ _ ?_
   refine wp_ret ?_
   repeat (first | with_reducible refine of_then_ret ?_ | with_reducible refine of_block_ret ?_)
   have hB := hc20
   skip
   have R : insForm lm 1 xa xb xc xk xn rl al = 4 := (insForm_bare (show fieldsOf 1 = some (false, false, false, false, true, false, false) from rfl)).trans (if_neg (fun hh => Bool.noConfusion (hh.symm.trans hc20)))
   exact ret_tmp (t := 4) h22 rfl rfl ⟨by rw [R], hW18.bel⟩
  ·have hc23 : (bareB xa xb xc xk 0 rl al) = true := by simpa using hb
   clear hb
   refine wp_skip ?_
   refine hK16 _ _ ?_
   refine wp_seq_k ?_
   intro K24 hK24
   refine fr_region ?_
   intro ops hops
   clear hops
   refine St.go h19 ?_; clear h19 a19
   refine sS 2 1 Try.underlying39 rfl infModule hW18 trivial rfl rfl rfl rfl ?_
   refine sS 1 8 Try.underlying46 rfl infIns hW18 trivial rfl rfl rfl rfl ?_
   refine sc_2 cf59 hW18 (boundsNo hlm (by decide)) trivial rfl rfl rfl ?_
   clear hW18; intro w25 hW25
   refine sa trivial rfl rfl ?_
   refine St.nil fun a26 h26 => ?_
   refine hK24 _ _ ?_
   refine wp_ret ?_
   repeat (first | with_reducible refine of_then_ret ?_ | with_reducible refine of_block_ret ?_)
   have hB := hc23
   skip
   have R : insForm lm 1 xa xb xc xk xn rl al = boundsC lm 1 xk rl al := (insForm_bare (show fieldsOf 1 = some (false, false, false, false, true, false, false) from rfl)).trans (if_pos hc23)
   exact ret_tmp (t := 4) h26 rfl rfl ⟨by rw [R], hW25.bel⟩

set_option maxHeartbeats 4000000 in
set_option maxRecDepth 100000 in
theorem cIns2 {xa xb xc xk xn : Int} {ra aa : Option Addr} {rl rc al ac : Nat} {am : Option Addr} {lm cm : Nat} {w : World} (hlm : lm < 2305843009213693952) :
    Rd Try.prog 20 #[.agg #[.slice am lm cm], .agg #[.int .i64 2, .int .i64 xa, .int .i64 xb, .int .i64 xc, .int .i64 xk, .int .i64 xn, .slice ra rl rc, .slice aa al ac]] w (.int .i64 (insForm lm 2 xa xb xc xk xn rl al)) := by
  refine fr_enter (n := 20) Try.func20 rfl rfl rfl ?_
  intro a hF
  have hW := Wd.start w
  replace hF : Fr 20 a [(0, .agg #[.slice am lm cm]), (1, .agg #[.int .i64 2, .int .i64 xa, .int .i64 xb, .int .i64 xc, .int .i64 xk, .int .i64 xn, .slice ra rl rc, .slice aa al ac])] := hF
  refine wp_seq_k ?_
  intro K1 hK1
  refine fr_region ?_
  intro ops hops
  clear hops
  refine St.go hF ?_; clear hF a
  refine sB hW trivial rfl rfl ?_
  clear hW; intro w2 B2 hW2 hN; clear hN
  refine sB hW2 trivial rfl rfl ?_
  clear hW2; intro w3 B3 hW3 hN; clear hN
  refine sa trivial rfl rfl ?_
  refine St.nil fun a4 h4 => ?_
  refine hK1 _ _ ?_
  refine wp_seq_k ?_
  intro K5 hK5
  refine fr_region ?_
  intro ops hops
  clear hops
  refine St.go h4 ?_; clear h4 a4
  refine sS 0 8 Try.underlying46 rfl infIns hW3 trivial rfl rfl rfl rfl ?_
  refine sc_1 cf57 hW3 (wf2) trivial rfl rfl ?_
  clear hW3; intro w6 hW6
  refine sm trivial rfl rfl ?_
  intro a7 h7
  refine fr_pure (t := 10) (v := .agg #[.int .i64 2, .int .i64 0, .int .i64 0, .int .i64 xc, .int .i64 0, .int .i64 xn, .slice ra rl rc, .slice aa al ac]) (w' := w6) h7 rfl rfl rfl (fun K hK => ?_) ?_
  ·have k0 : a7.tmps.getD 7 undef = .tuple #[.agg #[.int .i64 2, .int .i64 0, .int .i64 0, .int .i64 xc, .int .i64 0, .int .i64 xn, .slice ra rl rc, .slice aa al ac], .bool true] := h7.sl 7 _ rfl
   go_simp
   exact hK
  clear h7; intro a8 hF8
  refine fr_pure (t := 11) (v := .bool true) (w' := w6) hF8 rfl rfl rfl (fun K hK => ?_) ?_
  ·have k0 : a8.tmps.getD 7 undef = .tuple #[.agg #[.int .i64 2, .int .i64 0, .int .i64 0, .int .i64 xc, .int .i64 0, .int .i64 xn, .slice ra rl rc, .slice aa al ac], .bool true] := hF8.sl 7 _ rfl
   go_simp
   exact hK
  clear hF8; intro a9 hF9
  refine St.go hF9 ?_; clear hF9 a9
  refine sAIns hW6 trivial rfl ?_
  clear hW6; intro w10 B10 hW10 hN; clear hN
  refine sT 0 hW10 rfl rfl infIns rfl rfl rfl ?_
  clear hW10; intro w11 hW11
  refine sa trivial rfl rfl ?_
  refine St.nil fun a12 h12 => ?_
  refine hK5 _ _ ?_
  refine wp_seq_k ?_
  intro K13 hK13
  refine wp_seq_k ?_
  intro K14 hK14
  refine fr_region ?_
  intro ops hops
  clear hops
  refine St.go h12 ?_; clear h12 a12
  refine sm trivial rfl rfl ?_
  refine sn trivial rfl rfl ?_
  refine St.nil fun a15 h15 => ?_
  refine hK14 _ _ ?_
  refine fr_false (t := 13) h15 rfl ?_
  refine wp_skip ?_
  refine hK13 _ _ ?_
  refine wp_seq_k ?_
  intro K16 hK16
  refine wp_seq_k ?_
  intro K17 hK17
  refine fr_region ?_
  intro ops hops
  clear hops
  refine St.go h15 ?_; clear h15 a15
  refine sS 0 8 Try.underlying46 rfl infIns hW11 trivial rfl rfl rfl rfl ?_
  refine sc_1 cf58 hW11 (isBare_any) trivial rfl rfl ?_
  clear hW11; intro w18 hW18
  refine sn trivial rfl rfl ?_
  refine St.nil fun a19 h19 => ?_
  refine hK17 _ _ ?_
  refine fr_cond (t := 16) h19 rfl (fun hb => ?_) (fun hb => ?_)
  ·have hc20 : (bareB 0 0 xc 0 xn rl al) = false := by simpa using hb
   clear hb
   refine wp_seq_k ?_
   intro K21 hK21
   refine fr_region ?_
   intro ops hops
   clear hops
   refine St.go h19 ?_; clear h19 a19
   refine sa trivial rfl rfl ?_
   refine St.nil fun a22 h22 => ?_
   refine hK21 _ _ ?_
   refine wp_ret ?_
   repeat (first | with_reducible refine of_then_ret ?_ | with_reducible refine of_block_ret ?_)
   have hB := hc20
   skip
   have R : insForm lm 2 xa xb xc xk xn rl al = 4 := (insForm_bare (show fieldsOf 2 = some (true, true, false, true, false, false, false) from rfl)).trans (if_neg (fun hh => Bool.noConfusion (hh.symm.trans hc20)))
   exact ret_tmp (t := 4) h22 rfl rfl ⟨by rw [R], hW18.bel⟩
  ·have hc23 : (bareB 0 0 xc 0 xn rl al) = true := by simpa using hb
   clear hb
   refine wp_skip ?_
   refine hK16 _ _ ?_
   refine wp_seq_k ?_
   intro K24 hK24
   refine fr_region ?_
   intro ops hops
   clear hops
   refine St.go h19 ?_; clear h19 a19
   refine sS 2 1 Try.underlying39 rfl infModule hW18 trivial rfl rfl rfl rfl ?_
   refine sS 1 8 Try.underlying46 rfl infIns hW18 trivial rfl rfl rfl rfl ?_
   refine sc_2 cf59 hW18 (bounds2 hlm) trivial rfl rfl rfl ?_
   clear hW18; intro w25 hW25
   refine sa trivial rfl rfl ?_
   refine St.nil fun a26 h26 => ?_
   refine hK24 _ _ ?_
   refine wp_ret ?_
   repeat (first | with_reducible refine of_then_ret ?_ | with_reducible refine of_block_ret ?_)
   have hB := hc23
   skip
   have R : insForm lm 2 xa xb xc xk xn rl al = boundsC lm 2 xk rl al := (insForm_bare (show fieldsOf 2 = some (true, true, false, true, false, false, false) from rfl)).trans (if_pos hc23)
   exact ret_tmp (t := 4) h26 rfl rfl ⟨by rw [R], hW25.bel⟩

set_option maxHeartbeats 4000000 in
set_option maxRecDepth 100000 in
theorem cIns3 {xa xb xc xk xn : Int} {ra aa : Option Addr} {rl rc al ac : Nat} {am : Option Addr} {lm cm : Nat} {w : World} (hlm : lm < 2305843009213693952) :
    Rd Try.prog 20 #[.agg #[.slice am lm cm], .agg #[.int .i64 3, .int .i64 xa, .int .i64 xb, .int .i64 xc, .int .i64 xk, .int .i64 xn, .slice ra rl rc, .slice aa al ac]] w (.int .i64 (insForm lm 3 xa xb xc xk xn rl al)) := by
  refine fr_enter (n := 20) Try.func20 rfl rfl rfl ?_
  intro a hF
  have hW := Wd.start w
  replace hF : Fr 20 a [(0, .agg #[.slice am lm cm]), (1, .agg #[.int .i64 3, .int .i64 xa, .int .i64 xb, .int .i64 xc, .int .i64 xk, .int .i64 xn, .slice ra rl rc, .slice aa al ac])] := hF
  refine wp_seq_k ?_
  intro K1 hK1
  refine fr_region ?_
  intro ops hops
  clear hops
  refine St.go hF ?_; clear hF a
  refine sB hW trivial rfl rfl ?_
  clear hW; intro w2 B2 hW2 hN; clear hN
  refine sB hW2 trivial rfl rfl ?_
  clear hW2; intro w3 B3 hW3 hN; clear hN
  refine sa trivial rfl rfl ?_
  refine St.nil fun a4 h4 => ?_
  refine hK1 _ _ ?_
  refine wp_seq_k ?_
  intro K5 hK5
  refine fr_region ?_
  intro ops hops
  clear hops
  refine St.go h4 ?_; clear h4 a4
  refine sS 0 8 Try.underlying46 rfl infIns hW3 trivial rfl rfl rfl rfl ?_
  refine sc_1 cf57 hW3 (wf3) trivial rfl rfl ?_
  clear hW3; intro w6 hW6
  refine sm trivial rfl rfl ?_
  intro a7 h7
  refine fr_pure (t := 10) (v := .agg #[.int .i64 3, .int .i64 xa, .int .i64 xb, .int .i64 xc, .int .i64 xk, .int .i64 xn, .slice ra rl rc, .slice aa al ac]) (w' := w6) h7 rfl rfl rfl (fun K hK => ?_) ?_
  ·have k0 : a7.tmps.getD 7 undef = .tuple #[.agg #[.int .i64 3, .int .i64 xa, .int .i64 xb, .int .i64 xc, .int .i64 xk, .int .i64 xn, .slice ra rl rc, .slice aa al ac], .bool true] := h7.sl 7 _ rfl
   go_simp
   exact hK
  clear h7; intro a8 hF8
  refine fr_pure (t := 11) (v := .bool true) (w' := w6) hF8 rfl rfl rfl (fun K hK => ?_) ?_
  ·have k0 : a8.tmps.getD 7 undef = .tuple #[.agg #[.int .i64 3, .int .i64 xa, .int .i64 xb, .int .i64 xc, .int .i64 xk, .int .i64 xn, .slice ra rl rc, .slice aa al ac], .bool true] := hF8.sl 7 _ rfl
   go_simp
   exact hK
  clear hF8; intro a9 hF9
  refine St.go hF9 ?_; clear hF9 a9
  refine sAIns hW6 trivial rfl ?_
  clear hW6; intro w10 B10 hW10 hN; clear hN
  refine sT 0 hW10 rfl rfl infIns rfl rfl rfl ?_
  clear hW10; intro w11 hW11
  refine sa trivial rfl rfl ?_
  refine St.nil fun a12 h12 => ?_
  refine hK5 _ _ ?_
  refine wp_seq_k ?_
  intro K13 hK13
  refine wp_seq_k ?_
  intro K14 hK14
  refine fr_region ?_
  intro ops hops
  clear hops
  refine St.go h12 ?_; clear h12 a12
  refine sm trivial rfl rfl ?_
  refine sn trivial rfl rfl ?_
  refine St.nil fun a15 h15 => ?_
  refine hK14 _ _ ?_
  refine fr_false (t := 13) h15 rfl ?_
  refine wp_skip ?_
  refine hK13 _ _ ?_
  refine wp_seq_k ?_
  intro K16 hK16
  refine wp_seq_k ?_
  intro K17 hK17
  refine fr_region ?_
  intro ops hops
  clear hops
  refine St.go h15 ?_; clear h15 a15
  refine sS 0 8 Try.underlying46 rfl infIns hW11 trivial rfl rfl rfl rfl ?_
  refine sc_1 cf58 hW11 (isBare_any) trivial rfl rfl ?_
  clear hW11; intro w18 hW18
  refine sn trivial rfl rfl ?_
  refine St.nil fun a19 h19 => ?_
  refine hK17 _ _ ?_
  refine fr_cond (t := 16) h19 rfl (fun hb => ?_) (fun hb => ?_)
  ·have hc20 : (bareB xa xb xc xk xn rl al) = false := by simpa using hb
   clear hb
   refine wp_seq_k ?_
   intro K21 hK21
   refine fr_region ?_
   intro ops hops
   clear hops
   refine St.go h19 ?_; clear h19 a19
   refine sa trivial rfl rfl ?_
   refine St.nil fun a22 h22 => ?_
   refine hK21 _ _ ?_
   refine wp_ret ?_
   repeat (first | with_reducible refine of_then_ret ?_ | with_reducible refine of_block_ret ?_)
   have hB := hc20
   skip
   have R : insForm lm 3 xa xb xc xk xn rl al = 4 := (insForm_bare (show fieldsOf 3 = some (false, false, false, false, false, false, false) from rfl)).trans (if_neg (fun hh => Bool.noConfusion (hh.symm.trans hc20)))
   exact ret_tmp (t := 4) h22 rfl rfl ⟨by rw [R], hW18.bel⟩
  ·have hc23 : (bareB xa xb xc xk xn rl al) = true := by simpa using hb
   clear hb
   refine wp_skip ?_
   refine hK16 _ _ ?_
   refine wp_seq_k ?_
   intro K24 hK24
   refine fr_region ?_
   intro ops hops
   clear hops
   refine St.go h19 ?_; clear h19 a19
   refine sS 2 1 Try.underlying39 rfl infModule hW18 trivial rfl rfl rfl rfl ?_
   refine sS 1 8 Try.underlying46 rfl infIns hW18 trivial rfl rfl rfl rfl ?_
   refine sc_2 cf59 hW18 (boundsNo hlm (by decide)) trivial rfl rfl rfl ?_
   clear hW18; intro w25 hW25
   refine sa trivial rfl rfl ?_
   refine St.nil fun a26 h26 => ?_
   refine hK24 _ _ ?_
   refine wp_ret ?_
   repeat (first | with_reducible refine of_then_ret ?_ | with_reducible refine of_block_ret ?_)
   have hB := hc23
   skip
   have R : insForm lm 3 xa xb xc xk xn rl al = boundsC lm 3 xk rl al := (insForm_bare (show fieldsOf 3 = some (false, false, false, false, false, false, false) from rfl)).trans (if_pos hc23)
   exact ret_tmp (t := 4) h26 rfl rfl ⟨by rw [R], hW25.bel⟩

set_option maxHeartbeats 4000000 in
set_option maxRecDepth 100000 in
theorem cIns4 {xa xb xc xk xn : Int} {ra aa : Option Addr} {rl rc al ac : Nat} {am : Option Addr} {lm cm : Nat} {w : World} (hlm : lm < 2305843009213693952) :
    Rd Try.prog 20 #[.agg #[.slice am lm cm], .agg #[.int .i64 4, .int .i64 xa, .int .i64 xb, .int .i64 xc, .int .i64 xk, .int .i64 xn, .slice ra rl rc, .slice aa al ac]] w (.int .i64 (insForm lm 4 xa xb xc xk xn rl al)) := by
  refine fr_enter (n := 20) Try.func20 rfl rfl rfl ?_
  intro a hF
  have hW := Wd.start w
  replace hF : Fr 20 a [(0, .agg #[.slice am lm cm]), (1, .agg #[.int .i64 4, .int .i64 xa, .int .i64 xb, .int .i64 xc, .int .i64 xk, .int .i64 xn, .slice ra rl rc, .slice aa al ac])] := hF
  refine wp_seq_k ?_
  intro K1 hK1
  refine fr_region ?_
  intro ops hops
  clear hops
  refine St.go hF ?_; clear hF a
  refine sB hW trivial rfl rfl ?_
  clear hW; intro w2 B2 hW2 hN; clear hN
  refine sB hW2 trivial rfl rfl ?_
  clear hW2; intro w3 B3 hW3 hN; clear hN
  refine sa trivial rfl rfl ?_
  refine St.nil fun a4 h4 => ?_
  refine hK1 _ _ ?_
  refine wp_seq_k ?_
  intro K5 hK5
  refine fr_region ?_
  intro ops hops
  clear hops
  refine St.go h4 ?_; clear h4 a4
  refine sS 0 8 Try.underlying46 rfl infIns hW3 trivial rfl rfl rfl rfl ?_
  refine sc_1 cf57 hW3 (wf4) trivial rfl rfl ?_
  clear hW3; intro w6 hW6
  refine sm trivial rfl rfl ?_
  intro a7 h7
  refine fr_pure (t := 10) (v := .agg #[.int .i64 4, .int .i64 0, .int .i64 xb, .int .i64 xc, .int .i64 xk, .int .i64 xn, .slice ra rl rc, .slice aa al ac]) (w' := w6) h7 rfl rfl rfl (fun K hK => ?_) ?_
  ·have k0 : a7.tmps.getD 7 undef = .tuple #[.agg #[.int .i64 4, .int .i64 0, .int .i64 xb, .int .i64 xc, .int .i64 xk, .int .i64 xn, .slice ra rl rc, .slice aa al ac], .bool true] := h7.sl 7 _ rfl
   go_simp
   exact hK
  clear h7; intro a8 hF8
  refine fr_pure (t := 11) (v := .bool true) (w' := w6) hF8 rfl rfl rfl (fun K hK => ?_) ?_
  ·have k0 : a8.tmps.getD 7 undef = .tuple #[.agg #[.int .i64 4, .int .i64 0, .int .i64 xb, .int .i64 xc, .int .i64 xk, .int .i64 xn, .slice ra rl rc, .slice aa al ac], .bool true] := hF8.sl 7 _ rfl
   go_simp
   exact hK
  clear hF8; intro a9 hF9
  refine St.go hF9 ?_; clear hF9 a9
  refine sAIns hW6 trivial rfl ?_
  clear hW6; intro w10 B10 hW10 hN; clear hN
  refine sT 0 hW10 rfl rfl infIns rfl rfl rfl ?_
  clear hW10; intro w11 hW11
  refine sa trivial rfl rfl ?_
  refine St.nil fun a12 h12 => ?_
  refine hK5 _ _ ?_
  refine wp_seq_k ?_
  intro K13 hK13
  refine wp_seq_k ?_
  intro K14 hK14
  refine fr_region ?_
  intro ops hops
  clear hops
  refine St.go h12 ?_; clear h12 a12
  refine sm trivial rfl rfl ?_
  refine sn trivial rfl rfl ?_
  refine St.nil fun a15 h15 => ?_
  refine hK14 _ _ ?_
  refine fr_false (t := 13) h15 rfl ?_
  refine wp_skip ?_
  refine hK13 _ _ ?_
  refine wp_seq_k ?_
  intro K16 hK16
  refine wp_seq_k ?_
  intro K17 hK17
  refine fr_region ?_
  intro ops hops
  clear hops
  refine St.go h15 ?_; clear h15 a15
  refine sS 0 8 Try.underlying46 rfl infIns hW11 trivial rfl rfl rfl rfl ?_
  refine sc_1 cf58 hW11 (isBare_any) trivial rfl rfl ?_
  clear hW11; intro w18 hW18
  refine sn trivial rfl rfl ?_
  refine St.nil fun a19 h19 => ?_
  refine hK17 _ _ ?_
  refine fr_cond (t := 16) h19 rfl (fun hb => ?_) (fun hb => ?_)
  ·have hc20 : (bareB 0 xb xc xk xn rl al) = false := by simpa using hb
   clear hb
   refine wp_seq_k ?_
   intro K21 hK21
   refine fr_region ?_
   intro ops hops
   clear hops
   refine St.go h19 ?_; clear h19 a19
   refine sa trivial rfl rfl ?_
   refine St.nil fun a22 h22 => ?_
   refine hK21 _ _ ?_
   refine wp_ret ?_
   repeat (first | with_reducible refine of_then_ret ?_ | with_reducible refine of_block_ret ?_)
   have hB := hc20
   skip
   have R : insForm lm 4 xa xb xc xk xn rl al = 4 := (insForm_bare (show fieldsOf 4 = some (true, false, false, false, false, false, false) from rfl)).trans (if_neg (fun hh => Bool.noConfusion (hh.symm.trans hc20)))
   exact ret_tmp (t := 4) h22 rfl rfl ⟨by rw [R], hW18.bel⟩
  ·have hc23 : (bareB 0 xb xc xk xn rl al) = true := by simpa using hb
   clear hb
   refine wp_skip ?_
   refine hK16 _ _ ?_
   refine wp_seq_k ?_
   intro K24 hK24
   refine fr_region ?_
   intro ops hops
   clear hops
   refine St.go h19 ?_; clear h19 a19
   refine sS 2 1 Try.underlying39 rfl infModule hW18 trivial rfl rfl rfl rfl ?_
   refine sS 1 8 Try.underlying46 rfl infIns hW18 trivial rfl rfl rfl rfl ?_
   refine sc_2 cf59 hW18 (boundsNo hlm (by decide)) trivial rfl rfl rfl ?_
   clear hW18; intro w25 hW25
   refine sa trivial rfl rfl ?_
   refine St.nil fun a26 h26 => ?_
   refine hK24 _ _ ?_
   refine wp_ret ?_
   repeat (first | with_reducible refine of_then_ret ?_ | with_reducible refine of_block_ret ?_)
   have hB := hc23
   skip
   have R : insForm lm 4 xa xb xc xk xn rl al = boundsC lm 4 xk rl al := (insForm_bare (show fieldsOf 4 = some (true, false, false, false, false, false, false) from rfl)).trans (if_pos hc23)
   exact ret_tmp (t := 4) h26 rfl rfl ⟨by rw [R], hW25.bel⟩

set_option maxHeartbeats 4000000 in
set_option maxRecDepth 100000 in
theorem cIns5 {xa xb xc xk xn : Int} {ra aa : Option Addr} {rl rc al ac : Nat} {am : Option Addr} {lm cm : Nat} {w : World} (hlm : lm < 2305843009213693952) :
    Rd Try.prog 20 #[.agg #[.slice am lm cm], .agg #[.int .i64 5, .int .i64 xa, .int .i64 xb, .int .i64 xc, .int .i64 xk, .int .i64 xn, .slice ra rl rc, .slice aa al ac]] w (.int .i64 (insForm lm 5 xa xb xc xk xn rl al)) := by
  refine fr_enter (n := 20) Try.func20 rfl rfl rfl ?_
  intro a hF
  have hW := Wd.start w
  replace hF : Fr 20 a [(0, .agg #[.slice am lm cm]), (1, .agg #[.int .i64 5, .int .i64 xa, .int .i64 xb, .int .i64 xc, .int .i64 xk, .int .i64 xn, .slice ra rl rc, .slice aa al ac])] := hF
  refine wp_seq_k ?_
  intro K1 hK1
  refine fr_region ?_
  intro ops hops
  clear hops
  refine St.go hF ?_; clear hF a
  refine sB hW trivial rfl rfl ?_
  clear hW; intro w2 B2 hW2 hN; clear hN
  refine sB hW2 trivial rfl rfl ?_
  clear hW2; intro w3 B3 hW3 hN; clear hN
  refine sa trivial rfl rfl ?_
  refine St.nil fun a4 h4 => ?_
  refine hK1 _ _ ?_
  refine wp_seq_k ?_
  intro K5 hK5
  refine fr_region ?_
  intro ops hops
  clear hops
  refine St.go h4 ?_; clear h4 a4
  refine sS 0 8 Try.underlying46 rfl infIns hW3 trivial rfl rfl rfl rfl ?_
  refine sc_1 cf57 hW3 (wf5) trivial rfl rfl ?_
  clear hW3; intro w6 hW6
  refine sm trivial rfl rfl ?_
  intro a7 h7
  refine fr_pure (t := 10) (v := .agg #[.int .i64 5, .int .i64 0, .int .i64 xb, .int .i64 xc, .int .i64 xk, .int .i64 xn, .slice ra rl rc, .slice none 0 0]) (w' := w6) h7 rfl rfl rfl (fun K hK => ?_) ?_
  ·have k0 : a7.tmps.getD 7 undef = .tuple #[.agg #[.int .i64 5, .int .i64 0, .int .i64 xb, .int .i64 xc, .int .i64 xk, .int .i64 xn, .slice ra rl rc, .slice none 0 0], .bool true] := h7.sl 7 _ rfl
   go_simp
   exact hK
  clear h7; intro a8 hF8
  refine fr_pure (t := 11) (v := .bool true) (w' := w6) hF8 rfl rfl rfl (fun K hK => ?_) ?_
  ·have k0 : a8.tmps.getD 7 undef = .tuple #[.agg #[.int .i64 5, .int .i64 0, .int .i64 xb, .int .i64 xc, .int .i64 xk, .int .i64 xn, .slice ra rl rc, .slice none 0 0], .bool true] := hF8.sl 7 _ rfl
   go_simp
   exact hK
  clear hF8; intro a9 hF9
  refine St.go hF9 ?_; clear hF9 a9
  refine sAIns hW6 trivial rfl ?_
  clear hW6; intro w10 B10 hW10 hN; clear hN
  refine sT 0 hW10 rfl rfl infIns rfl rfl rfl ?_
  clear hW10; intro w11 hW11
  refine sa trivial rfl rfl ?_
  refine St.nil fun a12 h12 => ?_
  refine hK5 _ _ ?_
  refine wp_seq_k ?_
  intro K13 hK13
  refine wp_seq_k ?_
  intro K14 hK14
  refine fr_region ?_
  intro ops hops
  clear hops
  refine St.go h12 ?_; clear h12 a12
  refine sm trivial rfl rfl ?_
  refine sn trivial rfl rfl ?_
  refine St.nil fun a15 h15 => ?_
  refine hK14 _ _ ?_
  refine fr_false (t := 13) h15 rfl ?_
  refine wp_skip ?_
  refine hK13 _ _ ?_
  refine wp_seq_k ?_
  intro K16 hK16
  refine wp_seq_k ?_
  intro K17 hK17
  refine fr_region ?_
  intro ops hops
  clear hops
  refine St.go h15 ?_; clear h15 a15
  refine sS 0 8 Try.underlying46 rfl infIns hW11 trivial rfl rfl rfl rfl ?_
  refine sc_1 cf58 hW11 (isBare_any) trivial rfl rfl ?_
  clear hW11; intro w18 hW18
  refine sn trivial rfl rfl ?_
  refine St.nil fun a19 h19 => ?_
  refine hK17 _ _ ?_
  refine fr_cond (t := 16) h19 rfl (fun hb => ?_) (fun hb => ?_)
  ·have hc20 : (bareB 0 xb xc xk xn rl 0) = false := by simpa using hb
   clear hb
   refine wp_seq_k ?_
   intro K21 hK21
   refine fr_region ?_
   intro ops hops
   clear hops
   refine St.go h19 ?_; clear h19 a19
   refine sa trivial rfl rfl ?_
   refine St.nil fun a22 h22 => ?_
   refine hK21 _ _ ?_
   refine wp_ret ?_
   repeat (first | with_reducible refine of_then_ret ?_ | with_reducible refine of_block_ret ?_)
   have hB := hc20
   skip
   have R : insForm lm 5 xa xb xc xk xn rl al = 4 := (insForm_bare (show fieldsOf 5 = some (true, false, false, false, false, false, true) from rfl)).trans (if_neg (fun hh => Bool.noConfusion (hh.symm.trans hc20)))
   exact ret_tmp (t := 4) h22 rfl rfl ⟨by rw [R], hW18.bel⟩
  ·have hc23 : (bareB 0 xb xc xk xn rl 0) = true := by simpa using hb
   clear hb
   refine wp_skip ?_
   refine hK16 _ _ ?_
   refine wp_seq_k ?_
   intro K24 hK24
   refine fr_region ?_
   intro ops hops
   clear hops
   refine St.go h19 ?_; clear h19 a19
   refine sS 2 1 Try.underlying39 rfl infModule hW18 trivial rfl rfl rfl rfl ?_
   refine sS 1 8 Try.underlying46 rfl infIns hW18 trivial rfl rfl rfl rfl ?_
   refine sc_2 cf59 hW18 (bounds5 hlm) trivial rfl rfl rfl ?_
   clear hW18; intro w25 hW25
   refine sa trivial rfl rfl ?_
   refine St.nil fun a26 h26 => ?_
   refine hK24 _ _ ?_
   refine wp_ret ?_
   repeat (first | with_reducible refine of_then_ret ?_ | with_reducible refine of_block_ret ?_)
   have hB := hc23
   skip
   have R : insForm lm 5 xa xb xc xk xn rl al = boundsC lm 5 xk rl al := (insForm_bare (show fieldsOf 5 = some (true, false, false, false, false, false, true) from rfl)).trans (if_pos hc23)
   exact ret_tmp (t := 4) h26 rfl rfl ⟨by rw [R], hW25.bel⟩

set_option maxHeartbeats 4000000 in
set_option maxRecDepth 100000 in
theorem cIns6 {xa xb xc xk xn : Int} {ra aa : Option Addr} {rl rc al ac : Nat} {am : Option Addr} {lm cm : Nat} {w : World} (hlm : lm < 2305843009213693952) :
    Rd Try.prog 20 #[.agg #[.slice am lm cm], .agg #[.int .i64 6, .int .i64 xa, .int .i64 xb, .int .i64 xc, .int .i64 xk, .int .i64 xn, .slice ra rl rc, .slice aa al ac]] w (.int .i64 (insForm lm 6 xa xb xc xk xn rl al)) := by
  refine fr_enter (n := 20) Try.func20 rfl rfl rfl ?_
  intro a hF
  have hW := Wd.start w
  replace hF : Fr 20 a [(0, .agg #[.slice am lm cm]), (1, .agg #[.int .i64 6, .int .i64 xa, .int .i64 xb, .int .i64 xc, .int .i64 xk, .int .i64 xn, .slice ra rl rc, .slice aa al ac])] := hF
  refine wp_seq_k ?_
  intro K1 hK1
  refine fr_region ?_
  intro ops hops
  clear hops
  refine St.go hF ?_; clear hF a
  refine sB hW trivial rfl rfl ?_
  clear hW; intro w2 B2 hW2 hN; clear hN
  refine sB hW2 trivial rfl rfl ?_
  clear hW2; intro w3 B3 hW3 hN; clear hN
  refine sa trivial rfl rfl ?_
  refine St.nil fun a4 h4 => ?_
  refine hK1 _ _ ?_
  refine wp_seq_k ?_
  intro K5 hK5
  refine fr_region ?_
  intro ops hops
  clear hops
  refine St.go h4 ?_; clear h4 a4
  refine sS 0 8 Try.underlying46 rfl infIns hW3 trivial rfl rfl rfl rfl ?_
  refine sc_1 cf57 hW3 (wf6) trivial rfl rfl ?_
  clear hW3; intro w6 hW6
  refine sm trivial rfl rfl ?_
  intro a7 h7
  refine fr_pure (t := 10) (v := .agg #[.int .i64 6, .int .i64 0, .int .i64 xb, .int .i64 xc, .int .i64 0, .int .i64 xn, .slice ra rl rc, .slice aa al ac]) (w' := w6) h7 rfl rfl rfl (fun K hK => ?_) ?_
  ·have k0 : a7.tmps.getD 7 undef = .tuple #[.agg #[.int .i64 6, .int .i64 0, .int .i64 xb, .int .i64 xc, .int .i64 0, .int .i64 xn, .slice ra rl rc, .slice aa al ac], .bool true] := h7.sl 7 _ rfl
   go_simp
   exact hK
  clear h7; intro a8 hF8
  refine fr_pure (t := 11) (v := .bool true) (w' := w6) hF8 rfl rfl rfl (fun K hK => ?_) ?_
  ·have k0 : a8.tmps.getD 7 undef = .tuple #[.agg #[.int .i64 6, .int .i64 0, .int .i64 xb, .int .i64 xc, .int .i64 0, .int .i64 xn, .slice ra rl rc, .slice aa al ac], .bool true] := hF8.sl 7 _ rfl
   go_simp
   exact hK
  clear hF8; intro a9 hF9
  refine St.go hF9 ?_; clear hF9 a9
  refine sAIns hW6 trivial rfl ?_
  clear hW6; intro w10 B10 hW10 hN; clear hN
  refine sT 0 hW10 rfl rfl infIns rfl rfl rfl ?_
  clear hW10; intro w11 hW11
  refine sa trivial rfl rfl ?_
  refine St.nil fun a12 h12 => ?_
  refine hK5 _ _ ?_
  refine wp_seq_k ?_
  intro K13 hK13
  refine wp_seq_k ?_
  intro K14 hK14
  refine fr_region ?_
  intro ops hops
  clear hops
  refine St.go h12 ?_; clear h12 a12
  refine sm trivial rfl rfl ?_
  refine sn trivial rfl rfl ?_
  refine St.nil fun a15 h15 => ?_
  refine hK14 _ _ ?_
  refine fr_false (t := 13) h15 rfl ?_
  refine wp_skip ?_
  refine hK13 _ _ ?_
  refine wp_seq_k ?_
  intro K16 hK16
  refine wp_seq_k ?_
  intro K17 hK17
  refine fr_region ?_
  intro ops hops
  clear hops
  refine St.go h15 ?_; clear h15 a15
  refine sS 0 8 Try.underlying46 rfl infIns hW11 trivial rfl rfl rfl rfl ?_
  refine sc_1 cf58 hW11 (isBare_any) trivial rfl rfl ?_
  clear hW11; intro w18 hW18
  refine sn trivial rfl rfl ?_
  refine St.nil fun a19 h19 => ?_
  refine hK17 _ _ ?_
  refine fr_cond (t := 16) h19 rfl (fun hb => ?_) (fun hb => ?_)
  ·have hc20 : (bareB 0 xb xc 0 xn rl al) = false := by simpa using hb
   clear hb
   refine wp_seq_k ?_
   intro K21 hK21
   refine fr_region ?_
   intro ops hops
   clear hops
   refine St.go h19 ?_; clear h19 a19
   refine sa trivial rfl rfl ?_
   refine St.nil fun a22 h22 => ?_
   refine hK21 _ _ ?_
   refine wp_ret ?_
   repeat (first | with_reducible refine of_then_ret ?_ | with_reducible refine of_block_ret ?_)
   have hB := hc20
   skip
   have R : insForm lm 6 xa xb xc xk xn rl al = 4 := (insForm_bare (show fieldsOf 6 = some (true, false, false, true, false, false, false) from rfl)).trans (if_neg (fun hh => Bool.noConfusion (hh.symm.trans hc20)))
   exact ret_tmp (t := 4) h22 rfl rfl ⟨by rw [R], hW18.bel⟩
  ·have hc23 : (bareB 0 xb xc 0 xn rl al) = true := by simpa using hb
   clear hb
   refine wp_skip ?_
   refine hK16 _ _ ?_
   refine wp_seq_k ?_
   intro K24 hK24
   refine fr_region ?_
   intro ops hops
   clear hops
   refine St.go h19 ?_; clear h19 a19
   refine sS 2 1 Try.underlying39 rfl infModule hW18 trivial rfl rfl rfl rfl ?_
   refine sS 1 8 Try.underlying46 rfl infIns hW18 trivial rfl rfl rfl rfl ?_
   refine sc_2 cf59 hW18 (bounds6 hlm) trivial rfl rfl rfl ?_
   clear hW18; intro w25 hW25
   refine sa trivial rfl rfl ?_
   refine St.nil fun a26 h26 => ?_
   refine hK24 _ _ ?_
   refine wp_ret ?_
   repeat (first | with_reducible refine of_then_ret ?_ | with_reducible refine of_block_ret ?_)
   have hB := hc23
   skip
   have R : insForm lm 6 xa xb xc xk xn rl al = boundsC lm 6 xk rl al := (insForm_bare (show fieldsOf 6 = some (true, false, false, true, false, false, false) from rfl)).trans (if_pos hc23)
   exact ret_tmp (t := 4) h26 rfl rfl ⟨by rw [R], hW25.bel⟩

set_option maxHeartbeats 4000000 in
set_option maxRecDepth 100000 in
theorem cIns7 {xa xb xc xk xn : Int} {ra aa : Option Addr} {rl rc al ac : Nat} {am : Option Addr} {lm cm : Nat} {w : World} (hlm : lm < 2305843009213693952) :
    Rd Try.prog 20 #[.agg #[.slice am lm cm], .agg #[.int .i64 7, .int .i64 xa, .int .i64 xb, .int .i64 xc, .int .i64 xk, .int .i64 xn, .slice ra rl rc, .slice aa al ac]] w (.int .i64 (insForm lm 7 xa xb xc xk xn rl al)) := by
  refine fr_enter (n := 20) Try.func20 rfl rfl rfl ?_
  intro a hF
  have hW := Wd.start w
  replace hF : Fr 20 a [(0, .agg #[.slice am lm cm]), (1, .agg #[.int .i64 7, .int .i64 xa, .int .i64 xb, .int .i64 xc, .int .i64 xk, .int .i64 xn, .slice ra rl rc, .slice aa al ac])] := hF
  refine wp_seq_k ?_
  intro K1 hK1
  refine fr_region ?_
  intro ops hops
  clear hops
  refine St.go hF ?_; clear hF a
  refine sB hW trivial rfl rfl ?_
  clear hW; intro w2 B2 hW2 hN; clear hN
  refine sB hW2 trivial rfl rfl ?_
  clear hW2; intro w3 B3 hW3 hN; clear hN
  refine sa trivial rfl rfl ?_
  refine St.nil fun a4 h4 => ?_
  refine hK1 _ _ ?_
  refine wp_seq_k ?_
  intro K5 hK5
  refine fr_region ?_
  intro ops hops
  clear hops
  refine St.go h4 ?_; clear h4 a4
  refine sS 0 8 Try.underlying46 rfl infIns hW3 trivial rfl rfl rfl rfl ?_
  refine sc_1 cf57 hW3 (wf7) trivial rfl rfl ?_
  clear hW3; intro w6 hW6
  refine sm trivial rfl rfl ?_
  intro a7 h7
  refine fr_pure (t := 10) (v := .agg #[.int .i64 7, .int .i64 0, .int .i64 0, .int .i64 xc, .int .i64 0, .int .i64 xn, .slice ra rl rc, .slice aa al ac]) (w' := w6) h7 rfl rfl rfl (fun K hK => ?_) ?_
  ·have k0 : a7.tmps.getD 7 undef = .tuple #[.agg #[.int .i64 7, .int .i64 0, .int .i64 0, .int .i64 xc, .int .i64 0, .int .i64 xn, .slice ra rl rc, .slice aa al ac], .bool true] := h7.sl 7 _ rfl
   go_simp
   exact hK
  clear h7; intro a8 hF8
  refine fr_pure (t := 11) (v := .bool true) (w' := w6) hF8 rfl rfl rfl (fun K hK => ?_) ?_
  ·have k0 : a8.tmps.getD 7 undef = .tuple #[.agg #[.int .i64 7, .int .i64 0, .int .i64 0, .int .i64 xc, .int .i64 0, .int .i64 xn, .slice ra rl rc, .slice aa al ac], .bool true] := hF8.sl 7 _ rfl
   go_simp
   exact hK
  clear hF8; intro a9 hF9
  refine St.go hF9 ?_; clear hF9 a9
  refine sAIns hW6 trivial rfl ?_
  clear hW6; intro w10 B10 hW10 hN; clear hN
  refine sT 0 hW10 rfl rfl infIns rfl rfl rfl ?_
  clear hW10; intro w11 hW11
  refine sa trivial rfl rfl ?_
  refine St.nil fun a12 h12 => ?_
  refine hK5 _ _ ?_
  refine wp_seq_k ?_
  intro K13 hK13
  refine wp_seq_k ?_
  intro K14 hK14
  refine fr_region ?_
  intro ops hops
  clear hops
  refine St.go h12 ?_; clear h12 a12
  refine sm trivial rfl rfl ?_
  refine sn trivial rfl rfl ?_
  refine St.nil fun a15 h15 => ?_
  refine hK14 _ _ ?_
  refine fr_false (t := 13) h15 rfl ?_
  refine wp_skip ?_
  refine hK13 _ _ ?_
  refine wp_seq_k ?_
  intro K16 hK16
  refine wp_seq_k ?_
  intro K17 hK17
  refine fr_region ?_
  intro ops hops
  clear hops
  refine St.go h15 ?_; clear h15 a15
  refine sS 0 8 Try.underlying46 rfl infIns hW11 trivial rfl rfl rfl rfl ?_
  refine sc_1 cf58 hW11 (isBare_any) trivial rfl rfl ?_
  clear hW11; intro w18 hW18
  refine sn trivial rfl rfl ?_
  refine St.nil fun a19 h19 => ?_
  refine hK17 _ _ ?_
  refine fr_cond (t := 16) h19 rfl (fun hb => ?_) (fun hb => ?_)
  ·have hc20 : (bareB 0 0 xc 0 xn rl al) = false := by simpa using hb
   clear hb
   refine wp_seq_k ?_
   intro K21 hK21
   refine fr_region ?_
   intro ops hops
   clear hops
   refine St.go h19 ?_; clear h19 a19
   refine sa trivial rfl rfl ?_
   refine St.nil fun a22 h22 => ?_
   refine hK21 _ _ ?_
   refine wp_ret ?_
   repeat (first | with_reducible refine of_then_ret ?_ | with_reducible refine of_block_ret ?_)
   have hB := hc20
   skip
   have R : insForm lm 7 xa xb xc xk xn rl al = 4 := (insForm_bare (show fieldsOf 7 = some (true, true, false, true, false, false, false) from rfl)).trans (if_neg (fun hh => Bool.noConfusion (hh.symm.trans hc20)))
   exact ret_tmp (t := 4) h22 rfl rfl ⟨by rw [R], hW18.bel⟩
  ·have hc23 : (bareB 0 0 xc 0 xn rl al) = true := by simpa using hb
   clear hb
   refine wp_skip ?_
   refine hK16 _ _ ?_
   refine wp_seq_k ?_
   intro K24 hK24
   refine fr_region ?_
   intro ops hops
   clear hops
   refine St.go h19 ?_; clear h19 a19
   refine sS 2 1 Try.underlying39 rfl infModule hW18 trivial rfl rfl rfl rfl ?_
   refine sS 1 8 Try.underlying46 rfl infIns hW18 trivial rfl rfl rfl rfl ?_
   refine sc_2 cf59 hW18 (bounds7 hlm) trivial rfl rfl rfl ?_
   clear hW18; intro w25 hW25
   refine sa trivial rfl rfl ?_
   refine St.nil fun a26 h26 => ?_
   refine hK24 _ _ ?_
   refine wp_ret ?_
   repeat (first | with_reducible refine of_then_ret ?_ | with_reducible refine of_block_ret ?_)
   have hB := hc23
   skip
   have R : insForm lm 7 xa xb xc xk xn rl al = boundsC lm 7 xk rl al := (insForm_bare (show fieldsOf 7 = some (true, true, false, true, false, false, false) from rfl)).trans (if_pos hc23)
   exact ret_tmp (t := 4) h26 rfl rfl ⟨by rw [R], hW25.bel⟩

set_option maxHeartbeats 4000000 in
set_option maxRecDepth 100000 in
theorem cIns8 {xa xb xc xk xn : Int} {ra aa : Option Addr} {rl rc al ac : Nat} {am : Option Addr} {lm cm : Nat} {w : World} (hlm : lm < 2305843009213693952) :
    Rd Try.prog 20 #[.agg #[.slice am lm cm], .agg #[.int .i64 8, .int .i64 xa, .int .i64 xb, .int .i64 xc, .int .i64 xk, .int .i64 xn, .slice ra rl rc, .slice aa al ac]] w (.int .i64 (insForm lm 8 xa xb xc xk xn rl al)) := by
  refine fr_enter (n := 20) Try.func20 rfl rfl rfl ?_
  intro a hF
  have hW := Wd.start w
  replace hF : Fr 20 a [(0, .agg #[.slice am lm cm]), (1, .agg #[.int .i64 8, .int .i64 xa, .int .i64 xb, .int .i64 xc, .int .i64 xk, .int .i64 xn, .slice ra rl rc, .slice aa al ac])] := hF
  refine wp_seq_k ?_
  intro K1 hK1
  refine fr_region ?_
  intro ops hops
  clear hops
  refine St.go hF ?_; clear hF a
  refine sB hW trivial rfl rfl ?_
  clear hW; intro w2 B2 hW2 hN; clear hN
  refine sB hW2 trivial rfl rfl ?_
  clear hW2; intro w3 B3 hW3 hN; clear hN
  refine sa trivial rfl rfl ?_
  refine St.nil fun a4 h4 => ?_
  refine hK1 _ _ ?_
  refine wp_seq_k ?_
  intro K5 hK5
  refine fr_region ?_
  intro ops hops
  clear hops
  refine St.go h4 ?_; clear h4 a4
  refine sS 0 8 Try.underlying46 rfl infIns hW3 trivial rfl rfl rfl rfl ?_
  refine sc_1 cf57 hW3 (wf8) trivial rfl rfl ?_
  clear hW3; intro w6 hW6
  refine sm trivial rfl rfl ?_
  intro a7 h7
  refine fr_pure (t := 10) (v := .agg #[.int .i64 8, .int .i64 0, .int .i64 0, .int .i64 xc, .int .i64 xk, .int .i64 xn, .slice ra rl rc, .slice aa al ac]) (w' := w6) h7 rfl rfl rfl (fun K hK => ?_) ?_
  ·have k0 : a7.tmps.getD 7 undef = .tuple #[.agg #[.int .i64 8, .int .i64 0, .int .i64 0, .int .i64 xc, .int .i64 xk, .int .i64 xn, .slice ra rl rc, .slice aa al ac], .bool true] := h7.sl 7 _ rfl
   go_simp
   exact hK
  clear h7; intro a8 hF8
  refine fr_pure (t := 11) (v := .bool true) (w' := w6) hF8 rfl rfl rfl (fun K hK => ?_) ?_
  ·have k0 : a8.tmps.getD 7 undef = .tuple #[.agg #[.int .i64 8, .int .i64 0, .int .i64 0, .int .i64 xc, .int .i64 xk, .int .i64 xn, .slice ra rl rc, .slice aa al ac], .bool true] := hF8.sl 7 _ rfl
   go_simp
   exact hK
  clear hF8; intro a9 hF9
  refine St.go hF9 ?_; clear hF9 a9
  refine sAIns hW6 trivial rfl ?_
  clear hW6; intro w10 B10 hW10 hN; clear hN
  refine sT 0 hW10 rfl rfl infIns rfl rfl rfl ?_
  clear hW10; intro w11 hW11
  refine sa trivial rfl rfl ?_
  refine St.nil fun a12 h12 => ?_
  refine hK5 _ _ ?_
  refine wp_seq_k ?_
  intro K13 hK13
  refine wp_seq_k ?_
  intro K14 hK14
  refine fr_region ?_
  intro ops hops
  clear hops
  refine St.go h12 ?_; clear h12 a12
  refine sm trivial rfl rfl ?_
  refine sn trivial rfl rfl ?_
  refine St.nil fun a15 h15 => ?_
  refine hK14 _ _ ?_
  refine fr_false (t := 13) h15 rfl ?_
  refine wp_skip ?_
  refine hK13 _ _ ?_
  refine wp_seq_k ?_
  intro K16 hK16
  refine wp_seq_k ?_
  intro K17 hK17
  refine fr_region ?_
  intro ops hops
  clear hops
  refine St.go h15 ?_; clear h15 a15
  refine sS 0 8 Try.underlying46 rfl infIns hW11 trivial rfl rfl rfl rfl ?_
  refine sc_1 cf58 hW11 (isBare_any) trivial rfl rfl ?_
  clear hW11; intro w18 hW18
  refine sn trivial rfl rfl ?_
  refine St.nil fun a19 h19 => ?_
  refine hK17 _ _ ?_
  refine fr_cond (t := 16) h19 rfl (fun hb => ?_) (fun hb => ?_)
  ·have hc20 : (bareB 0 0 xc xk xn rl al) = false := by simpa using hb
   clear hb
   refine wp_seq_k ?_
   intro K21 hK21
   refine fr_region ?_
   intro ops hops
   clear hops
   refine St.go h19 ?_; clear h19 a19
   refine sa trivial rfl rfl ?_
   refine St.nil fun a22 h22 => ?_
   refine hK21 _ _ ?_
   refine wp_ret ?_
   repeat (first | with_reducible refine of_then_ret ?_ | with_reducible refine of_block_ret ?_)
   have hB := hc20
   skip
   have R : insForm lm 8 xa xb xc xk xn rl al = 4 := (insForm_bare (show fieldsOf 8 = some (true, true, false, false, false, false, false) from rfl)).trans (if_neg (fun hh => Bool.noConfusion (hh.symm.trans hc20)))
   exact ret_tmp (t := 4) h22 rfl rfl ⟨by rw [R], hW18.bel⟩
  ·have hc23 : (bareB 0 0 xc xk xn rl al) = true := by simpa using hb
   clear hb
   refine wp_skip ?_
   refine hK16 _ _ ?_
   refine wp_seq_k ?_
   intro K24 hK24
   refine fr_region ?_
   intro ops hops
   clear hops
   refine St.go h19 ?_; clear h19 a19
   refine sS 2 1 Try.underlying39 rfl infModule hW18 trivial rfl rfl rfl rfl ?_
   refine sS 1 8 Try.underlying46 rfl infIns hW18 trivial rfl rfl rfl rfl ?_
   refine sc_2 cf59 hW18 (boundsNo hlm (by decide)) trivial rfl rfl rfl ?_
   clear hW18; intro w25 hW25
   refine sa trivial rfl rfl ?_
   refine St.nil fun a26 h26 => ?_
   refine hK24 _ _ ?_
   refine wp_ret ?_
   repeat (first | with_reducible refine of_then_ret ?_ | with_reducible refine of_block_ret ?_)
   have hB := hc23
   skip
   have R : insForm lm 8 xa xb xc xk xn rl al = boundsC lm 8 xk rl al := (insForm_bare (show fieldsOf 8 = some (true, true, false, false, false, false, false) from rfl)).trans (if_pos hc23)
   exact ret_tmp (t := 4) h26 rfl rfl ⟨by rw [R], hW25.bel⟩

set_option maxHeartbeats 4000000 in
set_option maxRecDepth 100000 in
theorem cIns9 {xa xb xc xk xn : Int} {ra aa : Option Addr} {rl rc al ac : Nat} {am : Option Addr} {lm cm : Nat} {w : World} (hlm : lm < 2305843009213693952) :
    Rd Try.prog 20 #[.agg #[.slice am lm cm], .agg #[.int .i64 9, .int .i64 xa, .int .i64 xb, .int .i64 xc, .int .i64 xk, .int .i64 xn, .slice ra rl rc, .slice aa al ac]] w (.int .i64 (insForm lm 9 xa xb xc xk xn rl al)) := by
  refine fr_enter (n := 20) Try.func20 rfl rfl rfl ?_
  intro a hF
  have hW := Wd.start w
  replace hF : Fr 20 a [(0, .agg #[.slice am lm cm]), (1, .agg #[.int .i64 9, .int .i64 xa, .int .i64 xb, .int .i64 xc, .int .i64 xk, .int .i64 xn, .slice ra rl rc, .slice aa al ac])] := hF
  refine wp_seq_k ?_
  intro K1 hK1
  refine fr_region ?_
  intro ops hops
  clear hops
  refine St.go hF ?_; clear hF a
  refine sB hW trivial rfl rfl ?_
  clear hW; intro w2 B2 hW2 hN; clear hN
  refine sB hW2 trivial rfl rfl ?_
  clear hW2; intro w3 B3 hW3 hN; clear hN
  refine sa trivial rfl rfl ?_
  refine St.nil fun a4 h4 => ?_
  refine hK1 _ _ ?_
  refine wp_seq_k ?_
  intro K5 hK5
  refine fr_region ?_
  intro ops hops
  clear hops
  refine St.go h4 ?_; clear h4 a4
  refine sS 0 8 Try.underlying46 rfl infIns hW3 trivial rfl rfl rfl rfl ?_
  refine sc_1 cf57 hW3 (wf9) trivial rfl rfl ?_
  clear hW3; intro w6 hW6
  refine sm trivial rfl rfl ?_
  intro a7 h7
  refine fr_pure (t := 10) (v := .agg #[.int .i64 9, .int .i64 0, .int .i64 0, .int .i64 xc, .int .i64 xk, .int .i64 xn, .slice ra rl rc, .slice aa al ac]) (w' := w6) h7 rfl rfl rfl (fun K hK => ?_) ?_
  ·have k0 : a7.tmps.getD 7 undef = .tuple #[.agg #[.int .i64 9, .int .i64 0, .int .i64 0, .int .i64 xc, .int .i64 xk, .int .i64 xn, .slice ra rl rc, .slice aa al ac], .bool true] := h7.sl 7 _ rfl
   go_simp
   exact hK
  clear h7; intro a8 hF8
  refine fr_pure (t := 11) (v := .bool true) (w' := w6) hF8 rfl rfl rfl (fun K hK => ?_) ?_
  ·have k0 : a8.tmps.getD 7 undef = .tuple #[.agg #[.int .i64 9, .int .i64 0, .int .i64 0, .int .i64 xc, .int .i64 xk, .int .i64 xn, .slice ra rl rc, .slice aa al ac], .bool true] := hF8.sl 7 _ rfl
   go_simp
   exact hK
  clear hF8; intro a9 hF9
  refine St.go hF9 ?_; clear hF9 a9
  refine sAIns hW6 trivial rfl ?_
  clear hW6; intro w10 B10 hW10 hN; clear hN
  refine sT 0 hW10 rfl rfl infIns rfl rfl rfl ?_
  clear hW10; intro w11 hW11
  refine sa trivial rfl rfl ?_
  refine St.nil fun a12 h12 => ?_
  refine hK5 _ _ ?_
  refine wp_seq_k ?_
  intro K13 hK13
  refine wp_seq_k ?_
  intro K14 hK14
  refine fr_region ?_
  intro ops hops
  clear hops
  refine St.go h12 ?_; clear h12 a12
  refine sm trivial rfl rfl ?_
  refine sn trivial rfl rfl ?_
  refine St.nil fun a15 h15 => ?_
  refine hK14 _ _ ?_
  refine fr_false (t := 13) h15 rfl ?_
  refine wp_skip ?_
  refine hK13 _ _ ?_
  refine wp_seq_k ?_
  intro K16 hK16
  refine wp_seq_k ?_
  intro K17 hK17
  refine fr_region ?_
  intro ops hops
  clear hops
  refine St.go h15 ?_; clear h15 a15
  refine sS 0 8 Try.underlying46 rfl infIns hW11 trivial rfl rfl rfl rfl ?_
  refine sc_1 cf58 hW11 (isBare_any) trivial rfl rfl ?_
  clear hW11; intro w18 hW18
  refine sn trivial rfl rfl ?_
  refine St.nil fun a19 h19 => ?_
  refine hK17 _ _ ?_
  refine fr_cond (t := 16) h19 rfl (fun hb => ?_) (fun hb => ?_)
  ·have hc20 : (bareB 0 0 xc xk xn rl al) = false := by simpa using hb
   clear hb
   refine wp_seq_k ?_
   intro K21 hK21
   refine fr_region ?_
   intro ops hops
   clear hops
   refine St.go h19 ?_; clear h19 a19
   refine sa trivial rfl rfl ?_
   refine St.nil fun a22 h22 => ?_
   refine hK21 _ _ ?_
   refine wp_ret ?_
   repeat (first | with_reducible refine of_then_ret ?_ | with_reducible refine of_block_ret ?_)
   have hB := hc20
   skip
   have R : insForm lm 9 xa xb xc xk xn rl al = 4 := (insForm_bare (show fieldsOf 9 = some (true, true, false, false, false, false, false) from rfl)).trans (if_neg (fun hh => Bool.noConfusion (hh.symm.trans hc20)))
   exact ret_tmp (t := 4) h22 rfl rfl ⟨by rw [R], hW18.bel⟩
  ·have hc23 : (bareB 0 0 xc xk xn rl al) = true := by simpa using hb
   clear hb
   refine wp_skip ?_
   refine hK16 _ _ ?_
   refine wp_seq_k ?_
   intro K24 hK24
   refine fr_region ?_
   intro ops hops
   clear hops
   refine St.go h19 ?_; clear h19 a19
   refine sS 2 1 Try.underlying39 rfl infModule hW18 trivial rfl rfl rfl rfl ?_
   refine sS 1 8 Try.underlying46 rfl infIns hW18 trivial rfl rfl rfl rfl ?_
   refine sc_2 cf59 hW18 (boundsNo hlm (by decide)) trivial rfl rfl rfl ?_
   clear hW18; intro w25 hW25
   refine sa trivial rfl rfl ?_
   refine St.nil fun a26 h26 => ?_
   refine hK24 _ _ ?_
   refine wp_ret ?_
   repeat (first | with_reducible refine of_then_ret ?_ | with_reducible refine of_block_ret ?_)
   have hB := hc23
   skip
   have R : insForm lm 9 xa xb xc xk xn rl al = boundsC lm 9 xk rl al := (insForm_bare (show fieldsOf 9 = some (true, true, false, false, false, false, false) from rfl)).trans (if_pos hc23)
   exact ret_tmp (t := 4) h26 rfl rfl ⟨by rw [R], hW25.bel⟩

set_option maxHeartbeats 4000000 in
set_option maxRecDepth 100000 in
theorem cIns10 {xa xb xc xk xn : Int} {ra aa : Option Addr} {rl rc al ac : Nat} {am : Option Addr} {lm cm : Nat} {w : World} (hlm : lm < 2305843009213693952) :
    Rd Try.prog 20 #[.agg #[.slice am lm cm], .agg #[.int .i64 10, .int .i64 xa, .int .i64 xb, .int .i64 xc, .int .i64 xk, .int .i64 xn, .slice ra rl rc, .slice aa al ac]] w (.int .i64 (insForm lm 10 xa xb xc xk xn rl al)) := by
  refine fr_enter (n := 20) Try.func20 rfl rfl rfl ?_
  intro a hF
  have hW := Wd.start w
  replace hF : Fr 20 a [(0, .agg #[.slice am lm cm]), (1, .agg #[.int .i64 10, .int .i64 xa, .int .i64 xb, .int .i64 xc, .int .i64 xk, .int .i64 xn, .slice ra rl rc, .slice aa al ac])] := hF
  refine wp_seq_k ?_
  intro K1 hK1
  refine fr_region ?_
  intro ops hops
  clear hops
  refine St.go hF ?_; clear hF a
  refine sB hW trivial rfl rfl ?_
  clear hW; intro w2 B2 hW2 hN; clear hN
  refine sB hW2 trivial rfl rfl ?_
  clear hW2; intro w3 B3 hW3 hN; clear hN
  refine sa trivial rfl rfl ?_
  refine St.nil fun a4 h4 => ?_
  refine hK1 _ _ ?_
  refine wp_seq_k ?_
  intro K5 hK5
  refine fr_region ?_
  intro ops hops
  clear hops
  refine St.go h4 ?_; clear h4 a4
  refine sS 0 8 Try.underlying46 rfl infIns hW3 trivial rfl rfl rfl rfl ?_
  refine sc_1 cf57 hW3 (wf10) trivial rfl rfl ?_
  clear hW3; intro w6 hW6
  refine sm trivial rfl rfl ?_
  intro a7 h7
  refine fr_pure (t := 10) (v := .agg #[.int .i64 10, .int .i64 0, .int .i64 0, .int .i64 0, .int .i64 xk, .int .i64 xn, .slice ra rl rc, .slice aa al ac]) (w' := w6) h7 rfl rfl rfl (fun K hK => ?_) ?_
  ·have k0 : a7.tmps.getD 7 undef = .tuple #[.agg #[.int .i64 10, .int .i64 0, .int .i64 0, .int .i64 0, .int .i64 xk, .int .i64 xn, .slice ra rl rc, .slice aa al ac], .bool true] := h7.sl 7 _ rfl
   go_simp
   exact hK
  clear h7; intro a8 hF8
  refine fr_pure (t := 11) (v := .bool true) (w' := w6) hF8 rfl rfl rfl (fun K hK => ?_) ?_
  ·have k0 : a8.tmps.getD 7 undef = .tuple #[.agg #[.int .i64 10, .int .i64 0, .int .i64 0, .int .i64 0, .int .i64 xk, .int .i64 xn, .slice ra rl rc, .slice aa al ac], .bool true] := hF8.sl 7 _ rfl
   go_simp
   exact hK
  clear hF8; intro a9 hF9
  refine St.go hF9 ?_; clear hF9 a9
  refine sAIns hW6 trivial rfl ?_
  clear hW6; intro w10 B10 hW10 hN; clear hN
  refine sT 0 hW10 rfl rfl infIns rfl rfl rfl ?_
  clear hW10; intro w11 hW11
  refine sa trivial rfl rfl ?_
  refine St.nil fun a12 h12 => ?_
  refine hK5 _ _ ?_
  refine wp_seq_k ?_
  intro K13 hK13
  refine wp_seq_k ?_
  intro K14 hK14
  refine fr_region ?_
  intro ops hops
  clear hops
  refine St.go h12 ?_; clear h12 a12
  refine sm trivial rfl rfl ?_
  refine sn trivial rfl rfl ?_
  refine St.nil fun a15 h15 => ?_
  refine hK14 _ _ ?_
  refine fr_false (t := 13) h15 rfl ?_
  refine wp_skip ?_
  refine hK13 _ _ ?_
  refine wp_seq_k ?_
  intro K16 hK16
  refine wp_seq_k ?_
  intro K17 hK17
  refine fr_region ?_
  intro ops hops
  clear hops
  refine St.go h15 ?_; clear h15 a15
  refine sS 0 8 Try.underlying46 rfl infIns hW11 trivial rfl rfl rfl rfl ?_
  refine sc_1 cf58 hW11 (isBare_any) trivial rfl rfl ?_
  clear hW11; intro w18 hW18
  refine sn trivial rfl rfl ?_
  refine St.nil fun a19 h19 => ?_
  refine hK17 _ _ ?_
  refine fr_cond (t := 16) h19 rfl (fun hb => ?_) (fun hb => ?_)
  ·have hc20 : (bareB 0 0 0 xk xn rl al) = false := by simpa using hb
   clear hb
   refine wp_seq_k ?_
   intro K21 hK21
   refine fr_region ?_
   intro ops hops
   clear hops
   refine St.go h19 ?_; clear h19 a19
   refine sa trivial rfl rfl ?_
   refine St.nil fun a22 h22 => ?_
   refine hK21 _ _ ?_
   refine wp_ret ?_
   repeat (first | with_reducible refine of_then_ret ?_ | with_reducible refine of_block_ret ?_)
   have hB := hc20
   skip
   have R : insForm lm 10 xa xb xc xk xn rl al = 4 := (insForm_bare (show fieldsOf 10 = some (true, true, true, false, false, false, false) from rfl)).trans (if_neg (fun hh => Bool.noConfusion (hh.symm.trans hc20)))
   exact ret_tmp (t := 4) h22 rfl rfl ⟨by rw [R], hW18.bel⟩
  ·have hc23 : (bareB 0 0 0 xk xn rl al) = true := by simpa using hb
   clear hb
   refine wp_skip ?_
   refine hK16 _ _ ?_
   refine wp_seq_k ?_
   intro K24 hK24
   refine fr_region ?_
   intro ops hops
   clear hops
   refine St.go h19 ?_; clear h19 a19
   refine sS 2 1 Try.underlying39 rfl infModule hW18 trivial rfl rfl rfl rfl ?_
   refine sS 1 8 Try.underlying46 rfl infIns hW18 trivial rfl rfl rfl rfl ?_
   refine sc_2 cf59 hW18 (boundsNo hlm (by decide)) trivial rfl rfl rfl ?_
   clear hW18; intro w25 hW25
   refine sa trivial rfl rfl ?_
   refine St.nil fun a26 h26 => ?_
   refine hK24 _ _ ?_
   refine wp_ret ?_
   repeat (first | with_reducible refine of_then_ret ?_ | with_reducible refine of_block_ret ?_)
   have hB := hc23
   skip
   have R : insForm lm 10 xa xb xc xk xn rl al = boundsC lm 10 xk rl al := (insForm_bare (show fieldsOf 10 = some (true, true, true, false, false, false, false) from rfl)).trans (if_pos hc23)
   exact ret_tmp (t := 4) h26 rfl rfl ⟨by rw [R], hW25.bel⟩

set_option maxHeartbeats 4000000 in
set_option maxRecDepth 100000 in
theorem cIns11 {xa xb xc xk xn : Int} {ra aa : Option Addr} {rl rc al ac : Nat} {am : Option Addr} {lm cm : Nat} {w : World} (hlm : lm < 2305843009213693952) :
    Rd Try.prog 20 #[.agg #[.slice am lm cm], .agg #[.int .i64 11, .int .i64 xa, .int .i64 xb, .int .i64 xc, .int .i64 xk, .int .i64 xn, .slice ra rl rc, .slice aa al ac]] w (.int .i64 (insForm lm 11 xa xb xc xk xn rl al)) := by
  refine fr_enter (n := 20) Try.func20 rfl rfl rfl ?_
  intro a hF
  have hW := Wd.start w
  replace hF : Fr 20 a [(0, .agg #[.slice am lm cm]), (1, .agg #[.int .i64 11, .int .i64 xa, .int .i64 xb, .int .i64 xc, .int .i64 xk, .int .i64 xn, .slice ra rl rc, .slice aa al ac])] := hF
  refine wp_seq_k ?_
  intro K1 hK1
  refine fr_region ?_
  intro ops hops
  clear hops
  refine St.go hF ?_; clear hF a
  refine sB hW trivial rfl rfl ?_
  clear hW; intro w2 B2 hW2 hN; clear hN
  refine sB hW2 trivial rfl rfl ?_
  clear hW2; intro w3 B3 hW3 hN; clear hN
  refine sa trivial rfl rfl ?_
  refine St.nil fun a4 h4 => ?_
  refine hK1 _ _ ?_
  refine wp_seq_k ?_
  intro K5 hK5
  refine fr_region ?_
  intro ops hops
  clear hops
  refine St.go h4 ?_; clear h4 a4
  refine sS 0 8 Try.underlying46 rfl infIns hW3 trivial rfl rfl rfl rfl ?_
  refine sc_1 cf57 hW3 (wf11) trivial rfl rfl ?_
  clear hW3; intro w6 hW6
  refine sm trivial rfl rfl ?_
  intro a7 h7
  refine fr_pure (t := 10) (v := .agg #[.int .i64 11, .int .i64 0, .int .i64 xb, .int .i64 xc, .int .i64 xk, .int .i64 xn, .slice ra rl rc, .slice aa al ac]) (w' := w6) h7 rfl rfl rfl (fun K hK => ?_) ?_
  ·have k0 : a7.tmps.getD 7 undef = .tuple #[.agg #[.int .i64 11, .int .i64 0, .int .i64 xb, .int .i64 xc, .int .i64 xk, .int .i64 xn, .slice ra rl rc, .slice aa al ac], .bool true] := h7.sl 7 _ rfl
   go_simp
   exact hK
  clear h7; intro a8 hF8
  refine fr_pure (t := 11) (v := .bool true) (w' := w6) hF8 rfl rfl rfl (fun K hK => ?_) ?_
  ·have k0 : a8.tmps.getD 7 undef = .tuple #[.agg #[.int .i64 11, .int .i64 0, .int .i64 xb, .int .i64 xc, .int .i64 xk, .int .i64 xn, .slice ra rl rc, .slice aa al ac], .bool true] := hF8.sl 7 _ rfl
   go_simp
   exact hK
  clear hF8; intro a9 hF9
  refine St.go hF9 ?_; clear hF9 a9
  refine sAIns hW6 trivial rfl ?_
  clear hW6; intro w10 B10 hW10 hN; clear hN
  refine sT 0 hW10 rfl rfl infIns rfl rfl rfl ?_
  clear hW10; intro w11 hW11
  refine sa trivial rfl rfl ?_
  refine St.nil fun a12 h12 => ?_
  refine hK5 _ _ ?_
  refine wp_seq_k ?_
  intro K13 hK13
  refine wp_seq_k ?_
  intro K14 hK14
  refine fr_region ?_
  intro ops hops
  clear hops
  refine St.go h12 ?_; clear h12 a12
  refine sm trivial rfl rfl ?_
  refine sn trivial rfl rfl ?_
  refine St.nil fun a15 h15 => ?_
  refine hK14 _ _ ?_
  refine fr_false (t := 13) h15 rfl ?_
  refine wp_skip ?_
  refine hK13 _ _ ?_
  refine wp_seq_k ?_
  intro K16 hK16
  refine wp_seq_k ?_
  intro K17 hK17
  refine fr_region ?_
  intro ops hops
  clear hops
  refine St.go h15 ?_; clear h15 a15
  refine sS 0 8 Try.underlying46 rfl infIns hW11 trivial rfl rfl rfl rfl ?_
  refine sc_1 cf58 hW11 (isBare_any) trivial rfl rfl ?_
  clear hW11; intro w18 hW18
  refine sn trivial rfl rfl ?_
  refine St.nil fun a19 h19 => ?_
  refine hK17 _ _ ?_
  refine fr_cond (t := 16) h19 rfl (fun hb => ?_) (fun hb => ?_)
  ·have hc20 : (bareB 0 xb xc xk xn rl al) = false := by simpa using hb
   clear hb
   refine wp_seq_k ?_
   intro K21 hK21
   refine fr_region ?_
   intro ops hops
   clear hops
   refine St.go h19 ?_; clear h19 a19
   refine sa trivial rfl rfl ?_
   refine St.nil fun a22 h22 => ?_
   refine hK21 _ _ ?_
   refine wp_ret ?_
   repeat (first | with_reducible refine of_then_ret ?_ | with_reducible refine of_block_ret ?_)
   have hB := hc20
   skip
   have R : insForm lm 11 xa xb xc xk xn rl al = 4 := (insForm_bare (show fieldsOf 11 = some (true, false, false, false, false, false, false) from rfl)).trans (if_neg (fun hh => Bool.noConfusion (hh.symm.trans hc20)))
   exact ret_tmp (t := 4) h22 rfl rfl ⟨by rw [R], hW18.bel⟩
  ·have hc23 : (bareB 0 xb xc xk xn rl al) = true := by simpa using hb
   clear hb
   refine wp_skip ?_
   refine hK16 _ _ ?_
   refine wp_seq_k ?_
   intro K24 hK24
   refine fr_region ?_
   intro ops hops
   clear hops
   refine St.go h19 ?_; clear h19 a19
   refine sS 2 1 Try.underlying39 rfl infModule hW18 trivial rfl rfl rfl rfl ?_
   refine sS 1 8 Try.underlying46 rfl infIns hW18 trivial rfl rfl rfl rfl ?_
   refine sc_2 cf59 hW18 (boundsNo hlm (by decide)) trivial rfl rfl rfl ?_
   clear hW18; intro w25 hW25
   refine sa trivial rfl rfl ?_
   refine St.nil fun a26 h26 => ?_
   refine hK24 _ _ ?_
   refine wp_ret ?_
   repeat (first | with_reducible refine of_then_ret ?_ | with_reducible refine of_block_ret ?_)
   have hB := hc23
   skip
   have R : insForm lm 11 xa xb xc xk xn rl al = boundsC lm 11 xk rl al := (insForm_bare (show fieldsOf 11 = some (true, false, false, false, false, false, false) from rfl)).trans (if_pos hc23)
   exact ret_tmp (t := 4) h26 rfl rfl ⟨by rw [R], hW25.bel⟩

set_option maxHeartbeats 4000000 in
set_option maxRecDepth 100000 in
theorem cIns12 {xa xb xc xk xn : Int} {ra aa : Option Addr} {rl rc al ac : Nat} {am : Option Addr} {lm cm : Nat} {w : World} (hlm : lm < 2305843009213693952) :
    Rd Try.prog 20 #[.agg #[.slice am lm cm], .agg #[.int .i64 12, .int .i64 xa, .int .i64 xb, .int .i64 xc, .int .i64 xk, .int .i64 xn, .slice ra rl rc, .slice aa al ac]] w (.int .i64 (insForm lm 12 xa xb xc xk xn rl al)) := by
  refine fr_enter (n := 20) Try.func20 rfl rfl rfl ?_
  intro a hF
  have hW := Wd.start w
  replace hF : Fr 20 a [(0, .agg #[.slice am lm cm]), (1, .agg #[.int .i64 12, .int .i64 xa, .int .i64 xb, .int .i64 xc, .int .i64 xk, .int .i64 xn, .slice ra rl rc, .slice aa al ac])] := hF
  refine wp_seq_k ?_
  intro K1 hK1
  refine fr_region ?_
  intro ops hops
  clear hops
  refine St.go hF ?_; clear hF a
  refine sB hW trivial rfl rfl ?_
  clear hW; intro w2 B2 hW2 hN; clear hN
  refine sB hW2 trivial rfl rfl ?_
  clear hW2; intro w3 B3 hW3 hN; clear hN
  refine sa trivial rfl rfl ?_
  refine St.nil fun a4 h4 => ?_
  refine hK1 _ _ ?_
  refine wp_seq_k ?_
  intro K5 hK5
  refine fr_region ?_
  intro ops hops
  clear hops
  refine St.go h4 ?_; clear h4 a4
  refine sS 0 8 Try.underlying46 rfl infIns hW3 trivial rfl rfl rfl rfl ?_
  refine sc_1 cf57 hW3 (wf12) trivial rfl rfl ?_
  clear hW3; intro w6 hW6
  refine sm trivial rfl rfl ?_
  intro a7 h7
  refine fr_pure (t := 10) (v := .agg #[.int .i64 12, .int .i64 xa, .int .i64 xb, .int .i64 xc, .int .i64 xk, .int .i64 xn, .slice ra rl rc, .slice aa al ac]) (w' := w6) h7 rfl rfl rfl (fun K hK => ?_) ?_
  ·have k0 : a7.tmps.getD 7 undef = .tuple #[.agg #[.int .i64 12, .int .i64 xa, .int .i64 xb, .int .i64 xc, .int .i64 xk, .int .i64 xn, .slice ra rl rc, .slice aa al ac], .bool true] := h7.sl 7 _ rfl
   go_simp
   exact hK
  clear h7; intro a8 hF8
  refine fr_pure (t := 11) (v := .bool true) (w' := w6) hF8 rfl rfl rfl (fun K hK => ?_) ?_
  ·have k0 : a8.tmps.getD 7 undef = .tuple #[.agg #[.int .i64 12, .int .i64 xa, .int .i64 xb, .int .i64 xc, .int .i64 xk, .int .i64 xn, .slice ra rl rc, .slice aa al ac], .bool true] := hF8.sl 7 _ rfl
   go_simp
   exact hK
  clear hF8; intro a9 hF9
  refine St.go hF9 ?_; clear hF9 a9
  refine sAIns hW6 trivial rfl ?_
  clear hW6; intro w10 B10 hW10 hN; clear hN
  refine sT 0 hW10 rfl rfl infIns rfl rfl rfl ?_
  clear hW10; intro w11 hW11
  refine sa trivial rfl rfl ?_
  refine St.nil fun a12 h12 => ?_
  refine hK5 _ _ ?_
  refine wp_seq_k ?_
  intro K13 hK13
  refine wp_seq_k ?_
  intro K14 hK14
  refine fr_region ?_
  intro ops hops
  clear hops
  refine St.go h12 ?_; clear h12 a12
  refine sm trivial rfl rfl ?_
  refine sn trivial rfl rfl ?_
  refine St.nil fun a15 h15 => ?_
  refine hK14 _ _ ?_
  refine fr_false (t := 13) h15 rfl ?_
  refine wp_skip ?_
  refine hK13 _ _ ?_
  refine wp_seq_k ?_
  intro K16 hK16
  refine wp_seq_k ?_
  intro K17 hK17
  refine fr_region ?_
  intro ops hops
  clear hops
  refine St.go h15 ?_; clear h15 a15
  refine sS 0 8 Try.underlying46 rfl infIns hW11 trivial rfl rfl rfl rfl ?_
  refine sc_1 cf58 hW11 (isBare_any) trivial rfl rfl ?_
  clear hW11; intro w18 hW18
  refine sn trivial rfl rfl ?_
  refine St.nil fun a19 h19 => ?_
  refine hK17 _ _ ?_
  refine fr_cond (t := 16) h19 rfl (fun hb => ?_) (fun hb => ?_)
  ·have hc20 : (bareB xa xb xc xk xn rl al) = false := by simpa using hb
   clear hb
   refine wp_seq_k ?_
   intro K21 hK21
   refine fr_region ?_
   intro ops hops
   clear hops
   refine St.go h19 ?_; clear h19 a19
   refine sa trivial rfl rfl ?_
   refine St.nil fun a22 h22 => ?_
   refine hK21 _ _ ?_
   refine wp_ret ?_
   repeat (first | with_reducible refine of_then_ret ?_ | with_reducible refine of_block_ret ?_)
   have hB := hc20
   skip
   have R : insForm lm 12 xa xb xc xk xn rl al = 4 := (insForm_bare (show fieldsOf 12 = some (false, false, false, false, false, false, false) from rfl)).trans (if_neg (fun hh => Bool.noConfusion (hh.symm.trans hc20)))
   exact ret_tmp (t := 4) h22 rfl rfl ⟨by rw [R], hW18.bel⟩
  ·have hc23 : (bareB xa xb xc xk xn rl al) = true := by simpa using hb
   clear hb
   refine wp_skip ?_
   refine hK16 _ _ ?_
   refine wp_seq_k ?_
   intro K24 hK24
   refine fr_region ?_
   intro ops hops
   clear hops
   refine St.go h19 ?_; clear h19 a19
   refine sS 2 1 Try.underlying39 rfl infModule hW18 trivial rfl rfl rfl rfl ?_
   refine sS 1 8 Try.underlying46 rfl infIns hW18 trivial rfl rfl rfl rfl ?_
   refine sc_2 cf59 hW18 (boundsNo hlm (by decide)) trivial rfl rfl rfl ?_
   clear hW18; intro w25 hW25
   refine sa trivial rfl rfl ?_
   refine St.nil fun a26 h26 => ?_
   refine hK24 _ _ ?_
   refine wp_ret ?_
   repeat (first | with_reducible refine of_then_ret ?_ | with_reducible refine of_block_ret ?_)
   have hB := hc23
   skip
   have R : insForm lm 12 xa xb xc xk xn rl al = boundsC lm 12 xk rl al := (insForm_bare (show fieldsOf 12 = some (false, false, false, false, false, false, false) from rfl)).trans (if_pos hc23)
   exact ret_tmp (t := 4) h26 rfl rfl ⟨by rw [R], hW25.bel⟩

set_option maxHeartbeats 4000000 in
set_option maxRecDepth 100000 in
theorem cIns13 {xa xb xc xk xn : Int} {ra aa : Option Addr} {rl rc al ac : Nat} {am : Option Addr} {lm cm : Nat} {w : World} (hlm : lm < 2305843009213693952) :
    Rd Try.prog 20 #[.agg #[.slice am lm cm], .agg #[.int .i64 13, .int .i64 xa, .int .i64 xb, .int .i64 xc, .int .i64 xk, .int .i64 xn, .slice ra rl rc, .slice aa al ac]] w (.int .i64 (insForm lm 13 xa xb xc xk xn rl al)) := by
  refine fr_enter (n := 20) Try.func20 rfl rfl rfl ?_
  intro a hF
  have hW := Wd.start w
  replace hF : Fr 20 a [(0, .agg #[.slice am lm cm]), (1, .agg #[.int .i64 13, .int .i64 xa, .int .i64 xb, .int .i64 xc, .int .i64 xk, .int .i64 xn, .slice ra rl rc, .slice aa al ac])] := hF
  refine wp_seq_k ?_
  intro K1 hK1
  refine fr_region ?_
  intro ops hops
  clear hops
  refine St.go hF ?_; clear hF a
  refine sB hW trivial rfl rfl ?_
  clear hW; intro w2 B2 hW2 hN; clear hN
  refine sB hW2 trivial rfl rfl ?_
  clear hW2; intro w3 B3 hW3 hN; clear hN
  refine sa trivial rfl rfl ?_
  refine St.nil fun a4 h4 => ?_
  refine hK1 _ _ ?_
  refine wp_seq_k ?_
  intro K5 hK5
  refine fr_region ?_
  intro ops hops
  clear hops
  refine St.go h4 ?_; clear h4 a4
  refine sS 0 8 Try.underlying46 rfl infIns hW3 trivial rfl rfl rfl rfl ?_
  refine sc_1 cf57 hW3 (wf13) trivial rfl rfl ?_
  clear hW3; intro w6 hW6
  refine sm trivial rfl rfl ?_
  intro a7 h7
  refine fr_pure (t := 10) (v := .agg #[.int .i64 13, .int .i64 0, .int .i64 xb, .int .i64 xc, .int .i64 xk, .int .i64 xn, .slice ra rl rc, .slice aa al ac]) (w' := w6) h7 rfl rfl rfl (fun K hK => ?_) ?_
  ·have k0 : a7.tmps.getD 7 undef = .tuple #[.agg #[.int .i64 13, .int .i64 0, .int .i64 xb, .int .i64 xc, .int .i64 xk, .int .i64 xn, .slice ra rl rc, .slice aa al ac], .bool true] := h7.sl 7 _ rfl
   go_simp
   exact hK
  clear h7; intro a8 hF8
  refine fr_pure (t := 11) (v := .bool true) (w' := w6) hF8 rfl rfl rfl (fun K hK => ?_) ?_
  ·have k0 : a8.tmps.getD 7 undef = .tuple #[.agg #[.int .i64 13, .int .i64 0, .int .i64 xb, .int .i64 xc, .int .i64 xk, .int .i64 xn, .slice ra rl rc, .slice aa al ac], .bool true] := hF8.sl 7 _ rfl
   go_simp
   exact hK
  clear hF8; intro a9 hF9
  refine St.go hF9 ?_; clear hF9 a9
  refine sAIns hW6 trivial rfl ?_
  clear hW6; intro w10 B10 hW10 hN; clear hN
  refine sT 0 hW10 rfl rfl infIns rfl rfl rfl ?_
  clear hW10; intro w11 hW11
  refine sa trivial rfl rfl ?_
  refine St.nil fun a12 h12 => ?_
  refine hK5 _ _ ?_
  refine wp_seq_k ?_
  intro K13 hK13
  refine wp_seq_k ?_
  intro K14 hK14
  refine fr_region ?_
  intro ops hops
  clear hops
  refine St.go h12 ?_; clear h12 a12
  refine sm trivial rfl rfl ?_
  refine sn trivial rfl rfl ?_
  refine St.nil fun a15 h15 => ?_
  refine hK14 _ _ ?_
  refine fr_false (t := 13) h15 rfl ?_
  refine wp_skip ?_
  refine hK13 _ _ ?_
  refine wp_seq_k ?_
  intro K16 hK16
  refine wp_seq_k ?_
  intro K17 hK17
  refine fr_region ?_
  intro ops hops
  clear hops
  refine St.go h15 ?_; clear h15 a15
  refine sS 0 8 Try.underlying46 rfl infIns hW11 trivial rfl rfl rfl rfl ?_
  refine sc_1 cf58 hW11 (isBare_any) trivial rfl rfl ?_
  clear hW11; intro w18 hW18
  refine sn trivial rfl rfl ?_
  refine St.nil fun a19 h19 => ?_
  refine hK17 _ _ ?_
  refine fr_cond (t := 16) h19 rfl (fun hb => ?_) (fun hb => ?_)
  ·have hc20 : (bareB 0 xb xc xk xn rl al) = false := by simpa using hb
   clear hb
   refine wp_seq_k ?_
   intro K21 hK21
   refine fr_region ?_
   intro ops hops
   clear hops
   refine St.go h19 ?_; clear h19 a19
   refine sa trivial rfl rfl ?_
   refine St.nil fun a22 h22 => ?_
   refine hK21 _ _ ?_
   refine wp_ret ?_
   repeat (first | with_reducible refine of_then_ret ?_ | with_reducible refine of_block_ret ?_)
   have hB := hc20
   skip
   have R : insForm lm 13 xa xb xc xk xn rl al = 4 := (insForm_bare (show fieldsOf 13 = some (true, false, false, false, false, false, false) from rfl)).trans (if_neg (fun hh => Bool.noConfusion (hh.symm.trans hc20)))
   exact ret_tmp (t := 4) h22 rfl rfl ⟨by rw [R], hW18.bel⟩
  ·have hc23 : (bareB 0 xb xc xk xn rl al) = true := by simpa using hb
   clear hb
   refine wp_skip ?_
   refine hK16 _ _ ?_
   refine wp_seq_k ?_
   intro K24 hK24
   refine fr_region ?_
   intro ops hops
   clear hops
   refine St.go h19 ?_; clear h19 a19
   refine sS 2 1 Try.underlying39 rfl infModule hW18 trivial rfl rfl rfl rfl ?_
   refine sS 1 8 Try.underlying46 rfl infIns hW18 trivial rfl rfl rfl rfl ?_
   refine sc_2 cf59 hW18 (boundsNo hlm (by decide)) trivial rfl rfl rfl ?_
   clear hW18; intro w25 hW25
   refine sa trivial rfl rfl ?_
   refine St.nil fun a26 h26 => ?_
   refine hK24 _ _ ?_
   refine wp_ret ?_
   repeat (first | with_reducible refine of_then_ret ?_ | with_reducible refine of_block_ret ?_)
   have hB := hc23
   skip
   have R : insForm lm 13 xa xb xc xk xn rl al = boundsC lm 13 xk rl al := (insForm_bare (show fieldsOf 13 = some (true, false, false, false, false, false, false) from rfl)).trans (if_pos hc23)
   exact ret_tmp (t := 4) h26 rfl rfl ⟨by rw [R], hW25.bel⟩

set_option maxHeartbeats 4000000 in
set_option maxRecDepth 100000 in
theorem cIns14 {xa xb xc xk xn : Int} {ra aa : Option Addr} {rl rc al ac : Nat} {am : Option Addr} {lm cm : Nat} {w : World} (hlm : lm < 2305843009213693952) :
    Rd Try.prog 20 #[.agg #[.slice am lm cm], .agg #[.int .i64 14, .int .i64 xa, .int .i64 xb, .int .i64 xc, .int .i64 xk, .int .i64 xn, .slice ra rl rc, .slice aa al ac]] w (.int .i64 (insForm lm 14 xa xb xc xk xn rl al)) := by
  refine fr_enter (n := 20) Try.func20 rfl rfl rfl ?_
  intro a hF
  have hW := Wd.start w
  replace hF : Fr 20 a [(0, .agg #[.slice am lm cm]), (1, .agg #[.int .i64 14, .int .i64 xa, .int .i64 xb, .int .i64 xc, .int .i64 xk, .int .i64 xn, .slice ra rl rc, .slice aa al ac])] := hF
  refine wp_seq_k ?_
  intro K1 hK1
  refine fr_region ?_
  intro ops hops
  clear hops
  refine St.go hF ?_; clear hF a
  refine sB hW trivial rfl rfl ?_
  clear hW; intro w2 B2 hW2 hN; clear hN
  refine sB hW2 trivial rfl rfl ?_
  clear hW2; intro w3 B3 hW3 hN; clear hN
  refine sa trivial rfl rfl ?_
  refine St.nil fun a4 h4 => ?_
  refine hK1 _ _ ?_
  refine wp_seq_k ?_
  intro K5 hK5
  refine fr_region ?_
  intro ops hops
  clear hops
  refine St.go h4 ?_; clear h4 a4
  refine sS 0 8 Try.underlying46 rfl infIns hW3 trivial rfl rfl rfl rfl ?_
  refine sc_1 cf57 hW3 (wf14) trivial rfl rfl ?_
  clear hW3; intro w6 hW6
  refine sm trivial rfl rfl ?_
  intro a7 h7
  refine fr_pure (t := 10) (v := .agg #[.int .i64 14, .int .i64 xa, .int .i64 xb, .int .i64 xc, .int .i64 0, .int .i64 xn, .slice none 0 0, .slice none 0 0]) (w' := w6) h7 rfl rfl rfl (fun K hK => ?_) ?_
  ·have k0 : a7.tmps.getD 7 undef = .tuple #[.agg #[.int .i64 14, .int .i64 xa, .int .i64 xb, .int .i64 xc, .int .i64 0, .int .i64 xn, .slice none 0 0, .slice none 0 0], .bool true] := h7.sl 7 _ rfl
   go_simp
   exact hK
  clear h7; intro a8 hF8
  refine fr_pure (t := 11) (v := .bool true) (w' := w6) hF8 rfl rfl rfl (fun K hK => ?_) ?_
  ·have k0 : a8.tmps.getD 7 undef = .tuple #[.agg #[.int .i64 14, .int .i64 xa, .int .i64 xb, .int .i64 xc, .int .i64 0, .int .i64 xn, .slice none 0 0, .slice none 0 0], .bool true] := hF8.sl 7 _ rfl
   go_simp
   exact hK
  clear hF8; intro a9 hF9
  refine St.go hF9 ?_; clear hF9 a9
  refine sAIns hW6 trivial rfl ?_
  clear hW6; intro w10 B10 hW10 hN; clear hN
  refine sT 0 hW10 rfl rfl infIns rfl rfl rfl ?_
  clear hW10; intro w11 hW11
  refine sa trivial rfl rfl ?_
  refine St.nil fun a12 h12 => ?_
  refine hK5 _ _ ?_
  refine wp_seq_k ?_
  intro K13 hK13
  refine wp_seq_k ?_
  intro K14 hK14
  refine fr_region ?_
  intro ops hops
  clear hops
  refine St.go h12 ?_; clear h12 a12
  refine sm trivial rfl rfl ?_
  refine sn trivial rfl rfl ?_
  refine St.nil fun a15 h15 => ?_
  refine hK14 _ _ ?_
  refine fr_false (t := 13) h15 rfl ?_
  refine wp_skip ?_
  refine hK13 _ _ ?_
  refine wp_seq_k ?_
  intro K16 hK16
  refine wp_seq_k ?_
  intro K17 hK17
  refine fr_region ?_
  intro ops hops
  clear hops
  refine St.go h15 ?_; clear h15 a15
  refine sS 0 8 Try.underlying46 rfl infIns hW11 trivial rfl rfl rfl rfl ?_
  refine sc_1 cf58 hW11 (isBare_any) trivial rfl rfl ?_
  clear hW11; intro w18 hW18
  refine sn trivial rfl rfl ?_
  refine St.nil fun a19 h19 => ?_
  refine hK17 _ _ ?_
  refine fr_cond (t := 16) h19 rfl (fun hb => ?_) (fun hb => ?_)
  ·have hc20 : (bareB xa xb xc 0 xn 0 0) = false := by simpa using hb
   clear hb
   refine wp_seq_k ?_
   intro K21 hK21
   refine fr_region ?_
   intro ops hops
   clear hops
   refine St.go h19 ?_; clear h19 a19
   refine sa trivial rfl rfl ?_
   refine St.nil fun a22 h22 => ?_
   refine hK21 _ _ ?_
   refine wp_ret ?_
   repeat (first | with_reducible refine of_then_ret ?_ | with_reducible refine of_block_ret ?_)
   have hB := hc20
   skip
   have R : insForm lm 14 xa xb xc xk xn rl al = 4 := (insForm_bare (show fieldsOf 14 = some (false, false, false, true, false, true, true) from rfl)).trans (if_neg (fun hh => Bool.noConfusion (hh.symm.trans hc20)))
   exact ret_tmp (t := 4) h22 rfl rfl ⟨by rw [R], hW18.bel⟩
  ·have hc23 : (bareB xa xb xc 0 xn 0 0) = true := by simpa using hb
   clear hb
   refine wp_skip ?_
   refine hK16 _ _ ?_
   refine wp_seq_k ?_
   intro K24 hK24
   refine fr_region ?_
   intro ops hops
   clear hops
   refine St.go h19 ?_; clear h19 a19
   refine sS 2 1 Try.underlying39 rfl infModule hW18 trivial rfl rfl rfl rfl ?_
   refine sS 1 8 Try.underlying46 rfl infIns hW18 trivial rfl rfl rfl rfl ?_
   refine sc_2 cf59 hW18 (bounds14 hlm) trivial rfl rfl rfl ?_
   clear hW18; intro w25 hW25
   refine sa trivial rfl rfl ?_
   refine St.nil fun a26 h26 => ?_
   refine hK24 _ _ ?_
   refine wp_ret ?_
   repeat (first | with_reducible refine of_then_ret ?_ | with_reducible refine of_block_ret ?_)
   have hB := hc23
   skip
   have R : insForm lm 14 xa xb xc xk xn rl al = boundsC lm 14 xk rl al := (insForm_bare (show fieldsOf 14 = some (false, false, false, true, false, true, true) from rfl)).trans (if_pos hc23)
   exact ret_tmp (t := 4) h26 rfl rfl ⟨by rw [R], hW25.bel⟩

set_option maxHeartbeats 4000000 in
set_option maxRecDepth 100000 in
theorem cInsNo {xop xa xb xc xk xn : Int} {ra aa : Option Addr} {rl rc al ac : Nat} {am : Option Addr} {lm cm : Nat} {w : World} (hlm : lm < 2305843009213693952) (h : xop ≠ 1 ∧ xop ≠ 2 ∧ xop ≠ 3 ∧ xop ≠ 4 ∧ xop ≠ 5 ∧ xop ≠ 6 ∧ xop ≠ 7 ∧ xop ≠ 8 ∧ xop ≠ 9 ∧ xop ≠ 10 ∧ xop ≠ 11 ∧ xop ≠ 12 ∧ xop ≠ 13 ∧ xop ≠ 14) :
    Rd Try.prog 20 #[.agg #[.slice am lm cm], .agg #[.int .i64 xop, .int .i64 xa, .int .i64 xb, .int .i64 xc, .int .i64 xk, .int .i64 xn, .slice ra rl rc, .slice aa al ac]] w (.int .i64 (insForm lm xop xa xb xc xk xn rl al)) := by
  refine fr_enter (n := 20) Try.func20 rfl rfl rfl ?_
  intro a hF
  have hW := Wd.start w
  replace hF : Fr 20 a [(0, .agg #[.slice am lm cm]), (1, .agg #[.int .i64 xop, .int .i64 xa, .int .i64 xb, .int .i64 xc, .int .i64 xk, .int .i64 xn, .slice ra rl rc, .slice aa al ac])] := hF
  refine wp_seq_k ?_
  intro K1 hK1
  refine fr_region ?_
  intro ops hops
  clear hops
  refine St.go hF ?_; clear hF a
  refine sB hW trivial rfl rfl ?_
  clear hW; intro w2 B2 hW2 hN; clear hN
  refine sB hW2 trivial rfl rfl ?_
  clear hW2; intro w3 B3 hW3 hN; clear hN
  refine sa trivial rfl rfl ?_
  refine St.nil fun a4 h4 => ?_
  refine hK1 _ _ ?_
  refine wp_seq_k ?_
  intro K5 hK5
  refine fr_region ?_
  intro ops hops
  clear hops
  refine St.go h4 ?_; clear h4 a4
  refine sS 0 8 Try.underlying46 rfl infIns hW3 trivial rfl rfl rfl rfl ?_
  refine sc_1 cf57 hW3 (wfNo h) trivial rfl rfl ?_
  clear hW3; intro w6 hW6
  refine sm trivial rfl rfl ?_
  intro a7 h7
  refine fr_pure (t := 10) (v := .agg #[.int .i64 xop, .int .i64 xa, .int .i64 xb, .int .i64 xc, .int .i64 xk, .int .i64 xn, .slice ra rl rc, .slice aa al ac]) (w' := w6) h7 rfl rfl rfl (fun K hK => ?_) ?_
  ·have k0 : a7.tmps.getD 7 undef = .tuple #[.agg #[.int .i64 xop, .int .i64 xa, .int .i64 xb, .int .i64 xc, .int .i64 xk, .int .i64 xn, .slice ra rl rc, .slice aa al ac], .bool false] := h7.sl 7 _ rfl
   go_simp
   exact hK
  clear h7; intro a8 hF8
  refine fr_pure (t := 11) (v := .bool false) (w' := w6) hF8 rfl rfl rfl (fun K hK => ?_) ?_
  ·have k0 : a8.tmps.getD 7 undef = .tuple #[.agg #[.int .i64 xop, .int .i64 xa, .int .i64 xb, .int .i64 xc, .int .i64 xk, .int .i64 xn, .slice ra rl rc, .slice aa al ac], .bool false] := hF8.sl 7 _ rfl
   go_simp
   exact hK
  clear hF8; intro a9 hF9
  refine St.go hF9 ?_; clear hF9 a9
  refine sAIns hW6 trivial rfl ?_
  clear hW6; intro w10 B10 hW10 hN; clear hN
  refine sT 0 hW10 rfl rfl infIns rfl rfl rfl ?_
  clear hW10; intro w11 hW11
  refine sa trivial rfl rfl ?_
  refine St.nil fun a12 h12 => ?_
  refine hK5 _ _ ?_
  refine wp_seq_k ?_
  intro K13 hK13
  refine wp_seq_k ?_
  intro K14 hK14
  refine fr_region ?_
  intro ops hops
  clear hops
  refine St.go h12 ?_; clear h12 a12
  refine sm trivial rfl rfl ?_
  refine sn trivial rfl rfl ?_
  refine St.nil fun a15 h15 => ?_
  refine hK14 _ _ ?_
  refine fr_true (t := 13) h15 rfl ?_
  refine wp_seq_k ?_
  intro K16 hK16
  refine fr_region ?_
  intro ops hops
  clear hops
  refine St.go h15 ?_; clear h15 a15
  refine sa trivial rfl rfl ?_
  refine St.nil fun a17 h17 => ?_
  refine hK16 _ _ ?_
  refine wp_ret ?_
  repeat (first | with_reducible refine of_then_ret ?_ | with_reducible refine of_block_ret ?_)
  have R : insForm lm xop xa xb xc xk xn rl al = 3 := by simp [insForm, (show fieldsOf xop = none by unfold fieldsOf; simp [h])]
  exact ret_tmp (t := 4) h17 rfl rfl ⟨by rw [R], hW11.bel⟩

theorem cIns_any (funcs : Nat) (x : MIns) (i : IP) (am : Option Addr) (cm : Nat) (w : World) (hf : funcs < 2305843009213693952) :
    Rd Try.prog 20 #[.agg #[.slice am funcs cm], .agg #[.int .i64 x.op, .int .i64 x.a, .int .i64 x.b, .int .i64 x.c, .int .i64 x.k, .int .i64 x.n, .slice i.pR x.regs.length i.cR, .slice i.pA x.args.length i.cA]] w (.int .i64 (x.form funcs)) := by
  rw [MIns.form_eq]
  have hno := op_cases x.op
  generalize x.op = op at hno ⊢
  rcases hno with rfl | rfl | rfl | rfl | rfl | rfl | rfl | rfl | rfl | rfl | rfl | rfl | rfl | rfl | h
  · exact cIns1 hf
  · exact cIns2 hf
  · exact cIns3 hf
  · exact cIns4 hf
  · exact cIns5 hf
  · exact cIns6 hf
  · exact cIns7 hf
  · exact cIns8 hf
  · exact cIns9 hf
  · exact cIns10 hf
  · exact cIns11 hf
  · exact cIns12 hf
  · exact cIns13 hf
  · exact cIns14 hf
  · exact cInsNo hf h
end Go.Proofs.Ytmnmnokkojcodab
