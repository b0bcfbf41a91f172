/-
  CodeFault: the reference's first fault of a module, at last.
-/
import Derived.Test.YtmnmnokkojcodabCodFlt
namespace Go.Proofs.Ytmnmnokkojcodab
open Go.ChangeShapes Go.WideShapes Go.ChangeAt Go.RowKit
set_option linter.unusedVariables false
set_option linter.unusedSimpArgs false

/-- As far as q results: may it be where a module begins? -/
def plB {n : Nat} (x : MFunc n) (q : Nat) : Bool := (x.regs == 0 && ((x.params.length : Int) == 0)) && (x.results.take q).all (fun t => t.kind == 1)
theorem plB_zero {n : Nat} (x : MFunc n) : plB x 0 = (x.regs == 0 && ((x.params.length : Int) == 0)) := by simp [plB]
theorem plB_succ {n : Nat} {x : MFunc n} {q : Nat} {t : TT n} (h : x.results[q]? = some t) : plB x (q + 1) = (plB x q && t.kind == 1) := by
  unfold plB
  rw [List.take_add_one, h, List.all_append]
  simp [Bool.and_assoc]
theorem plB_iff {n : Nat} (x : MFunc n) : plB x x.results.length = true ↔ x.begins := by
  unfold plB MFunc.begins
  rw [List.take_length]
  simp only [Bool.and_eq_true, beq_iff_eq]
  constructor
  · rintro ⟨⟨h1, h2⟩, h3⟩; exact ⟨h1, by omega, h3⟩
  · rintro ⟨h1, h2, h3⟩; exact ⟨⟨h1, by omega⟩, h3⟩

set_option maxHeartbeats 4000000 in
set_option maxRecDepth 100000 in
theorem codeFault_any {n : Nat} {m : List (MFunc n)} {p : Option Addr} {c : Nat} {w : World} (hm0 : (modL n).In w All m [.slice p m.length c]) (hs0 : msmall m) :
    Rd Try.prog 16 #[.agg #[.slice p m.length c]] w (faultV (modFault m)) := by
  have hm : Hid _ := hm0
  have hms : Hid _ := hs0
  have hmb := hs0.1
  clear hm0 hs0
  refine fr_enter (n := 129) Try.func16 rfl rfl rfl ?_
  intro a hF
  have hW := Wd.start w
  replace hF : Fr 129 a [(0, .agg #[.slice p m.length c])] := hF
  refine wp_seq_k ?_
  intro K1 hK1
  refine fr_region ?_
  intro ops hops
  clear hops
  refine St.go hF ?_; clear hF a
  refine sB hW trivial rfl rfl ?_
  clear hW; intro w2 B2 hW2 hN; clear hN
  refine sAFault hW2 trivial rfl ?_
  clear hW2; intro w3 B3 hW3 hN; clear hN
  refine St.nil fun a4 h4 => ?_
  refine hK1 _ _ ?_
  refine wp_seq_k ?_
  intro K5 hK5
  refine wp_seq_k ?_
  intro K6 hK6
  refine fr_region ?_
  intro ops hops
  have hg4 : (ops[4]?).bind (fun o : Oper => o.dst) = some 15 := hops 4
  clear hops
  refine St.go h4 ?_; clear h4 a4
  refine sfModule0 trivial rfl rfl ?_
  refine sbFuncs 1 hW3 trivial rfl rfl rfl rfl ?_
  refine slFuncs trivial rfl rfl ?_
  refine slt trivial rfl rfl rfl ?_
  refine sm trivial rfl rfl ?_
  intro a7 h7
  rcases Bool.eq_false_or_eq_true (decide ((m.length : Int) < 1)) with hb | hb
  ·rw [hb] at h7
   have hc8 : m.length < 1 := by have := of_decide_eq_true hb; omega
   clear hb
   refine St.go h7 ?_; clear h7 a7
   refine so hg4 rfl rfl rfl rfl ?_
   refine so hg4 rfl rfl rfl rfl ?_
   refine so hg4 rfl rfl rfl rfl ?_
   refine so hg4 rfl rfl rfl rfl ?_
   refine sp trivial rfl rfl rfl ?_
   refine St.nil fun a9 h9 => ?_
   refine hK6 _ _ ?_
   refine fr_true (t := 20) h9 rfl ?_
   refine wp_seq_k ?_
   intro K10 hK10
   refine fr_region ?_
   intro ops hops
   clear hops
   refine St.go h9 ?_; clear h9 a9
   refine sc_2 cf48 hW3 (fF_any (xc := 2) (xp := -1)) trivial rfl rfl rfl ?_
   clear hW3; intro w11 hW11
   refine sT 0 hW11 rfl rfl infFault rfl rfl rfl ?_
   clear hW11; intro w12 hW12
   refine St.nil fun a13 h13 => ?_
   refine hK10 _ _ ?_
   refine wp_ret ?_
   repeat (first | with_reducible refine of_then_ret ?_ | with_reducible refine of_block_ret ?_)
   have R : modFault m = (2, -1) := if_pos (by omega)
   exact ret_box 0 h13 hW12 rfl rfl rfl Try.underlying26 rfl infFault ⟨by show Ending.returned (.agg #[.int .i64 2, .int .i64 (-1)]) = _; rw [R], hW12.bel⟩
  ·rw [hb] at h7
   have hc14 : ¬ (m.length < 1) := by have := of_decide_eq_false hb; omega
   clear hb
   refine St.go h7 ?_; clear h7 a7
   refine sfModule0 ⟨_, hg4, rfl, rfl⟩ rfl rfl ?_
   refine sbFuncs 1 hW3 ⟨_, hg4, rfl, rfl⟩ rfl rfl rfl rfl ?_
   refine slFuncs ⟨_, hg4, rfl, rfl⟩ rfl rfl ?_
   refine sgt ⟨_, hg4, rfl, rfl⟩ rfl rfl rfl ?_
   refine spf trivial rfl rfl rfl ?_
   refine St.nil fun a15 h15 => ?_
   refine hK6 _ _ ?_
   refine fr_cond (t := 20) h15 rfl (fun hb => ?_) (fun hb => ?_)
   ·have hc16 : 8 < m.length := by have := of_decide_eq_true hb; omega
    clear hb
    refine wp_seq_k ?_
    intro K17 hK17
    refine fr_region ?_
    intro ops hops
    clear hops
    refine St.go h15 ?_; clear h15 a15
    refine sc_2 cf48 hW3 (fF_any (xc := 2) (xp := -1)) trivial rfl rfl rfl ?_
    clear hW3; intro w18 hW18
    refine sT 0 hW18 rfl rfl infFault rfl rfl rfl ?_
    clear hW18; intro w19 hW19
    refine St.nil fun a20 h20 => ?_
    refine hK17 _ _ ?_
    refine wp_ret ?_
    repeat (first | with_reducible refine of_then_ret ?_ | with_reducible refine of_block_ret ?_)
    have R : modFault m = (2, -1) := if_pos (by omega)
    exact ret_box 0 h20 hW19 rfl rfl rfl Try.underlying26 rfl infFault ⟨by show Ending.returned (.agg #[.int .i64 2, .int .i64 (-1)]) = _; rw [R], hW19.bel⟩
   ·have hc21 : ¬ (8 < m.length) := by have := of_decide_eq_false hb; omega
    clear hb
    refine wp_skip ?_
    refine hK5 _ _ ?_
    refine wp_seq_k ?_
    intro K22 hK22
    refine wp_seq_k ?_
    intro K23 hK23
    refine fr_region ?_
    intro ops hops
    clear hops
    refine St.go h15 ?_; clear h15 a15
    refine sa trivial rfl rfl ?_
    refine St.nil fun a24 h24 => ?_
    refine hK23 _ _ ?_
    refine wp_block ?_
    refine fr_loop (fun r a w' => ∃ q1 : Nat, q1 ≤ m.length ∧ r = m.length - q1 ∧ (∀ (j : Nat) z, j < q1 → m[j]? = some z → (MFunc.fault m.length j z).1 = 0) ∧ Fr 129 a [(0, .agg #[.slice p m.length c]), (1, .pointer (some ⟨B2, 0, none⟩)), (2, .pointer (some ⟨B3, 0, none⟩)), (3, .int .i64 (q1 : Int))] ∧ Wd w w' [(B3, #[.int .i64 0, .int .i64 0], 26), (B2, #[.slice p m.length c], 39)]) (m.length) ⟨0, Nat.zero_le _, rfl, (fun j z hj => by omega), (h24.keep (h24.keep (h24.keep (h24.keep h24.nil (t := 3) rfl) (t := 2) rfl) (t := 1) rfl) (t := 0) rfl), hW3⟩ ?_
    clear h24 hW3
    rintro r1 a25 w25 ⟨q1, hq1, hr1, hall1, hF25, hW25⟩ KL1 hKL1
    refine wp_seq_k ?_
    intro K26 hK26
    refine wp_seq_k ?_
    intro K27 hK27
    refine fr_region ?_
    intro ops hops
    clear hops
    refine St.go hF25 ?_; clear hF25 a25
    refine sm trivial rfl rfl ?_
    refine sfModule0 trivial rfl rfl ?_
    refine sbFuncs 1 hW25 trivial rfl rfl rfl rfl ?_
    refine slFuncs trivial rfl rfl ?_
    refine slt trivial rfl rfl rfl ?_
    refine St.nil fun a28 h28 => ?_
    refine hK27 _ _ ?_
    refine fr_cond (t := 26) h28 rfl (fun hb => ?_) (fun hb => ?_)
    ·have hlt1 : q1 < m.length := by have := of_decide_eq_true hb; omega
     clear hb
     obtain ⟨x, hx1⟩ : ∃ v9, (m)[q1]? = some v9 := ⟨_, List.getElem?_eq_getElem hlt1⟩
     obtain ⟨g1, o1, f1, hp1, E1, In1⟩ := func_at hm.out hx1
     replace In1 : Hid _ := In1
     replace hp1 : Hid _ := hp1
     replace hx1 : Hid _ := hx1
     replace E1 : Hid _ := E1
     have hs1 : Hid x.small := hms.out.2 _ (List.mem_of_getElem? hx1.out)
     have hxb := hs1.out.1
     have hrb := hs1.out.2.2.1.1
     refine wp_skip ?_
     refine hK26 _ _ ?_
     refine wp_seq_k ?_
     intro K29 hK29
     refine wp_block ?_
     refine wp_seq_k ?_
     intro K30 hK30
     refine fr_region ?_
     intro ops hops
     clear hops
     refine St.go h28 ?_; clear h28 a28
     refine sfModule0 trivial rfl rfl ?_
     refine sbFuncs 1 hW25 trivial rfl rfl rfl rfl ?_
     refine sm trivial rfl rfl ?_
     refine siFuncs hp1.out hlt1 trivial rfl rfl rfl ?_
     refine sSE Try.underlying50 rfl (rangeAt_bel E1.out hW25.bel) infFunc trivial rfl rfl ?_
     refine sAFunc hW25 trivial rfl ?_
     clear hW25; intro w31 B31 hW31 hN; clear hN
     refine sT 0 hW31 rfl rfl infFunc rfl rfl rfl ?_
     clear hW31; intro w32 hW32
     refine St.nil fun a33 h33 => ?_
     refine hK30 _ _ ?_
     refine wp_seq_k ?_
     intro K34 hK34
     refine wp_seq_k ?_
     intro K35 hK35
     refine fr_region ?_
     intro ops hops
     have hg3 : (ops[3]?).bind (fun o : Oper => o.dst) = some 37 := hops 3
     clear hops
     refine St.go h33 ?_; clear h33 a33
     refine sfFunc0 trivial rfl rfl ?_
     refine sbInt 0 hW32 trivial rfl rfl rfl rfl ?_
     refine slt trivial rfl rfl rfl ?_
     refine sm trivial rfl rfl ?_
     intro a36 h36
     rcases Bool.eq_false_or_eq_true (decide (x.regs < 0)) with hb | hb
     ·rw [hb] at h36
      have hc37 : x.regs < 0 := of_decide_eq_true hb
      clear hb
      refine St.go h36 ?_; clear h36 a36
      refine so hg3 rfl rfl rfl rfl ?_
      refine so hg3 rfl rfl rfl rfl ?_
      refine so hg3 rfl rfl rfl rfl ?_
      refine sp trivial rfl rfl rfl ?_
      refine St.nil fun a38 h38 => ?_
      refine hK35 _ _ ?_
      refine fr_true (t := 41) h38 rfl ?_
      refine wp_seq_k ?_
      intro K39 hK39
      refine fr_region ?_
      intro ops hops
      clear hops
      refine St.go h38 ?_; clear h38 a38
      refine sm trivial rfl rfl ?_
      refine sc_1 cf25 hW32 (atFunc_any (f := q1) (by omega)) trivial rfl rfl ?_
      clear hW32; intro w40 hW40
      refine sc_2 cf48 hW40 (fF_any (xc := 1) (xp := 10000 * (q1 : Int) + 9999)) trivial rfl rfl rfl ?_
      clear hW40; intro w41 hW41
      refine sT 1 hW41 rfl rfl infFault rfl rfl rfl ?_
      clear hW41; intro w42 hW42
      refine St.nil fun a43 h43 => ?_
      refine hK39 _ _ ?_
      refine wp_ret ?_
      repeat (first | with_reducible refine of_then_ret ?_ | with_reducible refine of_block_ret ?_)
      have RM : (MFunc.fault m.length q1 x).1 ≠ 0 → modFault m = MFunc.fault m.length q1 x := fun hz => (if_neg (by omega)).trans (by have h9 := firstF_eq (f := fun f x => MFunc.fault m.length f x) (j := 0) hx1.out (fun k y hk hy => by rw [Nat.zero_add]; exact hall1 k y hk hy) (by rw [Nat.zero_add]; exact hz); rwa [Nat.zero_add] at h9)
      have RC : x.code q1 = 1 := by exact if_pos (by omega)
      have EF : MFunc.fault m.length q1 x = (1, 10000 * (q1 : Int) + 9999) := by rw [MFunc.fault_eq, RC, if_neg (by omega)]
      exact ret_box 1 h43 hW42 rfl rfl rfl Try.underlying26 rfl infFault ⟨by show Ending.returned (.agg #[.int .i64 1, .int .i64 (10000 * (q1 : Int) + 9999)]) = _; rw [RM (by rw [EF]; show _ ≠ _; omega), EF], hW42.bel⟩
     ·rw [hb] at h36
      have hc44 : ¬ (x.regs < 0) := of_decide_eq_false hb
      clear hb
      refine St.go h36 ?_; clear h36 a36
      refine sfFunc0 ⟨_, hg3, rfl, rfl⟩ rfl rfl ?_
      refine sbInt 0 hW32 ⟨_, hg3, rfl, rfl⟩ rfl rfl rfl rfl ?_
      refine sgt ⟨_, hg3, rfl, rfl⟩ rfl rfl rfl ?_
      refine spf trivial rfl rfl rfl ?_
      refine St.nil fun a45 h45 => ?_
      refine hK35 _ _ ?_
      refine fr_cond (t := 41) h45 rfl (fun hb => ?_) (fun hb => ?_)
      ·have hc46 : 6 < x.regs := of_decide_eq_true hb
       clear hb
       refine wp_seq_k ?_
       intro K47 hK47
       refine fr_region ?_
       intro ops hops
       clear hops
       refine St.go h45 ?_; clear h45 a45
       refine sm trivial rfl rfl ?_
       refine sc_1 cf25 hW32 (atFunc_any (f := q1) (by omega)) trivial rfl rfl ?_
       clear hW32; intro w48 hW48
       refine sc_2 cf48 hW48 (fF_any (xc := 1) (xp := 10000 * (q1 : Int) + 9999)) trivial rfl rfl rfl ?_
       clear hW48; intro w49 hW49
       refine sT 1 hW49 rfl rfl infFault rfl rfl rfl ?_
       clear hW49; intro w50 hW50
       refine St.nil fun a51 h51 => ?_
       refine hK47 _ _ ?_
       refine wp_ret ?_
       repeat (first | with_reducible refine of_then_ret ?_ | with_reducible refine of_block_ret ?_)
       have RM : (MFunc.fault m.length q1 x).1 ≠ 0 → modFault m = MFunc.fault m.length q1 x := fun hz => (if_neg (by omega)).trans (by have h9 := firstF_eq (f := fun f x => MFunc.fault m.length f x) (j := 0) hx1.out (fun k y hk hy => by rw [Nat.zero_add]; exact hall1 k y hk hy) (by rw [Nat.zero_add]; exact hz); rwa [Nat.zero_add] at h9)
       have RC : x.code q1 = 1 := by exact if_pos (by omega)
       have EF : MFunc.fault m.length q1 x = (1, 10000 * (q1 : Int) + 9999) := by rw [MFunc.fault_eq, RC, if_neg (by omega)]
       exact ret_box 1 h51 hW50 rfl rfl rfl Try.underlying26 rfl infFault ⟨by show Ending.returned (.agg #[.int .i64 1, .int .i64 (10000 * (q1 : Int) + 9999)]) = _; rw [RM (by rw [EF]; show _ ≠ _; omega), EF], hW50.bel⟩
      ·have hc52 : ¬ (6 < x.regs) := of_decide_eq_false hb
       clear hb
       refine wp_skip ?_
       refine hK34 _ _ ?_
       refine wp_seq_k ?_
       intro K53 hK53
       refine wp_seq_k ?_
       intro K54 hK54
       refine fr_region ?_
       intro ops hops
       clear hops
       refine St.go h45 ?_; clear h45 a45
       refine sfFunc1 trivial rfl rfl ?_
       refine sbTypes 0 hW32 trivial rfl rfl rfl rfl ?_
       refine sfFunc0 trivial rfl rfl ?_
       refine sbInt 0 hW32 trivial rfl rfl rfl rfl ?_
       refine sc_2 cf49 hW32 (listForm_any (regs := x.regs) (Lay.below In1.out.params hW32.bel) hs1.out.2.1) trivial rfl rfl rfl ?_
       clear hW32; intro w55 hW55
       refine sa trivial rfl rfl ?_
       refine St.nil fun a56 h56 => ?_
       refine hK54 _ _ ?_
       refine wp_seq_k ?_
       intro K57 hK57
       refine fr_region ?_
       intro ops hops
       clear hops
       refine St.go h56 ?_; clear h56 a56
       refine sm trivial rfl rfl ?_
       refine sne trivial rfl rfl rfl ?_
       refine St.nil fun a58 h58 => ?_
       refine hK57 _ _ ?_
       refine fr_cond (t := 51) h58 rfl (fun hb => ?_) (fun hb => ?_)
       ·have h9 : ¬ (listC x.regs x.params) = 0 := bne_iff_ne.1 hb
        have hc59 : ¬ (listC x.regs x.params) = 0 := h9
        clear h9
        clear hb
        refine wp_seq_k ?_
        intro K60 hK60
        refine fr_region ?_
        intro ops hops
        clear hops
        refine St.go h58 ?_; clear h58 a58
        refine sm trivial rfl rfl ?_
        refine sm trivial rfl rfl ?_
        refine sc_1 cf25 hW55 (atFunc_any (f := q1) (by omega)) trivial rfl rfl ?_
        clear hW55; intro w61 hW61
        refine sc_2 cf48 hW61 (fF_any (xc := listC x.regs x.params) (xp := 10000 * (q1 : Int) + 9999)) trivial rfl rfl rfl ?_
        clear hW61; intro w62 hW62
        refine sT 1 hW62 rfl rfl infFault rfl rfl rfl ?_
        clear hW62; intro w63 hW63
        refine St.nil fun a64 h64 => ?_
        refine hK60 _ _ ?_
        refine wp_ret ?_
        repeat (first | with_reducible refine of_then_ret ?_ | with_reducible refine of_block_ret ?_)
        have RM : (MFunc.fault m.length q1 x).1 ≠ 0 → modFault m = MFunc.fault m.length q1 x := fun hz => (if_neg (by omega)).trans (by have h9 := firstF_eq (f := fun f x => MFunc.fault m.length f x) (j := 0) hx1.out (fun k y hk hy => by rw [Nat.zero_add]; exact hall1 k y hk hy) (by rw [Nat.zero_add]; exact hz); rwa [Nat.zero_add] at h9)
        have RC : x.code q1 = listC x.regs x.params := by exact (if_neg (by omega)).trans (if_pos (by omega))
        have EF : MFunc.fault m.length q1 x = (listC x.regs x.params, 10000 * (q1 : Int) + 9999) := by rw [MFunc.fault_eq, RC, if_neg (by omega)]
        exact ret_box 1 h64 hW63 rfl rfl rfl Try.underlying26 rfl infFault ⟨by show Ending.returned (.agg #[.int .i64 (listC x.regs x.params), .int .i64 (10000 * (q1 : Int) + 9999)]) = _; rw [RM (by rw [EF]; show _ ≠ _; omega), EF], hW63.bel⟩
       ·have h9 : (listC x.regs x.params) = 0 := bne_eq_false_iff_eq.1 hb
        have hc65 : Hid ((listC x.regs x.params) = 0) := h9
        clear h9
        clear hb
        refine wp_skip ?_
        refine hK53 _ _ ?_
        refine wp_seq_k ?_
        intro K66 hK66
        refine wp_seq_k ?_
        intro K67 hK67
        refine fr_region ?_
        intro ops hops
        clear hops
        refine St.go h58 ?_; clear h58 a58
        refine sfFunc2 trivial rfl rfl ?_
        refine sbTypes 0 hW55 trivial rfl rfl rfl rfl ?_
        refine sfFunc0 trivial rfl rfl ?_
        refine sbInt 0 hW55 trivial rfl rfl rfl rfl ?_
        refine sc_2 cf49 hW55 (listForm_any (regs := x.regs) (Lay.below In1.out.results hW55.bel) hs1.out.2.2.1) trivial rfl rfl rfl ?_
        clear hW55; intro w68 hW68
        refine sa trivial rfl rfl ?_
        refine St.nil fun a69 h69 => ?_
        refine hK67 _ _ ?_
        refine wp_seq_k ?_
        intro K70 hK70
        refine fr_region ?_
        intro ops hops
        clear hops
        refine St.go h69 ?_; clear h69 a69
        refine sm trivial rfl rfl ?_
        refine sne trivial rfl rfl rfl ?_
        refine St.nil fun a71 h71 => ?_
        refine hK70 _ _ ?_
        refine fr_cond (t := 62) h71 rfl (fun hb => ?_) (fun hb => ?_)
        ·have h9 : ¬ (listC x.regs x.results) = 0 := bne_iff_ne.1 hb
         have hc72 : ¬ (listC x.regs x.results) = 0 := h9
         clear h9
         clear hb
         refine wp_seq_k ?_
         intro K73 hK73
         refine fr_region ?_
         intro ops hops
         clear hops
         refine St.go h71 ?_; clear h71 a71
         refine sm trivial rfl rfl ?_
         refine sm trivial rfl rfl ?_
         refine sc_1 cf25 hW68 (atFunc_any (f := q1) (by omega)) trivial rfl rfl ?_
         clear hW68; intro w74 hW74
         refine sc_2 cf48 hW74 (fF_any (xc := listC x.regs x.results) (xp := 10000 * (q1 : Int) + 9999)) trivial rfl rfl rfl ?_
         clear hW74; intro w75 hW75
         refine sT 1 hW75 rfl rfl infFault rfl rfl rfl ?_
         clear hW75; intro w76 hW76
         refine St.nil fun a77 h77 => ?_
         refine hK73 _ _ ?_
         refine wp_ret ?_
         repeat (first | with_reducible refine of_then_ret ?_ | with_reducible refine of_block_ret ?_)
         have RM : (MFunc.fault m.length q1 x).1 ≠ 0 → modFault m = MFunc.fault m.length q1 x := fun hz => (if_neg (by omega)).trans (by have h9 := firstF_eq (f := fun f x => MFunc.fault m.length f x) (j := 0) hx1.out (fun k y hk hy => by rw [Nat.zero_add]; exact hall1 k y hk hy) (by rw [Nat.zero_add]; exact hz); rwa [Nat.zero_add] at h9)
         have RC : x.code q1 = listC x.regs x.results := by have := hc65.out; exact (if_neg (by omega)).trans ((if_neg (by omega)).trans (if_pos (by omega)))
         have EF : MFunc.fault m.length q1 x = (listC x.regs x.results, 10000 * (q1 : Int) + 9999) := by rw [MFunc.fault_eq, RC, if_neg (by omega)]
         exact ret_box 1 h77 hW76 rfl rfl rfl Try.underlying26 rfl infFault ⟨by show Ending.returned (.agg #[.int .i64 (listC x.regs x.results), .int .i64 (10000 * (q1 : Int) + 9999)]) = _; rw [RM (by rw [EF]; show _ ≠ _; omega), EF], hW76.bel⟩
        ·have h9 : (listC x.regs x.results) = 0 := bne_eq_false_iff_eq.1 hb
         have hc78 : Hid ((listC x.regs x.results) = 0) := h9
         clear h9
         clear hb
         refine wp_skip ?_
         refine hK66 _ _ ?_
         refine wp_seq_k ?_
         intro K79 hK79
         refine wp_seq_k ?_
         intro K80 hK80
         refine fr_region ?_
         intro ops hops
         have hg4 : (ops[4]?).bind (fun o : Oper => o.dst) = some 71 := hops 4
         clear hops
         refine St.go h71 ?_; clear h71 a71
         refine sfFunc3 trivial rfl rfl ?_
         refine sbBlocks 0 hW68 trivial rfl rfl rfl rfl ?_
         refine slBlocks trivial rfl rfl ?_
         refine slt trivial rfl rfl rfl ?_
         refine sm trivial rfl rfl ?_
         intro a81 h81
         rcases Bool.eq_false_or_eq_true (decide ((x.blocks.length : Int) < 1)) with hb | hb
         ·rw [hb] at h81
          have hc82 : x.blocks.length < 1 := by have := of_decide_eq_true hb; omega
          clear hb
          refine St.go h81 ?_; clear h81 a81
          refine so hg4 rfl rfl rfl rfl ?_
          refine so hg4 rfl rfl rfl rfl ?_
          refine so hg4 rfl rfl rfl rfl ?_
          refine so hg4 rfl rfl rfl rfl ?_
          refine sp trivial rfl rfl rfl ?_
          refine St.nil fun a83 h83 => ?_
          refine hK80 _ _ ?_
          refine fr_true (t := 76) h83 rfl ?_
          refine wp_seq_k ?_
          intro K84 hK84
          refine fr_region ?_
          intro ops hops
          clear hops
          refine St.go h83 ?_; clear h83 a83
          refine sm trivial rfl rfl ?_
          refine sc_1 cf25 hW68 (atFunc_any (f := q1) (by omega)) trivial rfl rfl ?_
          clear hW68; intro w85 hW85
          refine sc_2 cf48 hW85 (fF_any (xc := 2) (xp := 10000 * (q1 : Int) + 9999)) trivial rfl rfl rfl ?_
          clear hW85; intro w86 hW86
          refine sT 1 hW86 rfl rfl infFault rfl rfl rfl ?_
          clear hW86; intro w87 hW87
          refine St.nil fun a88 h88 => ?_
          refine hK84 _ _ ?_
          refine wp_ret ?_
          repeat (first | with_reducible refine of_then_ret ?_ | with_reducible refine of_block_ret ?_)
          have RM : (MFunc.fault m.length q1 x).1 ≠ 0 → modFault m = MFunc.fault m.length q1 x := fun hz => (if_neg (by omega)).trans (by have h9 := firstF_eq (f := fun f x => MFunc.fault m.length f x) (j := 0) hx1.out (fun k y hk hy => by rw [Nat.zero_add]; exact hall1 k y hk hy) (by rw [Nat.zero_add]; exact hz); rwa [Nat.zero_add] at h9)
          have RC : x.code q1 = 2 := by have := hc65.out; have := hc78.out; exact (if_neg (by omega)).trans ((if_neg (by omega)).trans ((if_neg (by omega)).trans (if_pos (by omega))))
          have EF : MFunc.fault m.length q1 x = (2, 10000 * (q1 : Int) + 9999) := by rw [MFunc.fault_eq, RC, if_neg (by omega)]
          exact ret_box 1 h88 hW87 rfl rfl rfl Try.underlying26 rfl infFault ⟨by show Ending.returned (.agg #[.int .i64 2, .int .i64 (10000 * (q1 : Int) + 9999)]) = _; rw [RM (by rw [EF]; show _ ≠ _; omega), EF], hW87.bel⟩
         ·rw [hb] at h81
          have hc89 : ¬ (x.blocks.length < 1) := by have := of_decide_eq_false hb; omega
          clear hb
          refine St.go h81 ?_; clear h81 a81
          refine sfFunc3 ⟨_, hg4, rfl, rfl⟩ rfl rfl ?_
          refine sbBlocks 0 hW68 ⟨_, hg4, rfl, rfl⟩ rfl rfl rfl rfl ?_
          refine slBlocks ⟨_, hg4, rfl, rfl⟩ rfl rfl ?_
          refine sgt ⟨_, hg4, rfl, rfl⟩ rfl rfl rfl ?_
          refine spf trivial rfl rfl rfl ?_
          refine St.nil fun a90 h90 => ?_
          refine hK80 _ _ ?_
          refine fr_cond (t := 76) h90 rfl (fun hb => ?_) (fun hb => ?_)
          ·have hc91 : 12 < x.blocks.length := by have := of_decide_eq_true hb; omega
           clear hb
           refine wp_seq_k ?_
           intro K92 hK92
           refine fr_region ?_
           intro ops hops
           clear hops
           refine St.go h90 ?_; clear h90 a90
           refine sm trivial rfl rfl ?_
           refine sc_1 cf25 hW68 (atFunc_any (f := q1) (by omega)) trivial rfl rfl ?_
           clear hW68; intro w93 hW93
           refine sc_2 cf48 hW93 (fF_any (xc := 2) (xp := 10000 * (q1 : Int) + 9999)) trivial rfl rfl rfl ?_
           clear hW93; intro w94 hW94
           refine sT 1 hW94 rfl rfl infFault rfl rfl rfl ?_
           clear hW94; intro w95 hW95
           refine St.nil fun a96 h96 => ?_
           refine hK92 _ _ ?_
           refine wp_ret ?_
           repeat (first | with_reducible refine of_then_ret ?_ | with_reducible refine of_block_ret ?_)
           have RM : (MFunc.fault m.length q1 x).1 ≠ 0 → modFault m = MFunc.fault m.length q1 x := fun hz => (if_neg (by omega)).trans (by have h9 := firstF_eq (f := fun f x => MFunc.fault m.length f x) (j := 0) hx1.out (fun k y hk hy => by rw [Nat.zero_add]; exact hall1 k y hk hy) (by rw [Nat.zero_add]; exact hz); rwa [Nat.zero_add] at h9)
           have RC : x.code q1 = 2 := by have := hc65.out; have := hc78.out; exact (if_neg (by omega)).trans ((if_neg (by omega)).trans ((if_neg (by omega)).trans (if_pos (by omega))))
           have EF : MFunc.fault m.length q1 x = (2, 10000 * (q1 : Int) + 9999) := by rw [MFunc.fault_eq, RC, if_neg (by omega)]
           exact ret_box 1 h96 hW95 rfl rfl rfl Try.underlying26 rfl infFault ⟨by show Ending.returned (.agg #[.int .i64 2, .int .i64 (10000 * (q1 : Int) + 9999)]) = _; rw [RM (by rw [EF]; show _ ≠ _; omega), EF], hW95.bel⟩
          ·have hc97 : ¬ (12 < x.blocks.length) := by have := of_decide_eq_false hb; omega
           clear hb
           refine wp_skip ?_
           refine hK79 _ _ ?_
           refine wp_seq_k ?_
           intro K98 hK98
           refine wp_seq_k ?_
           intro K99 hK99
           refine fr_region ?_
           intro ops hops
           clear hops
           refine St.go h90 ?_; clear h90 a90
           refine sm trivial rfl rfl ?_
           refine seq trivial rfl rfl rfl ?_
           refine St.nil fun a100 h100 => ?_
           refine hK99 _ _ ?_
           refine fr_cond (t := 81) h100 rfl (fun hb => ?_) (fun hb => ?_)
           ·have h9 : q1 = 0 := by have h8 := eq_of_beq hb; omega
            have hc101 : Hid (q1 = 0) := h9
            clear h9
            clear hb
            refine wp_seq_k ?_
            intro K102 hK102
            refine fr_region ?_
            intro ops hops
            have hg3 : (ops[3]?).bind (fun o : Oper => o.dst) = some 85 := hops 3
            clear hops
            refine St.go h100 ?_; clear h100 a100
            refine sfFunc0 trivial rfl rfl ?_
            refine sbInt 0 hW68 trivial rfl rfl rfl rfl ?_
            refine seq trivial rfl rfl rfl ?_
            refine sm trivial rfl rfl ?_
            intro a103 h103
            rcases Bool.eq_false_or_eq_true (x.regs == 0) with hb | hb
            ·rw [hb] at h103
             have h9 : x.regs = 0 := eq_of_beq hb
             have hc104 : Hid (x.regs = 0) := h9
             clear h9
             clear hb
             refine St.go h103 ?_; clear h103 a103
             refine sfFunc1 ⟨_, hg3, rfl, rfl⟩ rfl rfl ?_
             refine sbTypes 0 hW68 ⟨_, hg3, rfl, rfl⟩ rfl rfl rfl rfl ?_
             refine slTypes ⟨_, hg3, rfl, rfl⟩ rfl rfl ?_
             refine seq ⟨_, hg3, rfl, rfl⟩ rfl rfl rfl ?_
             refine sp trivial rfl rfl rfl ?_
             refine sa trivial rfl rfl ?_
             refine St.nil fun a105 h105 => ?_
             refine hK102 _ _ ?_
             refine wp_seq_k ?_
             intro K106 hK106
             refine wp_seq_k ?_
             intro K107 hK107
             refine fr_region ?_
             intro ops hops
             clear hops
             refine St.go h105 ?_; clear h105 a105
             refine sa trivial rfl rfl ?_
             refine St.nil fun a108 h108 => ?_
             refine hK107 _ _ ?_
             refine wp_block ?_
             have eqv : plB x 0 = ((x.params.length : Int) == 0) := by rw [plB_zero]; simp [hc104.out]
             have hF109 := h108.cons (t := 7) (v := .bool (plB x 0)) (by rw [h108.sl 7 _ rfl, eqv])
             clear eqv h108
             refine fr_loop (fun r a w' => ∃ q5 : Nat, q5 ≤ x.results.length ∧ r = x.results.length - q5 ∧ Fr 129 a [(0, .agg #[.slice p m.length c]), (1, .pointer (some ⟨B2, 0, none⟩)), (2, .pointer (some ⟨B3, 0, none⟩)), (3, .int .i64 (q1 : Int)), (4, .pointer (some ⟨B31, 0, none⟩)), (5, .int .i64 (listC x.regs x.params)), (6, .int .i64 (listC x.regs x.results)), (7, .bool (plB x q5)), (8, .int .i64 (q5 : Int))] ∧ Wd w w' [(B31, #[.int .i64 x.regs, .slice f1.pP x.params.length f1.cP, .slice f1.pR x.results.length f1.cR, .slice f1.pB x.blocks.length f1.cB], 50), (B3, #[.int .i64 0, .int .i64 0], 26), (B2, #[.slice p m.length c], 39)]) (x.results.length) ⟨0, Nat.zero_le _, rfl, (hF109.keep (hF109.keep (hF109.keep (hF109.keep (hF109.keep (hF109.keep (hF109.keep (hF109.keep (hF109.keep hF109.nil (t := 8) rfl) (t := 7) rfl) (t := 6) rfl) (t := 5) rfl) (t := 4) rfl) (t := 3) rfl) (t := 2) rfl) (t := 1) rfl) (t := 0) rfl), hW68⟩ ?_
             clear hF109 hW68
             rintro r5 a110 w110 ⟨q5, hq5, hr5, hF110, hW110⟩ KL5 hKL5
             refine wp_seq_k ?_
             intro K111 hK111
             refine wp_seq_k ?_
             intro K112 hK112
             refine fr_region ?_
             intro ops hops
             clear hops
             refine St.go hF110 ?_; clear hF110 a110
             refine sm trivial rfl rfl ?_
             refine sfFunc2 trivial rfl rfl ?_
             refine sbTypes 0 hW110 trivial rfl rfl rfl rfl ?_
             refine slTypes trivial rfl rfl ?_
             refine slt trivial rfl rfl rfl ?_
             refine St.nil fun a113 h113 => ?_
             refine hK112 _ _ ?_
             refine fr_cond (t := 95) h113 rfl (fun hb => ?_) (fun hb => ?_)
             ·have hlt5 : q5 < x.results.length := by have := of_decide_eq_true hb; omega
              clear hb
              obtain ⟨t, hx5⟩ : ∃ v9, (x.results)[q5]? = some v9 := ⟨_, List.getElem?_eq_getElem hlt5⟩
              obtain ⟨g5, o5, pt5, ct5, hp5, E5, In5⟩ := lin_at (types_lin In1.out.results).1 hx5
              replace In5 : Hid _ := In5
              replace hp5 : Hid _ := hp5
              replace hx5 : Hid _ := hx5
              replace E5 : Hid _ := E5
              refine wp_skip ?_
              refine hK111 _ _ ?_
              refine wp_seq_k ?_
              intro K114 hK114
              refine wp_block ?_
              refine fr_region ?_
              intro ops hops
              have hg1 : (ops[1]?).bind (fun o : Oper => o.dst) = some 99 := hops 1
              clear hops
              refine St.go h113 ?_; clear h113 a113
              refine sm trivial rfl rfl ?_
              refine sm trivial rfl rfl ?_
              intro a115 h115
              rcases Bool.eq_false_or_eq_true (plB x q5) with hb | hb
              ·rw [hb] at h115
               have hc116 : plB x q5 = true := hb
               replace hc116 : Hid _ := hc116
               clear hb
               refine St.go h115 ?_; clear h115 a115
               refine sfFunc2 ⟨_, hg1, rfl, rfl⟩ rfl rfl ?_
               refine sbTypes 0 hW110 ⟨_, hg1, rfl, rfl⟩ rfl rfl rfl rfl ?_
               refine sm ⟨_, hg1, rfl, rfl⟩ rfl rfl ?_
               refine siTypes hp5.out hlt5 ⟨_, hg1, rfl, rfl⟩ rfl rfl rfl ?_
               refine sfType0 ⟨_, hg1, rfl, rfl⟩ rfl rfl ?_
               refine scInt (bel_cell hW110.bel (E5.out 0 _ rfl)) ⟨_, hg1, rfl, rfl⟩ rfl rfl ?_
               refine seq ⟨_, hg1, rfl, rfl⟩ rfl rfl rfl ?_
               refine sp trivial rfl rfl rfl ?_
               refine sa trivial rfl rfl ?_
               intro a117 h117
               have eqv : plB x (q5 + 1) = (t.kind == 1) := by rw [plB_succ hx5.out, hc116.out]; rfl
               have hF118 := h117.cons (t := 7) (v := .bool (plB x (q5 + 1))) (by rw [h117.sl 7 _ rfl, eqv])
               clear eqv h117
               refine wpList_nil ?_
               refine hK114 _ _ ?_
               refine fr_region ?_
               intro ops hops
               clear hops
               refine St.go hF118 ?_; clear hF118 a117
               refine sm trivial rfl rfl ?_
               refine sad (by omega) trivial rfl rfl rfl ?_
               refine sa trivial rfl rfl ?_
               refine St.nil fun a119 h119 => ?_
               refine hKL5 _ _ (x.results.length - (q5 + 1)) (by omega) ⟨q5 + 1, by omega, rfl, (h119.keep (h119.keep (h119.keep (h119.keep (h119.keep (h119.keep (h119.keep (h119.keep (h119.keep h119.nil (t := 8) rfl) (t := 7) rfl) (t := 6) rfl) (t := 5) rfl) (t := 4) rfl) (t := 3) rfl) (t := 2) rfl) (t := 1) rfl) (t := 0) rfl), hW110⟩
              ·rw [hb] at h115
               have hc120 : plB x q5 = false := hb
               replace hc120 : Hid _ := hc120
               clear hb
               refine St.go h115 ?_; clear h115 a115
               refine so hg1 rfl rfl rfl rfl ?_
               refine so hg1 rfl rfl rfl rfl ?_
               refine so hg1 rfl rfl rfl rfl ?_
               refine so hg1 rfl rfl rfl rfl ?_
               refine so hg1 rfl rfl rfl rfl ?_
               refine so hg1 rfl rfl rfl rfl ?_
               refine so hg1 rfl rfl rfl rfl ?_
               refine spf trivial rfl rfl rfl ?_
               refine sa trivial rfl rfl ?_
               intro a121 h121
               have eqv : plB x (q5 + 1) = false := by rw [plB_succ hx5.out, hc120.out]; rfl
               have hF122 := h121.cons (t := 7) (v := .bool (plB x (q5 + 1))) (by rw [h121.sl 7 _ rfl, eqv])
               clear eqv h121
               refine wpList_nil ?_
               refine hK114 _ _ ?_
               refine fr_region ?_
               intro ops hops
               clear hops
               refine St.go hF122 ?_; clear hF122 a121
               refine sm trivial rfl rfl ?_
               refine sad (by omega) trivial rfl rfl rfl ?_
               refine sa trivial rfl rfl ?_
               refine St.nil fun a123 h123 => ?_
               refine hKL5 _ _ (x.results.length - (q5 + 1)) (by omega) ⟨q5 + 1, by omega, rfl, (h123.keep (h123.keep (h123.keep (h123.keep (h123.keep (h123.keep (h123.keep (h123.keep (h123.keep h123.nil (t := 8) rfl) (t := 7) rfl) (t := 6) rfl) (t := 5) rfl) (t := 4) rfl) (t := 3) rfl) (t := 2) rfl) (t := 1) rfl) (t := 0) rfl), hW110⟩
             ·have hge5 : q5 = x.results.length := by have := of_decide_eq_false hb; omega
              clear hb
              refine wp_exit ?_
              refine hK106 _ _ ?_
              refine wp_seq_k ?_
              intro K124 hK124
              refine fr_region ?_
              intro ops hops
              clear hops
              refine St.go h113 ?_; clear h113 a113
              refine sm trivial rfl rfl ?_
              refine sn trivial rfl rfl ?_
              refine St.nil fun a125 h125 => ?_
              refine hK124 _ _ ?_
              refine fr_cond (t := 109) h125 rfl (fun hb => ?_) (fun hb => ?_)
              ·have hb : (plB x q5) = false := by simpa using hb
               have hc126 : plB x q5 = false := hb
               replace hc126 : Hid _ := hc126
               clear hb
               have hBG : ¬ x.begins := by rw [← plB_iff, ← hge5]; rw [hc126.out]; decide
               refine wp_seq_k ?_
               intro K127 hK127
               refine fr_region ?_
               intro ops hops
               clear hops
               refine St.go h125 ?_; clear h125 a125
               refine sm trivial rfl rfl ?_
               refine sc_1 cf25 hW110 (atFunc_any (f := q1) (by omega)) trivial rfl rfl ?_
               clear hW110; intro w128 hW128
               refine sc_2 cf48 hW128 (fF_any (xc := 18) (xp := 10000 * (q1 : Int) + 9999)) trivial rfl rfl rfl ?_
               clear hW128; intro w129 hW129
               refine sT 1 hW129 rfl rfl infFault rfl rfl rfl ?_
               clear hW129; intro w130 hW130
               refine St.nil fun a131 h131 => ?_
               refine hK127 _ _ ?_
               refine wp_ret ?_
               repeat (first | with_reducible refine of_then_ret ?_ | with_reducible refine of_block_ret ?_)
               have RM : (MFunc.fault m.length q1 x).1 ≠ 0 → modFault m = MFunc.fault m.length q1 x := fun hz => (if_neg (by omega)).trans (by have h9 := firstF_eq (f := fun f x => MFunc.fault m.length f x) (j := 0) hx1.out (fun k y hk hy => by rw [Nat.zero_add]; exact hall1 k y hk hy) (by rw [Nat.zero_add]; exact hz); rwa [Nat.zero_add] at h9)
               have RC : x.code q1 = 18 := by have := hc65.out; have := hc78.out; have := hc101.out; have := hc104.out; exact (if_neg (by omega)).trans ((if_neg (by omega)).trans ((if_neg (by omega)).trans ((if_neg (by omega)).trans (if_pos (⟨by omega, hBG⟩)))))
               have EF : MFunc.fault m.length q1 x = (18, 10000 * (q1 : Int) + 9999) := by rw [MFunc.fault_eq, RC, if_neg (by omega)]
               exact ret_box 1 h131 hW130 rfl rfl rfl Try.underlying26 rfl infFault ⟨by show Ending.returned (.agg #[.int .i64 18, .int .i64 (10000 * (q1 : Int) + 9999)]) = _; rw [RM (by rw [EF]; show _ ≠ _; omega), EF], hW130.bel⟩
              ·have hb : (plB x q5) = true := by simpa using hb
               have hc132 : plB x q5 = true := hb
               replace hc132 : Hid _ := hc132
               clear hb
               have hBG : x.begins := by rw [← plB_iff, ← hge5]; exact hc132.out
               refine wp_skip ?_
               refine hK98 _ _ ?_
               refine wp_seq_k ?_
               intro K133 hK133
               refine fr_region ?_
               intro ops hops
               clear hops
               refine St.go h125 ?_; clear h125 a125
               refine sa trivial rfl rfl ?_
               refine St.nil fun a134 h134 => ?_
               refine hK133 _ _ ?_
               refine wp_block ?_
               refine fr_loop (fun r a w' => ∃ q2 : Nat, q2 ≤ x.blocks.length ∧ r = x.blocks.length - q2 ∧ (∀ (j : Nat) z, j < q2 → x.blocks[j]? = some z → (MBlock.fault m.length q1 x j z).1 = 0) ∧ Fr 129 a [(0, .agg #[.slice p m.length c]), (1, .pointer (some ⟨B2, 0, none⟩)), (2, .pointer (some ⟨B3, 0, none⟩)), (3, .int .i64 (q1 : Int)), (4, .pointer (some ⟨B31, 0, none⟩)), (5, .int .i64 (listC x.regs x.params)), (6, .int .i64 (listC x.regs x.results)), (7, .bool (plB x q5)), (8, .int .i64 (q5 : Int)), (9, .int .i64 (q2 : Int))] ∧ Wd w w' [(B31, #[.int .i64 x.regs, .slice f1.pP x.params.length f1.cP, .slice f1.pR x.results.length f1.cR, .slice f1.pB x.blocks.length f1.cB], 50), (B3, #[.int .i64 0, .int .i64 0], 26), (B2, #[.slice p m.length c], 39)]) (x.blocks.length) ⟨0, Nat.zero_le _, rfl, (fun j z hj => by omega), (h134.keep (h134.keep (h134.keep (h134.keep (h134.keep (h134.keep (h134.keep (h134.keep (h134.keep (h134.keep h134.nil (t := 9) rfl) (t := 8) rfl) (t := 7) rfl) (t := 6) rfl) (t := 5) rfl) (t := 4) rfl) (t := 3) rfl) (t := 2) rfl) (t := 1) rfl) (t := 0) rfl), hW110⟩ ?_
               clear h134 hW110
               rintro r2 a135 w135 ⟨q2, hq2, hr2, hall2, hF135, hW135⟩ KL2 hKL2
               refine wp_seq_k ?_
               intro K136 hK136
               refine wp_seq_k ?_
               intro K137 hK137
               refine fr_region ?_
               intro ops hops
               clear hops
               refine St.go hF135 ?_; clear hF135 a135
               refine sm trivial rfl rfl ?_
               refine sfFunc3 trivial rfl rfl ?_
               refine sbBlocks 0 hW135 trivial rfl rfl rfl rfl ?_
               refine slBlocks trivial rfl rfl ?_
               refine slt trivial rfl rfl rfl ?_
               refine St.nil fun a138 h138 => ?_
               refine hK137 _ _ ?_
               refine fr_cond (t := 117) h138 rfl (fun hb => ?_) (fun hb => ?_)
               ·have hlt2 : q2 < x.blocks.length := by have := of_decide_eq_true hb; omega
                clear hb
                obtain ⟨y, hx2⟩ : ∃ v9, (x.blocks)[q2]? = some v9 := ⟨_, List.getElem?_eq_getElem hlt2⟩
                obtain ⟨g2, o2, b2, hp2, E2, In2⟩ := block_at In1.out.blocks hx2
                replace In2 : Hid _ := In2
                replace hp2 : Hid _ := hp2
                replace hx2 : Hid _ := hx2
                replace E2 : Hid _ := E2
                refine wp_skip ?_
                refine hK136 _ _ ?_
                refine wp_seq_k ?_
                intro K139 hK139
                refine wp_block ?_
                refine wp_seq_k ?_
                intro K140 hK140
                refine fr_region ?_
                intro ops hops
                clear hops
                refine St.go h138 ?_; clear h138 a138
                refine sS 2 1 Try.underlying39 rfl infModule hW135 trivial rfl rfl rfl rfl ?_
                refine sm trivial rfl rfl ?_
                refine sm trivial rfl rfl ?_
                refine sc_3 cf50 hW135 (blockFault_any (c := c) (Lay.below hm.out hW135.bel) hms.out hx1.out hx2.out) trivial rfl rfl rfl rfl ?_
                clear hW135; intro w141 hW141
                refine sAFault hW141 trivial rfl ?_
                clear hW141; intro w142 B142 hW142 hN; clear hN
                refine sT 0 hW142 rfl rfl infFault rfl rfl rfl ?_
                clear hW142; intro w143 hW143
                refine St.nil fun a144 h144 => ?_
                refine hK140 _ _ ?_
                refine wp_seq_k ?_
                intro K145 hK145
                refine fr_region ?_
                intro ops hops
                clear hops
                refine St.go h144 ?_; clear h144 a144
                refine sfFault0 trivial rfl rfl ?_
                refine sbInt 0 hW143 trivial rfl rfl rfl rfl ?_
                refine sne trivial rfl rfl rfl ?_
                refine St.nil fun a146 h146 => ?_
                refine hK145 _ _ ?_
                refine fr_cond (t := 126) h146 rfl (fun hb => ?_) (fun hb => ?_)
                ·have h9 : ¬ ((MBlock.fault m.length q1 x q2 y).1) = 0 := bne_iff_ne.1 hb
                 have hc147 : ¬ ((MBlock.fault m.length q1 x q2 y).1) = 0 := h9
                 clear h9
                 clear hb
                 refine wp_seq_k ?_
                 intro K148 hK148
                 refine fr_region ?_
                 intro ops hops
                 clear hops
                 refine St.go h146 ?_; clear h146 a146
                 refine sS 0 2 Try.underlying26 rfl infFault hW143 trivial rfl rfl rfl rfl ?_
                 refine sT 2 hW143 rfl rfl infFault rfl rfl rfl ?_
                 clear hW143; intro w149 hW149
                 refine St.nil fun a150 h150 => ?_
                 refine hK148 _ _ ?_
                 refine wp_ret ?_
                 repeat (first | with_reducible refine of_then_ret ?_ | with_reducible refine of_block_ret ?_)
                 have RM : (MFunc.fault m.length q1 x).1 ≠ 0 → modFault m = MFunc.fault m.length q1 x := fun hz => (if_neg (by omega)).trans (by have h9 := firstF_eq (f := fun f x => MFunc.fault m.length f x) (j := 0) hx1.out (fun k y hk hy => by rw [Nat.zero_add]; exact hall1 k y hk hy) (by rw [Nat.zero_add]; exact hz); rwa [Nat.zero_add] at h9)
                 have RC : x.code q1 = 0 := by have := hc65.out; have := hc78.out; have := hc101.out; have := hc104.out; exact (if_neg (by omega)).trans ((if_neg (by omega)).trans ((if_neg (by omega)).trans ((if_neg (by omega)).trans ((if_neg (fun h9 => h9.2 hBG)).trans (rfl)))))
                 have EF : MFunc.fault m.length q1 x = MBlock.fault m.length q1 x q2 y := by
                   rw [MFunc.fault_eq, if_pos RC]
                   have h9 := firstF_eq (f := fun b y => MBlock.fault m.length q1 x b y) (j := 0) hx2.out (fun k y hk hy => by rw [Nat.zero_add]; exact hall2 k y hk hy) (by rw [Nat.zero_add]; exact hc147)
                   rwa [Nat.zero_add] at h9
                 exact ret_box 2 h150 hW149 rfl rfl rfl Try.underlying26 rfl infFault ⟨by show Ending.returned (.agg #[.int .i64 ((MBlock.fault m.length q1 x q2 y).1), .int .i64 ((MBlock.fault m.length q1 x q2 y).2)]) = _; rw [RM (by rw [EF]; exact hc147), EF], hW149.bel⟩
                ·have h9 : ((MBlock.fault m.length q1 x q2 y).1) = 0 := bne_eq_false_iff_eq.1 hb
                 have hc151 : Hid (((MBlock.fault m.length q1 x q2 y).1) = 0) := h9
                 clear h9
                 clear hb
                 refine wp_skip ?_
                 refine hK139 _ _ ?_
                 refine fr_region ?_
                 intro ops hops
                 clear hops
                 refine St.go h146 ?_; clear h146 a146
                 refine sm trivial rfl rfl ?_
                 refine sad (by omega) trivial rfl rfl rfl ?_
                 refine sa trivial rfl rfl ?_
                 refine St.nil fun a152 h152 => ?_
                 refine hKL2 _ _ (x.blocks.length - (q2 + 1)) (by omega) ⟨q2 + 1, by omega, rfl, ?_, (h152.keep (h152.keep (h152.keep (h152.keep (h152.keep (h152.keep (h152.keep (h152.keep (h152.keep (h152.keep h152.nil (t := 9) rfl) (t := 8) rfl) (t := 7) rfl) (t := 6) rfl) (t := 5) rfl) (t := 4) rfl) (t := 3) rfl) (t := 2) rfl) (t := 1) rfl) (t := 0) rfl), hW143.tail⟩
                 ·intro j z hj hz
                  by_cases e : j = q2
                  · subst e; rw [hx2.out] at hz; cases hz; exact hc151.out
                  · exact hall2 j z (by omega) hz
               ·have hge2 : q2 = x.blocks.length := by have := of_decide_eq_false hb; omega
                clear hb
                have RC : x.code q1 = 0 := by have := hc65.out; have := hc78.out; have := hc101.out; have := hc104.out; exact (if_neg (by omega)).trans ((if_neg (by omega)).trans ((if_neg (by omega)).trans ((if_neg (by omega)).trans ((if_neg (fun h9 => h9.2 hBG)).trans (rfl)))))
                have NZ1 : (MFunc.fault m.length q1 x).1 = 0 := by
                  rw [MFunc.fault_eq, if_pos RC, firstF_zero (fun k y hy => by rw [Nat.zero_add]; exact hall2 k y (by have := (List.getElem?_eq_some_iff.1 hy).1; omega) hy)]
                refine wp_exit ?_
                refine hK29 _ _ ?_
                refine fr_region ?_
                intro ops hops
                clear hops
                refine St.go h138 ?_; clear h138 a138
                refine sm trivial rfl rfl ?_
                refine sad (by omega) trivial rfl rfl rfl ?_
                refine sa trivial rfl rfl ?_
                refine St.nil fun a153 h153 => ?_
                refine hKL1 _ _ (m.length - (q1 + 1)) (by omega) ⟨q1 + 1, by omega, rfl, ?_, (h153.keep (h153.keep (h153.keep (h153.keep h153.nil (t := 3) rfl) (t := 2) rfl) (t := 1) rfl) (t := 0) rfl), hW135.tail⟩
                ·intro j z hj hz
                 by_cases e : j = q1
                 · subst e; rw [hx1.out] at hz; cases hz; exact NZ1
                 · exact hall1 j z (by omega) hz
            ·rw [hb] at h103
             have h9 : ¬ x.regs = 0 := ne_of_beq_false hb
             have hc154 : ¬ x.regs = 0 := h9
             clear h9
             clear hb
             refine St.go h103 ?_; clear h103 a103
             refine so hg3 rfl rfl rfl rfl ?_
             refine so hg3 rfl rfl rfl rfl ?_
             refine so hg3 rfl rfl rfl rfl ?_
             refine so hg3 rfl rfl rfl rfl ?_
             refine spf trivial rfl rfl rfl ?_
             refine sa trivial rfl rfl ?_
             refine St.nil fun a155 h155 => ?_
             refine hK102 _ _ ?_
             refine wp_seq_k ?_
             intro K156 hK156
             refine wp_seq_k ?_
             intro K157 hK157
             refine fr_region ?_
             intro ops hops
             clear hops
             refine St.go h155 ?_; clear h155 a155
             refine sa trivial rfl rfl ?_
             refine St.nil fun a158 h158 => ?_
             refine hK157 _ _ ?_
             refine wp_block ?_
             have eqv : plB x 0 = false := by rw [plB_zero]; simp [hc154]
             have hF159 := h158.cons (t := 7) (v := .bool (plB x 0)) (by rw [h158.sl 7 _ rfl, eqv])
             clear eqv h158
             refine fr_loop (fun r a w' => ∃ q5 : Nat, q5 ≤ x.results.length ∧ r = x.results.length - q5 ∧ Fr 129 a [(0, .agg #[.slice p m.length c]), (1, .pointer (some ⟨B2, 0, none⟩)), (2, .pointer (some ⟨B3, 0, none⟩)), (3, .int .i64 (q1 : Int)), (4, .pointer (some ⟨B31, 0, none⟩)), (5, .int .i64 (listC x.regs x.params)), (6, .int .i64 (listC x.regs x.results)), (7, .bool (plB x q5)), (8, .int .i64 (q5 : Int))] ∧ Wd w w' [(B31, #[.int .i64 x.regs, .slice f1.pP x.params.length f1.cP, .slice f1.pR x.results.length f1.cR, .slice f1.pB x.blocks.length f1.cB], 50), (B3, #[.int .i64 0, .int .i64 0], 26), (B2, #[.slice p m.length c], 39)]) (x.results.length) ⟨0, Nat.zero_le _, rfl, (hF159.keep (hF159.keep (hF159.keep (hF159.keep (hF159.keep (hF159.keep (hF159.keep (hF159.keep (hF159.keep hF159.nil (t := 8) rfl) (t := 7) rfl) (t := 6) rfl) (t := 5) rfl) (t := 4) rfl) (t := 3) rfl) (t := 2) rfl) (t := 1) rfl) (t := 0) rfl), hW68⟩ ?_
             clear hF159 hW68
             rintro r5 a160 w160 ⟨q5, hq5, hr5, hF160, hW160⟩ KL5 hKL5
             refine wp_seq_k ?_
             intro K161 hK161
             refine wp_seq_k ?_
             intro K162 hK162
             refine fr_region ?_
             intro ops hops
             clear hops
             refine St.go hF160 ?_; clear hF160 a160
             refine sm trivial rfl rfl ?_
             refine sfFunc2 trivial rfl rfl ?_
             refine sbTypes 0 hW160 trivial rfl rfl rfl rfl ?_
             refine slTypes trivial rfl rfl ?_
             refine slt trivial rfl rfl rfl ?_
             refine St.nil fun a163 h163 => ?_
             refine hK162 _ _ ?_
             refine fr_cond (t := 95) h163 rfl (fun hb => ?_) (fun hb => ?_)
             ·have hlt5 : q5 < x.results.length := by have := of_decide_eq_true hb; omega
              clear hb
              obtain ⟨t, hx5⟩ : ∃ v9, (x.results)[q5]? = some v9 := ⟨_, List.getElem?_eq_getElem hlt5⟩
              obtain ⟨g5, o5, pt5, ct5, hp5, E5, In5⟩ := lin_at (types_lin In1.out.results).1 hx5
              replace In5 : Hid _ := In5
              replace hp5 : Hid _ := hp5
              replace hx5 : Hid _ := hx5
              replace E5 : Hid _ := E5
              refine wp_skip ?_
              refine hK161 _ _ ?_
              refine wp_seq_k ?_
              intro K164 hK164
              refine wp_block ?_
              refine fr_region ?_
              intro ops hops
              have hg1 : (ops[1]?).bind (fun o : Oper => o.dst) = some 99 := hops 1
              clear hops
              refine St.go h163 ?_; clear h163 a163
              refine sm trivial rfl rfl ?_
              refine sm trivial rfl rfl ?_
              intro a165 h165
              rcases Bool.eq_false_or_eq_true (plB x q5) with hb | hb
              ·rw [hb] at h165
               have hc166 : plB x q5 = true := hb
               replace hc166 : Hid _ := hc166
               clear hb
               refine St.go h165 ?_; clear h165 a165
               refine sfFunc2 ⟨_, hg1, rfl, rfl⟩ rfl rfl ?_
               refine sbTypes 0 hW160 ⟨_, hg1, rfl, rfl⟩ rfl rfl rfl rfl ?_
               refine sm ⟨_, hg1, rfl, rfl⟩ rfl rfl ?_
               refine siTypes hp5.out hlt5 ⟨_, hg1, rfl, rfl⟩ rfl rfl rfl ?_
               refine sfType0 ⟨_, hg1, rfl, rfl⟩ rfl rfl ?_
               refine scInt (bel_cell hW160.bel (E5.out 0 _ rfl)) ⟨_, hg1, rfl, rfl⟩ rfl rfl ?_
               refine seq ⟨_, hg1, rfl, rfl⟩ rfl rfl rfl ?_
               refine sp trivial rfl rfl rfl ?_
               refine sa trivial rfl rfl ?_
               intro a167 h167
               have eqv : plB x (q5 + 1) = (t.kind == 1) := by rw [plB_succ hx5.out, hc166.out]; rfl
               have hF168 := h167.cons (t := 7) (v := .bool (plB x (q5 + 1))) (by rw [h167.sl 7 _ rfl, eqv])
               clear eqv h167
               refine wpList_nil ?_
               refine hK164 _ _ ?_
               refine fr_region ?_
               intro ops hops
               clear hops
               refine St.go hF168 ?_; clear hF168 a167
               refine sm trivial rfl rfl ?_
               refine sad (by omega) trivial rfl rfl rfl ?_
               refine sa trivial rfl rfl ?_
               refine St.nil fun a169 h169 => ?_
               refine hKL5 _ _ (x.results.length - (q5 + 1)) (by omega) ⟨q5 + 1, by omega, rfl, (h169.keep (h169.keep (h169.keep (h169.keep (h169.keep (h169.keep (h169.keep (h169.keep (h169.keep h169.nil (t := 8) rfl) (t := 7) rfl) (t := 6) rfl) (t := 5) rfl) (t := 4) rfl) (t := 3) rfl) (t := 2) rfl) (t := 1) rfl) (t := 0) rfl), hW160⟩
              ·rw [hb] at h165
               have hc170 : plB x q5 = false := hb
               replace hc170 : Hid _ := hc170
               clear hb
               refine St.go h165 ?_; clear h165 a165
               refine so hg1 rfl rfl rfl rfl ?_
               refine so hg1 rfl rfl rfl rfl ?_
               refine so hg1 rfl rfl rfl rfl ?_
               refine so hg1 rfl rfl rfl rfl ?_
               refine so hg1 rfl rfl rfl rfl ?_
               refine so hg1 rfl rfl rfl rfl ?_
               refine so hg1 rfl rfl rfl rfl ?_
               refine spf trivial rfl rfl rfl ?_
               refine sa trivial rfl rfl ?_
               intro a171 h171
               have eqv : plB x (q5 + 1) = false := by rw [plB_succ hx5.out, hc170.out]; rfl
               have hF172 := h171.cons (t := 7) (v := .bool (plB x (q5 + 1))) (by rw [h171.sl 7 _ rfl, eqv])
               clear eqv h171
               refine wpList_nil ?_
               refine hK164 _ _ ?_
               refine fr_region ?_
               intro ops hops
               clear hops
               refine St.go hF172 ?_; clear hF172 a171
               refine sm trivial rfl rfl ?_
               refine sad (by omega) trivial rfl rfl rfl ?_
               refine sa trivial rfl rfl ?_
               refine St.nil fun a173 h173 => ?_
               refine hKL5 _ _ (x.results.length - (q5 + 1)) (by omega) ⟨q5 + 1, by omega, rfl, (h173.keep (h173.keep (h173.keep (h173.keep (h173.keep (h173.keep (h173.keep (h173.keep (h173.keep h173.nil (t := 8) rfl) (t := 7) rfl) (t := 6) rfl) (t := 5) rfl) (t := 4) rfl) (t := 3) rfl) (t := 2) rfl) (t := 1) rfl) (t := 0) rfl), hW160⟩
             ·have hge5 : q5 = x.results.length := by have := of_decide_eq_false hb; omega
              clear hb
              refine wp_exit ?_
              refine hK156 _ _ ?_
              refine wp_seq_k ?_
              intro K174 hK174
              refine fr_region ?_
              intro ops hops
              clear hops
              refine St.go h163 ?_; clear h163 a163
              refine sm trivial rfl rfl ?_
              refine sn trivial rfl rfl ?_
              refine St.nil fun a175 h175 => ?_
              refine hK174 _ _ ?_
              refine fr_cond (t := 109) h175 rfl (fun hb => ?_) (fun hb => ?_)
              ·have hb : (plB x q5) = false := by simpa using hb
               have hc176 : plB x q5 = false := hb
               replace hc176 : Hid _ := hc176
               clear hb
               have hBG : ¬ x.begins := by rw [← plB_iff, ← hge5]; rw [hc176.out]; decide
               refine wp_seq_k ?_
               intro K177 hK177
               refine fr_region ?_
               intro ops hops
               clear hops
               refine St.go h175 ?_; clear h175 a175
               refine sm trivial rfl rfl ?_
               refine sc_1 cf25 hW160 (atFunc_any (f := q1) (by omega)) trivial rfl rfl ?_
               clear hW160; intro w178 hW178
               refine sc_2 cf48 hW178 (fF_any (xc := 18) (xp := 10000 * (q1 : Int) + 9999)) trivial rfl rfl rfl ?_
               clear hW178; intro w179 hW179
               refine sT 1 hW179 rfl rfl infFault rfl rfl rfl ?_
               clear hW179; intro w180 hW180
               refine St.nil fun a181 h181 => ?_
               refine hK177 _ _ ?_
               refine wp_ret ?_
               repeat (first | with_reducible refine of_then_ret ?_ | with_reducible refine of_block_ret ?_)
               have RM : (MFunc.fault m.length q1 x).1 ≠ 0 → modFault m = MFunc.fault m.length q1 x := fun hz => (if_neg (by omega)).trans (by have h9 := firstF_eq (f := fun f x => MFunc.fault m.length f x) (j := 0) hx1.out (fun k y hk hy => by rw [Nat.zero_add]; exact hall1 k y hk hy) (by rw [Nat.zero_add]; exact hz); rwa [Nat.zero_add] at h9)
               have RC : x.code q1 = 18 := by have := hc65.out; have := hc78.out; have := hc101.out; exact (if_neg (by omega)).trans ((if_neg (by omega)).trans ((if_neg (by omega)).trans ((if_neg (by omega)).trans (if_pos (⟨by omega, hBG⟩)))))
               have EF : MFunc.fault m.length q1 x = (18, 10000 * (q1 : Int) + 9999) := by rw [MFunc.fault_eq, RC, if_neg (by omega)]
               exact ret_box 1 h181 hW180 rfl rfl rfl Try.underlying26 rfl infFault ⟨by show Ending.returned (.agg #[.int .i64 18, .int .i64 (10000 * (q1 : Int) + 9999)]) = _; rw [RM (by rw [EF]; show _ ≠ _; omega), EF], hW180.bel⟩
              ·have hb : (plB x q5) = true := by simpa using hb
               have hc182 : plB x q5 = true := hb
               replace hc182 : Hid _ := hc182
               clear hb
               have hBG : x.begins := by rw [← plB_iff, ← hge5]; exact hc182.out
               refine wp_skip ?_
               refine hK98 _ _ ?_
               refine wp_seq_k ?_
               intro K183 hK183
               refine fr_region ?_
               intro ops hops
               clear hops
               refine St.go h175 ?_; clear h175 a175
               refine sa trivial rfl rfl ?_
               refine St.nil fun a184 h184 => ?_
               refine hK183 _ _ ?_
               refine wp_block ?_
               refine fr_loop (fun r a w' => ∃ q2 : Nat, q2 ≤ x.blocks.length ∧ r = x.blocks.length - q2 ∧ (∀ (j : Nat) z, j < q2 → x.blocks[j]? = some z → (MBlock.fault m.length q1 x j z).1 = 0) ∧ Fr 129 a [(0, .agg #[.slice p m.length c]), (1, .pointer (some ⟨B2, 0, none⟩)), (2, .pointer (some ⟨B3, 0, none⟩)), (3, .int .i64 (q1 : Int)), (4, .pointer (some ⟨B31, 0, none⟩)), (5, .int .i64 (listC x.regs x.params)), (6, .int .i64 (listC x.regs x.results)), (7, .bool (plB x q5)), (8, .int .i64 (q5 : Int)), (9, .int .i64 (q2 : Int))] ∧ Wd w w' [(B31, #[.int .i64 x.regs, .slice f1.pP x.params.length f1.cP, .slice f1.pR x.results.length f1.cR, .slice f1.pB x.blocks.length f1.cB], 50), (B3, #[.int .i64 0, .int .i64 0], 26), (B2, #[.slice p m.length c], 39)]) (x.blocks.length) ⟨0, Nat.zero_le _, rfl, (fun j z hj => by omega), (h184.keep (h184.keep (h184.keep (h184.keep (h184.keep (h184.keep (h184.keep (h184.keep (h184.keep (h184.keep h184.nil (t := 9) rfl) (t := 8) rfl) (t := 7) rfl) (t := 6) rfl) (t := 5) rfl) (t := 4) rfl) (t := 3) rfl) (t := 2) rfl) (t := 1) rfl) (t := 0) rfl), hW160⟩ ?_
               clear h184 hW160
               rintro r2 a185 w185 ⟨q2, hq2, hr2, hall2, hF185, hW185⟩ KL2 hKL2
               refine wp_seq_k ?_
               intro K186 hK186
               refine wp_seq_k ?_
               intro K187 hK187
               refine fr_region ?_
               intro ops hops
               clear hops
               refine St.go hF185 ?_; clear hF185 a185
               refine sm trivial rfl rfl ?_
               refine sfFunc3 trivial rfl rfl ?_
               refine sbBlocks 0 hW185 trivial rfl rfl rfl rfl ?_
               refine slBlocks trivial rfl rfl ?_
               refine slt trivial rfl rfl rfl ?_
               refine St.nil fun a188 h188 => ?_
               refine hK187 _ _ ?_
               refine fr_cond (t := 117) h188 rfl (fun hb => ?_) (fun hb => ?_)
               ·have hlt2 : q2 < x.blocks.length := by have := of_decide_eq_true hb; omega
                clear hb
                obtain ⟨y, hx2⟩ : ∃ v9, (x.blocks)[q2]? = some v9 := ⟨_, List.getElem?_eq_getElem hlt2⟩
                obtain ⟨g2, o2, b2, hp2, E2, In2⟩ := block_at In1.out.blocks hx2
                replace In2 : Hid _ := In2
                replace hp2 : Hid _ := hp2
                replace hx2 : Hid _ := hx2
                replace E2 : Hid _ := E2
                refine wp_skip ?_
                refine hK186 _ _ ?_
                refine wp_seq_k ?_
                intro K189 hK189
                refine wp_block ?_
                refine wp_seq_k ?_
                intro K190 hK190
                refine fr_region ?_
                intro ops hops
                clear hops
                refine St.go h188 ?_; clear h188 a188
                refine sS 2 1 Try.underlying39 rfl infModule hW185 trivial rfl rfl rfl rfl ?_
                refine sm trivial rfl rfl ?_
                refine sm trivial rfl rfl ?_
                refine sc_3 cf50 hW185 (blockFault_any (c := c) (Lay.below hm.out hW185.bel) hms.out hx1.out hx2.out) trivial rfl rfl rfl rfl ?_
                clear hW185; intro w191 hW191
                refine sAFault hW191 trivial rfl ?_
                clear hW191; intro w192 B192 hW192 hN; clear hN
                refine sT 0 hW192 rfl rfl infFault rfl rfl rfl ?_
                clear hW192; intro w193 hW193
                refine St.nil fun a194 h194 => ?_
                refine hK190 _ _ ?_
                refine wp_seq_k ?_
                intro K195 hK195
                refine fr_region ?_
                intro ops hops
                clear hops
                refine St.go h194 ?_; clear h194 a194
                refine sfFault0 trivial rfl rfl ?_
                refine sbInt 0 hW193 trivial rfl rfl rfl rfl ?_
                refine sne trivial rfl rfl rfl ?_
                refine St.nil fun a196 h196 => ?_
                refine hK195 _ _ ?_
                refine fr_cond (t := 126) h196 rfl (fun hb => ?_) (fun hb => ?_)
                ·have h9 : ¬ ((MBlock.fault m.length q1 x q2 y).1) = 0 := bne_iff_ne.1 hb
                 have hc197 : ¬ ((MBlock.fault m.length q1 x q2 y).1) = 0 := h9
                 clear h9
                 clear hb
                 refine wp_seq_k ?_
                 intro K198 hK198
                 refine fr_region ?_
                 intro ops hops
                 clear hops
                 refine St.go h196 ?_; clear h196 a196
                 refine sS 0 2 Try.underlying26 rfl infFault hW193 trivial rfl rfl rfl rfl ?_
                 refine sT 2 hW193 rfl rfl infFault rfl rfl rfl ?_
                 clear hW193; intro w199 hW199
                 refine St.nil fun a200 h200 => ?_
                 refine hK198 _ _ ?_
                 refine wp_ret ?_
                 repeat (first | with_reducible refine of_then_ret ?_ | with_reducible refine of_block_ret ?_)
                 have RM : (MFunc.fault m.length q1 x).1 ≠ 0 → modFault m = MFunc.fault m.length q1 x := fun hz => (if_neg (by omega)).trans (by have h9 := firstF_eq (f := fun f x => MFunc.fault m.length f x) (j := 0) hx1.out (fun k y hk hy => by rw [Nat.zero_add]; exact hall1 k y hk hy) (by rw [Nat.zero_add]; exact hz); rwa [Nat.zero_add] at h9)
                 have RC : x.code q1 = 0 := by have := hc65.out; have := hc78.out; have := hc101.out; exact (if_neg (by omega)).trans ((if_neg (by omega)).trans ((if_neg (by omega)).trans ((if_neg (by omega)).trans ((if_neg (fun h9 => h9.2 hBG)).trans (rfl)))))
                 have EF : MFunc.fault m.length q1 x = MBlock.fault m.length q1 x q2 y := by
                   rw [MFunc.fault_eq, if_pos RC]
                   have h9 := firstF_eq (f := fun b y => MBlock.fault m.length q1 x b y) (j := 0) hx2.out (fun k y hk hy => by rw [Nat.zero_add]; exact hall2 k y hk hy) (by rw [Nat.zero_add]; exact hc197)
                   rwa [Nat.zero_add] at h9
                 exact ret_box 2 h200 hW199 rfl rfl rfl Try.underlying26 rfl infFault ⟨by show Ending.returned (.agg #[.int .i64 ((MBlock.fault m.length q1 x q2 y).1), .int .i64 ((MBlock.fault m.length q1 x q2 y).2)]) = _; rw [RM (by rw [EF]; exact hc197), EF], hW199.bel⟩
                ·have h9 : ((MBlock.fault m.length q1 x q2 y).1) = 0 := bne_eq_false_iff_eq.1 hb
                 have hc201 : Hid (((MBlock.fault m.length q1 x q2 y).1) = 0) := h9
                 clear h9
                 clear hb
                 refine wp_skip ?_
                 refine hK189 _ _ ?_
                 refine fr_region ?_
                 intro ops hops
                 clear hops
                 refine St.go h196 ?_; clear h196 a196
                 refine sm trivial rfl rfl ?_
                 refine sad (by omega) trivial rfl rfl rfl ?_
                 refine sa trivial rfl rfl ?_
                 refine St.nil fun a202 h202 => ?_
                 refine hKL2 _ _ (x.blocks.length - (q2 + 1)) (by omega) ⟨q2 + 1, by omega, rfl, ?_, (h202.keep (h202.keep (h202.keep (h202.keep (h202.keep (h202.keep (h202.keep (h202.keep (h202.keep (h202.keep h202.nil (t := 9) rfl) (t := 8) rfl) (t := 7) rfl) (t := 6) rfl) (t := 5) rfl) (t := 4) rfl) (t := 3) rfl) (t := 2) rfl) (t := 1) rfl) (t := 0) rfl), hW193.tail⟩
                 ·intro j z hj hz
                  by_cases e : j = q2
                  · subst e; rw [hx2.out] at hz; cases hz; exact hc201.out
                  · exact hall2 j z (by omega) hz
               ·have hge2 : q2 = x.blocks.length := by have := of_decide_eq_false hb; omega
                clear hb
                have RC : x.code q1 = 0 := by have := hc65.out; have := hc78.out; have := hc101.out; exact (if_neg (by omega)).trans ((if_neg (by omega)).trans ((if_neg (by omega)).trans ((if_neg (by omega)).trans ((if_neg (fun h9 => h9.2 hBG)).trans (rfl)))))
                have NZ1 : (MFunc.fault m.length q1 x).1 = 0 := by
                  rw [MFunc.fault_eq, if_pos RC, firstF_zero (fun k y hy => by rw [Nat.zero_add]; exact hall2 k y (by have := (List.getElem?_eq_some_iff.1 hy).1; omega) hy)]
                refine wp_exit ?_
                refine hK29 _ _ ?_
                refine fr_region ?_
                intro ops hops
                clear hops
                refine St.go h188 ?_; clear h188 a188
                refine sm trivial rfl rfl ?_
                refine sad (by omega) trivial rfl rfl rfl ?_
                refine sa trivial rfl rfl ?_
                refine St.nil fun a203 h203 => ?_
                refine hKL1 _ _ (m.length - (q1 + 1)) (by omega) ⟨q1 + 1, by omega, rfl, ?_, (h203.keep (h203.keep (h203.keep (h203.keep h203.nil (t := 3) rfl) (t := 2) rfl) (t := 1) rfl) (t := 0) rfl), hW185.tail⟩
                ·intro j z hj hz
                 by_cases e : j = q1
                 · subst e; rw [hx1.out] at hz; cases hz; exact NZ1
                 · exact hall1 j z (by omega) hz
           ·have h9 : ¬ q1 = 0 := by have h8 := ne_of_beq_false hb; omega
            have hc204 : ¬ q1 = 0 := h9
            clear h9
            clear hb
            refine wp_skip ?_
            refine hK98 _ _ ?_
            refine wp_seq_k ?_
            intro K205 hK205
            refine fr_region ?_
            intro ops hops
            clear hops
            refine St.go h100 ?_; clear h100 a100
            refine sa trivial rfl rfl ?_
            refine St.nil fun a206 h206 => ?_
            refine hK205 _ _ ?_
            refine wp_block ?_
            refine fr_loop (fun r a w' => ∃ q2 : Nat, q2 ≤ x.blocks.length ∧ r = x.blocks.length - q2 ∧ (∀ (j : Nat) z, j < q2 → x.blocks[j]? = some z → (MBlock.fault m.length q1 x j z).1 = 0) ∧ Fr 129 a [(0, .agg #[.slice p m.length c]), (1, .pointer (some ⟨B2, 0, none⟩)), (2, .pointer (some ⟨B3, 0, none⟩)), (3, .int .i64 (q1 : Int)), (4, .pointer (some ⟨B31, 0, none⟩)), (5, .int .i64 (listC x.regs x.params)), (6, .int .i64 (listC x.regs x.results)), (9, .int .i64 (q2 : Int))] ∧ Wd w w' [(B31, #[.int .i64 x.regs, .slice f1.pP x.params.length f1.cP, .slice f1.pR x.results.length f1.cR, .slice f1.pB x.blocks.length f1.cB], 50), (B3, #[.int .i64 0, .int .i64 0], 26), (B2, #[.slice p m.length c], 39)]) (x.blocks.length) ⟨0, Nat.zero_le _, rfl, (fun j z hj => by omega), (h206.keep (h206.keep (h206.keep (h206.keep (h206.keep (h206.keep (h206.keep (h206.keep h206.nil (t := 9) rfl) (t := 6) rfl) (t := 5) rfl) (t := 4) rfl) (t := 3) rfl) (t := 2) rfl) (t := 1) rfl) (t := 0) rfl), hW68⟩ ?_
            clear h206 hW68
            rintro r2 a207 w207 ⟨q2, hq2, hr2, hall2, hF207, hW207⟩ KL2 hKL2
            refine wp_seq_k ?_
            intro K208 hK208
            refine wp_seq_k ?_
            intro K209 hK209
            refine fr_region ?_
            intro ops hops
            clear hops
            refine St.go hF207 ?_; clear hF207 a207
            refine sm trivial rfl rfl ?_
            refine sfFunc3 trivial rfl rfl ?_
            refine sbBlocks 0 hW207 trivial rfl rfl rfl rfl ?_
            refine slBlocks trivial rfl rfl ?_
            refine slt trivial rfl rfl rfl ?_
            refine St.nil fun a210 h210 => ?_
            refine hK209 _ _ ?_
            refine fr_cond (t := 117) h210 rfl (fun hb => ?_) (fun hb => ?_)
            ·have hlt2 : q2 < x.blocks.length := by have := of_decide_eq_true hb; omega
             clear hb
             obtain ⟨y, hx2⟩ : ∃ v9, (x.blocks)[q2]? = some v9 := ⟨_, List.getElem?_eq_getElem hlt2⟩
             obtain ⟨g2, o2, b2, hp2, E2, In2⟩ := block_at In1.out.blocks hx2
             replace In2 : Hid _ := In2
             replace hp2 : Hid _ := hp2
             replace hx2 : Hid _ := hx2
             replace E2 : Hid _ := E2
             refine wp_skip ?_
             refine hK208 _ _ ?_
             refine wp_seq_k ?_
             intro K211 hK211
             refine wp_block ?_
             refine wp_seq_k ?_
             intro K212 hK212
             refine fr_region ?_
             intro ops hops
             clear hops
             refine St.go h210 ?_; clear h210 a210
             refine sS 2 1 Try.underlying39 rfl infModule hW207 trivial rfl rfl rfl rfl ?_
             refine sm trivial rfl rfl ?_
             refine sm trivial rfl rfl ?_
             refine sc_3 cf50 hW207 (blockFault_any (c := c) (Lay.below hm.out hW207.bel) hms.out hx1.out hx2.out) trivial rfl rfl rfl rfl ?_
             clear hW207; intro w213 hW213
             refine sAFault hW213 trivial rfl ?_
             clear hW213; intro w214 B214 hW214 hN; clear hN
             refine sT 0 hW214 rfl rfl infFault rfl rfl rfl ?_
             clear hW214; intro w215 hW215
             refine St.nil fun a216 h216 => ?_
             refine hK212 _ _ ?_
             refine wp_seq_k ?_
             intro K217 hK217
             refine fr_region ?_
             intro ops hops
             clear hops
             refine St.go h216 ?_; clear h216 a216
             refine sfFault0 trivial rfl rfl ?_
             refine sbInt 0 hW215 trivial rfl rfl rfl rfl ?_
             refine sne trivial rfl rfl rfl ?_
             refine St.nil fun a218 h218 => ?_
             refine hK217 _ _ ?_
             refine fr_cond (t := 126) h218 rfl (fun hb => ?_) (fun hb => ?_)
             ·have h9 : ¬ ((MBlock.fault m.length q1 x q2 y).1) = 0 := bne_iff_ne.1 hb
              have hc219 : ¬ ((MBlock.fault m.length q1 x q2 y).1) = 0 := h9
              clear h9
              clear hb
              refine wp_seq_k ?_
              intro K220 hK220
              refine fr_region ?_
              intro ops hops
              clear hops
              refine St.go h218 ?_; clear h218 a218
              refine sS 0 2 Try.underlying26 rfl infFault hW215 trivial rfl rfl rfl rfl ?_
              refine sT 2 hW215 rfl rfl infFault rfl rfl rfl ?_
              clear hW215; intro w221 hW221
              refine St.nil fun a222 h222 => ?_
              refine hK220 _ _ ?_
              refine wp_ret ?_
              repeat (first | with_reducible refine of_then_ret ?_ | with_reducible refine of_block_ret ?_)
              have RM : (MFunc.fault m.length q1 x).1 ≠ 0 → modFault m = MFunc.fault m.length q1 x := fun hz => (if_neg (by omega)).trans (by have h9 := firstF_eq (f := fun f x => MFunc.fault m.length f x) (j := 0) hx1.out (fun k y hk hy => by rw [Nat.zero_add]; exact hall1 k y hk hy) (by rw [Nat.zero_add]; exact hz); rwa [Nat.zero_add] at h9)
              have RC : x.code q1 = 0 := by have := hc65.out; have := hc78.out; exact (if_neg (by omega)).trans ((if_neg (by omega)).trans ((if_neg (by omega)).trans ((if_neg (by omega)).trans ((if_neg (by omega)).trans (rfl)))))
              have EF : MFunc.fault m.length q1 x = MBlock.fault m.length q1 x q2 y := by
                rw [MFunc.fault_eq, if_pos RC]
                have h9 := firstF_eq (f := fun b y => MBlock.fault m.length q1 x b y) (j := 0) hx2.out (fun k y hk hy => by rw [Nat.zero_add]; exact hall2 k y hk hy) (by rw [Nat.zero_add]; exact hc219)
                rwa [Nat.zero_add] at h9
              exact ret_box 2 h222 hW221 rfl rfl rfl Try.underlying26 rfl infFault ⟨by show Ending.returned (.agg #[.int .i64 ((MBlock.fault m.length q1 x q2 y).1), .int .i64 ((MBlock.fault m.length q1 x q2 y).2)]) = _; rw [RM (by rw [EF]; exact hc219), EF], hW221.bel⟩
             ·have h9 : ((MBlock.fault m.length q1 x q2 y).1) = 0 := bne_eq_false_iff_eq.1 hb
              have hc223 : Hid (((MBlock.fault m.length q1 x q2 y).1) = 0) := h9
              clear h9
              clear hb
              refine wp_skip ?_
              refine hK211 _ _ ?_
              refine fr_region ?_
              intro ops hops
              clear hops
              refine St.go h218 ?_; clear h218 a218
              refine sm trivial rfl rfl ?_
              refine sad (by omega) trivial rfl rfl rfl ?_
              refine sa trivial rfl rfl ?_
              refine St.nil fun a224 h224 => ?_
              refine hKL2 _ _ (x.blocks.length - (q2 + 1)) (by omega) ⟨q2 + 1, by omega, rfl, ?_, (h224.keep (h224.keep (h224.keep (h224.keep (h224.keep (h224.keep (h224.keep (h224.keep h224.nil (t := 9) rfl) (t := 6) rfl) (t := 5) rfl) (t := 4) rfl) (t := 3) rfl) (t := 2) rfl) (t := 1) rfl) (t := 0) rfl), hW215.tail⟩
              ·intro j z hj hz
               by_cases e : j = q2
               · subst e; rw [hx2.out] at hz; cases hz; exact hc223.out
               · exact hall2 j z (by omega) hz
            ·have hge2 : q2 = x.blocks.length := by have := of_decide_eq_false hb; omega
             clear hb
             have RC : x.code q1 = 0 := by have := hc65.out; have := hc78.out; exact (if_neg (by omega)).trans ((if_neg (by omega)).trans ((if_neg (by omega)).trans ((if_neg (by omega)).trans ((if_neg (by omega)).trans (rfl)))))
             have NZ1 : (MFunc.fault m.length q1 x).1 = 0 := by
               rw [MFunc.fault_eq, if_pos RC, firstF_zero (fun k y hy => by rw [Nat.zero_add]; exact hall2 k y (by have := (List.getElem?_eq_some_iff.1 hy).1; omega) hy)]
             refine wp_exit ?_
             refine hK29 _ _ ?_
             refine fr_region ?_
             intro ops hops
             clear hops
             refine St.go h210 ?_; clear h210 a210
             refine sm trivial rfl rfl ?_
             refine sad (by omega) trivial rfl rfl rfl ?_
             refine sa trivial rfl rfl ?_
             refine St.nil fun a225 h225 => ?_
             refine hKL1 _ _ (m.length - (q1 + 1)) (by omega) ⟨q1 + 1, by omega, rfl, ?_, (h225.keep (h225.keep (h225.keep (h225.keep h225.nil (t := 3) rfl) (t := 2) rfl) (t := 1) rfl) (t := 0) rfl), hW207.tail⟩
             ·intro j z hj hz
              by_cases e : j = q1
              · subst e; rw [hx1.out] at hz; cases hz; exact NZ1
              · exact hall1 j z (by omega) hz
    ·have hge1 : q1 = m.length := by have := of_decide_eq_false hb; omega
     clear hb
     refine wp_exit ?_
     refine hK22 _ _ ?_
     refine wp_seq_k ?_
     intro K226 hK226
     refine fr_region ?_
     intro ops hops
     clear hops
     refine fr_pure (t := 128) (v := .agg #[.int .i64 0, .int .i64 0]) (w' := w25) h28 rfl rfl rfl (fun K hK => ?_) ?_
     ·go_simp
      exact hK
     clear h28; intro a227 hF227
     refine St.go hF227 ?_; clear hF227 a227
     refine sT 0 hW25 rfl rfl infFault rfl rfl rfl ?_
     clear hW25; intro w228 hW228
     refine St.nil fun a229 h229 => ?_
     refine hK226 _ _ ?_
     refine wp_ret ?_
     repeat (first | with_reducible refine of_then_ret ?_ | with_reducible refine of_block_ret ?_)
     have R : modFault m = (0, 0) := (if_neg (by omega)).trans (firstF_zero (fun k x hx => by rw [Nat.zero_add]; exact hall1 k x (by have := (List.getElem?_eq_some_iff.1 hx).1; omega) hx))
     exact ret_box 0 h229 hW228 rfl rfl rfl Try.underlying26 rfl infFault ⟨by show Ending.returned (.agg #[.int .i64 0, .int .i64 0]) = _; rw [R], hW228.bel⟩
end Go.Proofs.Ytmnmnokkojcodab
