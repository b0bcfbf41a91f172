/-
  Check, the plain parts: codes and faults; lists of types; what begins.
-/
import Derived.Test.YtmnmnokkojcodabCodSame
import Derived.Test.YtmnmnokkojcodabCodFormJ
import Derived.Test.YtmnmnokkojcodabCodFormF
import Derived.Test.YtmnmnokkojcodabTypCheck
namespace Go.Proofs.Ytmnmnokkojcodab
open Go.ChangeShapes Go.WideShapes Go.ChangeAt Go.RowKit
set_option linter.unusedVariables false
set_option linter.unusedSimpArgs false

abbrev faultV (p : Int × Int) : Value := .agg #[.int .i64 p.1, .int .i64 p.2]
/-- The place is kept away where there is no fault. -/
def atF (c p : Int) : Int × Int := if c = 0 then (0, 0) else (c, p)
theorem firstF_at {α : Type} {f : Nat → α → Int × Int} : ∀ {l : List α} {j : Nat}, firstF (fun i x => atF (f i x).1 (f i x).2) j l = firstF f j l
  | [], _ => rfl
  | x :: xs, j => by
    simp only [firstF, atF]
    by_cases h : (f j x).1 = 0
    · simp only [h, if_true, ne_eq, not_true_eq_false, if_false]
      exact firstF_at
    · simp [h]
def MFunc.code {n : Nat} (f : Nat) (x : MFunc n) : Int :=
  if x.regs < 0 ∨ 6 < x.regs then 1 else if listC x.regs x.params ≠ 0 then listC x.regs x.params else if listC x.regs x.results ≠ 0 then listC x.regs x.results
  else if x.blocks.length < 1 ∨ 12 < x.blocks.length then 2 else if f = 0 ∧ ¬ (x.regs = 0 ∧ x.params.length = 0 ∧ x.results.all (fun t => t.kind == 1) = true) then 18 else 0
theorem MFunc.fault_eq {n : Nat} (funcs f : Nat) (x : MFunc n) : MFunc.fault funcs f x = if x.code f = 0 then firstF (fun b y => MBlock.fault funcs f x b y) 0 x.blocks else (x.code f, 10000 * (f : Int) + 9999) := by
  unfold MFunc.fault MFunc.code
  generalize listC x.regs x.params = lp
  generalize listC x.regs x.results = lr
  generalize firstF (fun b y => MBlock.fault funcs f x b y) 0 x.blocks = ff
  repeat' split
  all_goals first | rfl | (exfalso; omega) | contradiction
def MBlock.code' {n : Nat} (fn : MFunc n) (b : Nat) (x : MBlock n) : Int :=
  if x.regs < fn.regs ∨ 16 < x.regs then 1 else if listC x.regs x.params ≠ 0 then listC x.regs x.params
  else if b = 0 ∧ (x.regs ≠ fn.regs ∨ sameL x.params fn.params = false) then 9 else if 40 < x.code.length then 2 else 0
theorem MBlock.fault_eq {n : Nat} (funcs f : Nat) (fn : MFunc n) (b : Nat) (x : MBlock n) : MBlock.fault funcs f fn b x =
    if x.code' fn b = 0 then (if (firstF (fun i y => (MIns.form funcs y, (10000 * f + 100 * b + i : Int))) 0 x.code).1 = 0 then atF (x.fin.form fn.blocks.length) (10000 * (f : Int) + 100 * (b : Int) + 91)
      else firstF (fun i y => (MIns.form funcs y, (10000 * f + 100 * b + i : Int))) 0 x.code) else (x.code' fn b, 10000 * (f : Int) + 100 * (b : Int) + 90) := by
  unfold MBlock.fault MBlock.code' atF
  generalize firstF (fun i y => (MIns.form funcs y, (10000 * f + 100 * b + i : Int))) 0 x.code = ff
  generalize x.fin.form fn.blocks.length = ef
  generalize listC x.regs x.params = lp
  repeat' split
  all_goals first | rfl | (exfalso; omega) | contradiction
/-- The first that is no number. -/
def idxK {n : Nat} : Nat → List (TT n) → Int
  | _, [] => -1
  | i, t :: ts => if t.kind = 1 then idxK (i + 1) ts else (i : Int)
theorem idxK_at {n : Nat} : ∀ (l : List (TT n)) (i j : Nat) (x : TT n), l[i]? = some x → (∀ k y, k < i → l[k]? = some y → y.kind = 1) → ¬ x.kind = 1 → idxK j l = ((j + i : Nat) : Int)
  | [], i, j, x, h, _, _ => by simp at h
  | y :: ys, 0, j, x, h, _, hx => by
    simp at h; subst h
    simp [idxK, hx]
  | y :: ys, i + 1, j, x, h, hz, hx => by
    have h0 : y.kind = 1 := hz 0 y (by omega) rfl
    simp only [idxK, h0, if_true]
    rw [idxK_at ys i (j + 1) x (by simpa using h) (fun k z hk hkz => hz (k + 1) z (by omega) (by simpa using hkz)) hx]
    congr 1; omega
theorem idxK_no {n : Nat} : ∀ (l : List (TT n)) (j : Nat), (∀ (k : Nat) y, l[k]? = some y → y.kind = 1) → idxK j l = -1
  | [], _, _ => rfl
  | y :: ys, j, h => by
    have h0 : y.kind = 1 := h 0 y rfl
    simp only [idxK, h0, if_true]
    exact idxK_no ys (j + 1) (fun k z hz => h (k + 1) z (by simpa using hz))
theorem idxK_iff {n : Nat} : ∀ (l : List (TT n)) (j : Nat), (0 ≤ idxK j l) ↔ ¬ l.all (fun t => t.kind == 1) = true
  | [], j => by simp [idxK]
  | y :: ys, j => by
    by_cases h : y.kind = 1
    · simp only [idxK, h, if_true, List.all_cons, beq_self_eq_true, Bool.true_and]
      exact idxK_iff ys (j + 1)
    · simp [idxK, h]
theorem rd_typeFault {n : Nat} {t : TT n} {a : Option Addr} {c : Nat} {regs : Int} {w : World} (ht : TIn w All t a) (hc : t.count ≤ 2000) : Rd Try.prog 74 #[Tv t a c, .int .i64 regs] w (.int .i64 (t.check regs)) := typeFaultT_any n t a c regs w ht hc
theorem rd_check {n : Nat} {t : TT n} {a : Option Addr} {c : Nat} {regs : Int} {w : World} (ht : TIn w All t a) (hc : t.count ≤ 2000) : Rd Try.prog 107 #[Tv t a c, .int .i64 regs] w (.int .i64 (t.check regs)) := check_any n t a c regs w ht hc
theorem firstL_at {α : Type} {f : α → Int} : ∀ {l : List α} {i : Nat} {x : α}, l[i]? = some x → (∀ k y, k < i → l[k]? = some y → f y = 0) → f x ≠ 0 → firstL f l = f x
  | [], i, x, h, _, _ => by simp at h
  | y :: ys, 0, x, h, _, hf => by
    simp at h; subst h
    simp [firstL, hf]
  | y :: ys, i + 1, x, h, hz, hf => by
    have h0 : f y = 0 := hz 0 y (by omega) rfl
    simp only [firstL, h0, ne_eq, not_true_eq_false, if_false]
    exact firstL_at (by simpa using h) (fun k z hk hkz => hz (k + 1) z (by omega) (by simpa using hkz)) hf
theorem firstL_no {α : Type} {f : α → Int} : ∀ {l : List α}, (∀ (k : Nat) y, l[k]? = some y → f y = 0) → firstL f l = 0
  | [], _ => rfl
  | y :: ys, h => by
    have h0 : f y = 0 := h 0 y rfl
    simp only [firstL, h0, ne_eq, not_true_eq_false, if_false]
    exact firstL_no (fun k z hz => h (k + 1) z (by simpa using hz))

set_option maxHeartbeats 4000000 in
set_option maxRecDepth 100000 in
theorem listForm_any {n : Nat} {l : List (TT n)} {p : Option Addr} {c : Nat} {regs : Int} {w : World} (hl0 : (typesL n).In w All l [.slice p l.length c]) (hs0 : tsmall l) :
    Rd Try.prog 49 #[.slice p l.length c, .int .i64 regs] w (.int .i64 (listC regs l)) := by
  have hl : Hid _ := hl0
  have hs : Hid _ := hs0
  have hsb := hs0.1
  clear hl0 hs0
  refine fr_enter (n := 25) Try.func49 rfl rfl rfl ?_
  intro a hF
  have hW := Wd.start w
  replace hF : Fr 25 a [(0, .slice p l.length c), (1, .int .i64 regs)] := hF
  refine wp_seq_k ?_
  intro K1 hK1
  refine fr_region ?_
  intro ops hops
  clear hops
  refine St.go hF ?_; clear hF a
  refine sa trivial rfl rfl ?_
  refine St.nil fun a2 h2 => ?_
  refine hK1 _ _ ?_
  refine wp_seq_k ?_
  intro K3 hK3
  refine wp_seq_k ?_
  intro K4 hK4
  refine fr_region ?_
  intro ops hops
  clear hops
  refine St.go h2 ?_; clear h2 a2
  refine sm trivial rfl rfl ?_
  refine slTypes trivial rfl rfl ?_
  refine sgt trivial rfl rfl rfl ?_
  refine St.nil fun a5 h5 => ?_
  refine hK4 _ _ ?_
  refine fr_cond (t := 9) h5 rfl (fun hb => ?_) (fun hb => ?_)
  ·have hbig : 8 < l.length := by have := of_decide_eq_true hb; omega
   clear hb
   refine wp_seq_k ?_
   intro K6 hK6
   refine fr_region ?_
   intro ops hops
   clear hops
   refine St.go h5 ?_; clear h5 a5
   refine sa trivial rfl rfl ?_
   refine St.nil fun a7 h7 => ?_
   refine hK6 _ _ ?_
   refine wp_ret ?_
   repeat (first | with_reducible refine of_then_ret ?_ | with_reducible refine of_block_ret ?_)
   have R : listC regs l = 2 := by unfold listC; rw [if_pos hbig]
   exact ret_tmp (t := 4) h7 rfl rfl ⟨by rw [R], hW.bel⟩
  ·have hbig : ¬ (8 < l.length) := by have := of_decide_eq_false hb; omega
   clear hb
   refine wp_skip ?_
   refine hK3 _ _ ?_
   refine wp_seq_k ?_
   intro K8 hK8
   refine wp_seq_k ?_
   intro K9 hK9
   refine fr_region ?_
   intro ops hops
   clear hops
   refine St.go h5 ?_; clear h5 a5
   refine sa trivial rfl rfl ?_
   refine St.nil fun a10 h10 => ?_
   refine hK9 _ _ ?_
   refine wp_block ?_
   refine fr_loop (fun r a w' => ∃ q : Nat, q ≤ l.length ∧ r = l.length - q ∧ (∀ (j : Nat) y, j < q → l[j]? = some y → y.check regs = 0) ∧ Fr 25 a [(1, .int .i64 regs), (0, .slice p l.length c), (4, .int .i64 0), (5, .int .i64 (q : Int))] ∧ Wd w w' []) (l.length) ⟨0, Nat.zero_le _, rfl, (fun j y hj => by omega), (h10.keep (h10.keep (h10.keep (h10.keep h10.nil (t := 5) rfl) (t := 4) rfl) (t := 0) rfl) (t := 1) rfl), hW⟩ ?_
   clear h10 hW
   rintro r a11 w11 ⟨q, hq, hr, hall, hF11, hW11⟩ KL hKL
   refine wp_seq_k ?_
   intro K12 hK12
   refine wp_seq_k ?_
   intro K13 hK13
   refine fr_region ?_
   intro ops hops
   clear hops
   refine St.go hF11 ?_; clear hF11 a11
   refine sm trivial rfl rfl ?_
   refine sm trivial rfl rfl ?_
   refine slTypes trivial rfl rfl ?_
   refine slt trivial rfl rfl rfl ?_
   refine St.nil fun a14 h14 => ?_
   refine hK13 _ _ ?_
   refine fr_cond (t := 13) h14 rfl (fun hb => ?_) (fun hb => ?_)
   ·have hlt1 : q < l.length := by have := of_decide_eq_true hb; omega
    clear hb
    obtain ⟨t, hx1⟩ : ∃ v9, (l)[q]? = some v9 := ⟨_, List.getElem?_eq_getElem hlt1⟩
    obtain ⟨g1, o1, pt1, ct1, hp1, E1, In1⟩ := lin_at (types_lin hl.out).1 hx1
    replace In1 : Hid _ := In1
    replace hp1 : Hid _ := hp1
    replace hx1 : Hid _ := hx1
    replace E1 : Hid _ := E1
    refine wp_skip ?_
    refine hK12 _ _ ?_
    refine wp_seq_k ?_
    intro K15 hK15
    refine wp_block ?_
    refine wp_seq_k ?_
    intro K16 hK16
    refine fr_region ?_
    intro ops hops
    clear hops
    refine St.go h14 ?_; clear h14 a14
    refine sm trivial rfl rfl ?_
    refine sm trivial rfl rfl ?_
    refine siTypes hp1.out hlt1 trivial rfl rfl rfl ?_
    refine sSE Try.underlying90 rfl (rangeAt_bel E1.out hW11.bel) infType trivial rfl rfl ?_
    refine sm trivial rfl rfl ?_
    refine sc_2 cf74 hW11 (rd_typeFault (c := ct1) (regs := regs) (TIn.below In1.out hW11.bel) (hs.out.2 _ (List.mem_of_getElem? hx1.out))) trivial rfl rfl rfl ?_
    clear hW11; intro w17 hW17
    refine sa trivial rfl rfl ?_
    refine St.nil fun a18 h18 => ?_
    refine hK16 _ _ ?_
    refine wp_seq_k ?_
    intro K19 hK19
    refine fr_region ?_
    intro ops hops
    clear hops
    refine St.go h18 ?_; clear h18 a18
    refine sm trivial rfl rfl ?_
    refine sne trivial rfl rfl rfl ?_
    refine St.nil fun a20 h20 => ?_
    refine hK19 _ _ ?_
    refine fr_cond (t := 23) h20 rfl (fun hb => ?_) (fun hb => ?_)
    ·have h9 : ¬ (t.check regs) = 0 := bne_iff_ne.1 hb
     have hne : ¬ (t.check regs) = 0 := h9
     clear h9
     clear hb
     refine wp_seq_k ?_
     intro K21 hK21
     refine fr_region ?_
     intro ops hops
     clear hops
     refine St.go h20 ?_; clear h20 a20
     refine sm trivial rfl rfl ?_
     refine sa trivial rfl rfl ?_
     refine St.nil fun a22 h22 => ?_
     refine hK21 _ _ ?_
     refine wp_ret ?_
     repeat (first | with_reducible refine of_then_ret ?_ | with_reducible refine of_block_ret ?_)
     have R : listC regs l = t.check regs := by unfold listC; rw [if_neg hbig]; exact firstL_at hx1.out (fun k y hk hy => hall k y hk hy) hne
     exact ret_tmp (t := 4) h22 rfl rfl ⟨by rw [R], hW17.bel⟩
    ·have h9 : (t.check regs) = 0 := bne_eq_false_iff_eq.1 hb
     have hne : Hid ((t.check regs) = 0) := h9
     clear h9
     clear hb
     refine wp_skip ?_
     refine hK15 _ _ ?_
     refine fr_region ?_
     intro ops hops
     clear hops
     refine St.go h20 ?_; clear h20 a20
     refine sm trivial rfl rfl ?_
     refine sad (by omega) trivial rfl rfl rfl ?_
     refine sa trivial rfl rfl ?_
     refine St.nil fun a23 h23 => ?_
     refine hKL _ _ (l.length - (q + 1)) (by omega) ⟨q + 1, by omega, rfl, ?_, (h23.keep (h23.keep (h23.keep (h23.keep h23.nil (t := 5) rfl) (t := 4) rfl) (t := 0) rfl) (t := 1) rfl), hW17⟩
     ·intro j y hj hy
      by_cases e : j = q
      · subst e; rw [hx1.out] at hy; cases hy; exact hne.out
      · exact hall j y (by omega) hy
   ·have hge : q = l.length := by have := of_decide_eq_false hb; omega
    clear hb
    refine wp_exit ?_
    refine hK8 _ _ ?_
    refine wp_seq_k ?_
    intro K24 hK24
    refine fr_region ?_
    intro ops hops
    clear hops
    refine St.go h14 ?_; clear h14 a14
    refine sa trivial rfl rfl ?_
    refine St.nil fun a25 h25 => ?_
    refine hK24 _ _ ?_
    refine wp_ret ?_
    repeat (first | with_reducible refine of_then_ret ?_ | with_reducible refine of_block_ret ?_)
    have R : listC regs l = 0 := by unfold listC; rw [if_neg hbig]; exact firstL_no (fun k y hy => hall k y (by have := (List.getElem?_eq_some_iff.1 hy).1; omega) hy)
    exact ret_tmp (t := 4) h25 rfl rfl ⟨by rw [R], hW11.bel⟩

set_option maxHeartbeats 4000000 in
set_option maxRecDepth 100000 in
theorem typesCode_any {n : Nat} {l : List (TT n)} {p : Option Addr} {c : Nat} {regs : Int} {w : World} (hl0 : (typesL n).In w All l [.slice p l.length c]) (hs0 : tsmall l) :
    Rd Try.prog 93 #[.slice p l.length c, .int .i64 regs] w (.int .i64 (listC regs l)) := by
  have hl : Hid _ := hl0
  have hs : Hid _ := hs0
  have hsb := hs0.1
  clear hl0 hs0
  refine fr_enter (n := 24) Try.func93 rfl rfl rfl ?_
  intro a hF
  have hW := Wd.start w
  replace hF : Fr 24 a [(0, .slice p l.length c), (1, .int .i64 regs)] := hF
  refine wp_seq_k ?_
  intro K1 hK1
  refine fr_region ?_
  intro ops hops
  clear hops
  refine St.go hF ?_; clear hF a
  refine sa trivial rfl rfl ?_
  refine St.nil fun a2 h2 => ?_
  refine hK1 _ _ ?_
  refine wp_seq_k ?_
  intro K3 hK3
  refine wp_seq_k ?_
  intro K4 hK4
  refine fr_region ?_
  intro ops hops
  clear hops
  refine St.go h2 ?_; clear h2 a2
  refine sm trivial rfl rfl ?_
  refine slTypes trivial rfl rfl ?_
  refine sgt trivial rfl rfl rfl ?_
  refine St.nil fun a5 h5 => ?_
  refine hK4 _ _ ?_
  refine fr_cond (t := 10) h5 rfl (fun hb => ?_) (fun hb => ?_)
  ·have hbig : 8 < l.length := by have := of_decide_eq_true hb; omega
   clear hb
   refine wp_seq_k ?_
   intro K6 hK6
   refine fr_region ?_
   intro ops hops
   clear hops
   refine St.go h5 ?_; clear h5 a5
   refine sa trivial rfl rfl ?_
   refine St.nil fun a7 h7 => ?_
   refine hK6 _ _ ?_
   refine wp_ret ?_
   repeat (first | with_reducible refine of_then_ret ?_ | with_reducible refine of_block_ret ?_)
   have R : listC regs l = 2 := by unfold listC; rw [if_pos hbig]
   exact ret_tmp (t := 4) h7 rfl rfl ⟨by rw [R], hW.bel⟩
  ·have hbig : ¬ (8 < l.length) := by have := of_decide_eq_false hb; omega
   clear hb
   refine wp_skip ?_
   refine hK3 _ _ ?_
   refine wp_seq_k ?_
   intro K8 hK8
   refine wp_seq_k ?_
   intro K9 hK9
   refine fr_region ?_
   intro ops hops
   clear hops
   refine St.go h5 ?_; clear h5 a5
   refine sm trivial rfl rfl ?_
   refine slTypes trivial rfl rfl ?_
   refine sm trivial rfl rfl ?_
   refine St.nil fun a10 h10 => ?_
   refine hK9 _ _ ?_
   refine wp_block ?_
   refine fr_loop (fun r a w' => ∃ q : Nat, q ≤ l.length ∧ r = l.length - q ∧ (∀ (j : Nat) y, j < q → l[j]? = some y → y.check regs = 0) ∧ Fr 24 a [(1, .int .i64 regs), (0, .slice p l.length c), (4, .int .i64 0), (11, .slice p l.length c), (12, .int .i64 (l.length : Int)), (13, .int .i64 (q : Int))] ∧ Wd w w' []) (l.length) ⟨0, Nat.zero_le _, rfl, (fun j y hj => by omega), (h10.keep (h10.keep (h10.keep (h10.keep (h10.keep (h10.keep h10.nil (t := 13) rfl) (t := 12) rfl) (t := 11) rfl) (t := 4) rfl) (t := 0) rfl) (t := 1) rfl), hW⟩ ?_
   clear h10 hW
   rintro r a11 w11 ⟨q, hq, hr, hall, hF11, hW11⟩ KL hKL
   refine wp_seq_k ?_
   intro K12 hK12
   refine fr_region ?_
   intro ops hops
   clear hops
   refine St.go hF11 ?_; clear hF11 a11
   refine slt trivial rfl rfl rfl ?_
   refine St.nil fun a13 h13 => ?_
   refine hK12 _ _ ?_
   refine wp_seq_k ?_
   intro K14 hK14
   refine fr_cond (t := 14) h13 rfl (fun hb => ?_) (fun hb => ?_)
   ·have hlt1 : q < l.length := by have := of_decide_eq_true hb; omega
    clear hb
    obtain ⟨t, hx1⟩ : ∃ v9, (l)[q]? = some v9 := ⟨_, List.getElem?_eq_getElem hlt1⟩
    obtain ⟨g1, o1, pt1, ct1, hp1, E1, In1⟩ := lin_at (types_lin hl.out).1 hx1
    replace In1 : Hid _ := In1
    replace hp1 : Hid _ := hp1
    replace hx1 : Hid _ := hx1
    replace E1 : Hid _ := E1
    refine wp_skip ?_
    refine hK14 _ _ ?_
    refine wp_seq_k ?_
    intro K15 hK15
    refine wp_block ?_
    refine wp_seq_k ?_
    intro K16 hK16
    refine fr_region ?_
    intro ops hops
    clear hops
    refine St.go h13 ?_; clear h13 a13
    refine siTypes hp1.out hlt1 trivial rfl rfl rfl ?_
    refine sSE Try.underlying90 rfl (rangeAt_bel E1.out hW11.bel) infType trivial rfl rfl ?_
    refine sAType hW11 trivial rfl ?_
    clear hW11; intro w17 B17 hW17 hN; clear hN
    refine sT 0 hW17 rfl rfl infType rfl rfl rfl ?_
    clear hW17; intro w18 hW18
    refine St.nil fun a19 h19 => ?_
    refine hK16 _ _ ?_
    refine wp_seq_k ?_
    intro K20 hK20
    refine fr_region ?_
    intro ops hops
    clear hops
    refine St.go h19 ?_; clear h19 a19
    refine sS 0 3 Try.underlying90 rfl infType hW18 trivial rfl rfl rfl rfl ?_
    refine sm trivial rfl rfl ?_
    refine sc_2 cf107 hW18 (rd_check (c := ct1) (regs := regs) (TIn.below In1.out hW18.bel) (hs.out.2 _ (List.mem_of_getElem? hx1.out))) trivial rfl rfl rfl ?_
    clear hW18; intro w21 hW21
    refine sa trivial rfl rfl ?_
    refine St.nil fun a22 h22 => ?_
    refine hK20 _ _ ?_
    refine wp_seq_k ?_
    intro K23 hK23
    refine fr_region ?_
    intro ops hops
    clear hops
    refine St.go h22 ?_; clear h22 a22
    refine sm trivial rfl rfl ?_
    refine sne trivial rfl rfl rfl ?_
    refine St.nil fun a24 h24 => ?_
    refine hK23 _ _ ?_
    refine fr_cond (t := 21) h24 rfl (fun hb => ?_) (fun hb => ?_)
    ·have h9 : ¬ (t.check regs) = 0 := bne_iff_ne.1 hb
     have hne : ¬ (t.check regs) = 0 := h9
     clear h9
     clear hb
     refine wp_seq_k ?_
     intro K25 hK25
     refine fr_region ?_
     intro ops hops
     clear hops
     refine St.go h24 ?_; clear h24 a24
     refine sm trivial rfl rfl ?_
     refine sa trivial rfl rfl ?_
     refine St.nil fun a26 h26 => ?_
     refine hK25 _ _ ?_
     refine wp_ret ?_
     repeat (first | with_reducible refine of_then_ret ?_ | with_reducible refine of_block_ret ?_)
     have R : listC regs l = t.check regs := by unfold listC; rw [if_neg hbig]; exact firstL_at hx1.out (fun k y hk hy => hall k y hk hy) hne
     exact ret_tmp (t := 4) h26 rfl rfl ⟨by rw [R], hW21.bel⟩
    ·have h9 : (t.check regs) = 0 := bne_eq_false_iff_eq.1 hb
     have hne : Hid ((t.check regs) = 0) := h9
     clear h9
     clear hb
     refine wp_skip ?_
     refine hK15 _ _ ?_
     refine fr_region ?_
     intro ops hops
     clear hops
     refine St.go h24 ?_; clear h24 a24
     refine sad (by omega) trivial rfl rfl rfl ?_
     refine sm trivial rfl rfl ?_
     refine St.nil fun a27 h27 => ?_
     refine hKL _ _ (l.length - (q + 1)) (by omega) ⟨q + 1, by omega, rfl, ?_, (h27.keep (h27.keep (h27.keep (h27.keep (h27.keep (h27.keep h27.nil (t := 13) rfl) (t := 12) rfl) (t := 11) rfl) (t := 4) rfl) (t := 0) rfl) (t := 1) rfl), hW21.tail⟩
     ·intro j y hj hy
      by_cases e : j = q
      · subst e; rw [hx1.out] at hy; cases hy; exact hne.out
      · exact hall j y (by omega) hy
   ·have hge : q = l.length := by have := of_decide_eq_false hb; omega
    clear hb
    refine wp_exit ?_
    refine hK8 _ _ ?_
    refine wp_seq_k ?_
    intro K28 hK28
    refine fr_region ?_
    intro ops hops
    clear hops
    refine St.go h13 ?_; clear h13 a13
    refine sa trivial rfl rfl ?_
    refine St.nil fun a29 h29 => ?_
    refine hK28 _ _ ?_
    refine wp_ret ?_
    repeat (first | with_reducible refine of_then_ret ?_ | with_reducible refine of_block_ret ?_)
    have R : listC regs l = 0 := by unfold listC; rw [if_neg hbig]; exact firstL_no (fun k y hy => hall k y (by have := (List.getElem?_eq_some_iff.1 hy).1; omega) hy)
    exact ret_tmp (t := 4) h29 rfl rfl ⟨by rw [R], hW11.bel⟩

set_option maxHeartbeats 4000000 in
set_option maxRecDepth 100000 in
theorem faultAt_any {xc xp : Int} {w : World} :
    Rd Try.prog 70 #[.int .i64 xc, .int .i64 xp] w (faultV (atF xc xp)) := by
  refine fr_enter (n := 11) Try.func70 rfl rfl rfl ?_
  intro a hF
  have hW := Wd.start w
  replace hF : Fr 11 a [(0, .int .i64 xc), (1, .int .i64 xp)] := hF
  refine wp_seq_k ?_
  intro K1 hK1
  refine fr_region ?_
  intro ops hops
  clear hops
  refine St.go hF ?_; clear hF a
  refine sAFault hW trivial rfl ?_
  clear hW; intro w2 B2 hW2 hN; clear hN
  refine St.nil fun a3 h3 => ?_
  refine hK1 _ _ ?_
  refine wp_seq_k ?_
  intro K4 hK4
  refine wp_seq_k ?_
  intro K5 hK5
  refine fr_region ?_
  intro ops hops
  clear hops
  refine St.go h3 ?_; clear h3 a3
  refine sm trivial rfl rfl ?_
  refine seq trivial rfl rfl rfl ?_
  refine St.nil fun a6 h6 => ?_
  refine hK5 _ _ ?_
  refine fr_cond (t := 6) h6 rfl (fun hb => ?_) (fun hb => ?_)
  ·have h9 : xc = 0 := eq_of_beq hb
   have hc7 : Hid (xc = 0) := h9
   clear h9
   clear hb
   refine wp_seq_k ?_
   intro K8 hK8
   refine fr_region ?_
   intro ops hops
   clear hops
   refine fr_pure (t := 7) (v := .agg #[.int .i64 0, .int .i64 0]) (w' := w2) h6 rfl rfl rfl (fun K hK => ?_) ?_
   ·go_simp
    exact hK
   clear h6; intro a9 hF9
   refine St.go hF9 ?_; clear hF9 a9
   refine sT 0 hW2 rfl rfl infFault rfl rfl rfl ?_
   clear hW2; intro w10 hW10
   refine St.nil fun a11 h11 => ?_
   refine hK8 _ _ ?_
   refine wp_ret ?_
   repeat (first | with_reducible refine of_then_ret ?_ | with_reducible refine of_block_ret ?_)
   have R : atF xc xp = (0, 0) := by simp [atF, hc7.out]
   exact ret_box 0 h11 hW10 rfl rfl rfl Try.underlying26 rfl infFault ⟨by show Ending.returned (.agg #[.int .i64 0, .int .i64 0]) = _; rw [R], hW10.bel⟩
  ·have h9 : ¬ xc = 0 := ne_of_beq_false hb
   have hc12 : ¬ xc = 0 := h9
   clear h9
   clear hb
   refine wp_skip ?_
   refine hK4 _ _ ?_
   refine wp_seq_k ?_
   intro K13 hK13
   refine fr_region ?_
   intro ops hops
   clear hops
   refine St.go h6 ?_; clear h6 a6
   refine sm trivial rfl rfl ?_
   refine sm trivial rfl rfl ?_
   intro a14 h14
   refine fr_pure (t := 10) (v := .agg #[.int .i64 xc, .int .i64 xp]) (w' := w2) h14 rfl rfl rfl (fun K hK => ?_) ?_
   ·have k0 : a14.tmps[8]?.getD undef = .int .i64 xc := h14.sl2 8 _ rfl
    have k1 : a14.tmps[9]?.getD undef = .int .i64 xp := h14.sl2 9 _ rfl
    go_simp
    exact hK
   clear h14; intro a15 hF15
   refine St.go hF15 ?_; clear hF15 a15
   refine sT 0 hW2 rfl rfl infFault rfl rfl rfl ?_
   clear hW2; intro w16 hW16
   refine St.nil fun a17 h17 => ?_
   refine hK13 _ _ ?_
   refine wp_ret ?_
   repeat (first | with_reducible refine of_then_ret ?_ | with_reducible refine of_block_ret ?_)
   have R : atF xc xp = (xc, xp) := by simp [atF, hc12]
   exact ret_box 0 h17 hW16 rfl rfl rfl Try.underlying26 rfl infFault ⟨by show Ending.returned (.agg #[.int .i64 xc, .int .i64 xp]) = _; rw [R], hW16.bel⟩

set_option maxHeartbeats 4000000 in
set_option maxRecDepth 100000 in
theorem fF_any {xc xp : Int} {w : World} :
    Rd Try.prog 48 #[.int .i64 xc, .int .i64 xp] w (faultV (xc, xp)) := by
  refine fr_enter (n := 8) Try.func48 rfl rfl rfl ?_
  intro a hF
  have hW := Wd.start w
  replace hF : Fr 8 a [(0, .int .i64 xc), (1, .int .i64 xp)] := hF
  refine wp_seq_k ?_
  intro K1 hK1
  refine fr_region ?_
  intro ops hops
  clear hops
  refine St.go hF ?_; clear hF a
  refine sAFault hW trivial rfl ?_
  clear hW; intro w2 B2 hW2 hN; clear hN
  refine St.nil fun a3 h3 => ?_
  refine hK1 _ _ ?_
  refine wp_seq_k ?_
  intro K4 hK4
  refine fr_region ?_
  intro ops hops
  clear hops
  refine St.go h3 ?_; clear h3 a3
  refine sm trivial rfl rfl ?_
  refine sm trivial rfl rfl ?_
  intro a5 h5
  refine fr_pure (t := 7) (v := .agg #[.int .i64 xc, .int .i64 xp]) (w' := w2) h5 rfl rfl rfl (fun K hK => ?_) ?_
  ·have k0 : a5.tmps[5]?.getD undef = .int .i64 xc := h5.sl2 5 _ rfl
   have k1 : a5.tmps[6]?.getD undef = .int .i64 xp := h5.sl2 6 _ rfl
   go_simp
   exact hK
  clear h5; intro a6 hF6
  refine St.go hF6 ?_; clear hF6 a6
  refine sT 0 hW2 rfl rfl infFault rfl rfl rfl ?_
  clear hW2; intro w7 hW7
  refine St.nil fun a8 h8 => ?_
  refine hK4 _ _ ?_
  refine wp_ret ?_
  repeat (first | with_reducible refine of_then_ret ?_ | with_reducible refine of_block_ret ?_)
  exact ret_box 0 h8 hW7 rfl rfl rfl Try.underlying26 rfl infFault ⟨rfl, hW7.bel⟩

set_option maxHeartbeats 4000000 in
set_option maxRecDepth 100000 in
theorem canB1_any {tk tr : Int} {tp : Option Addr} {tl tc : Nat} {w : World} :
    Rd Try.prog 109 #[.agg #[.int .i64 tk, .int .i64 tr, .slice tp tl tc]] w (.bool (tk != 1)) := by
  refine fr_enter (n := 6) Try.func109 rfl rfl rfl ?_
  intro a hF
  have hW := Wd.start w
  replace hF : Fr 6 a [(0, .agg #[.int .i64 tk, .int .i64 tr, .slice tp tl tc])] := hF
  refine wp_seq_k ?_
  intro K1 hK1
  refine fr_region ?_
  intro ops hops
  clear hops
  refine St.go hF ?_; clear hF a
  refine sB hW trivial rfl rfl ?_
  clear hW; intro w2 B2 hW2 hN; clear hN
  refine sa trivial rfl rfl ?_
  refine St.nil fun a3 h3 => ?_
  refine hK1 _ _ ?_
  refine wp_seq_k ?_
  intro K4 hK4
  refine fr_region ?_
  intro ops hops
  clear hops
  refine St.go h3 ?_; clear h3 a3
  refine sfType0 trivial rfl rfl ?_
  refine sbInt 0 hW2 trivial rfl rfl rfl rfl ?_
  refine sne trivial rfl rfl rfl ?_
  refine sa trivial rfl rfl ?_
  refine St.nil fun a5 h5 => ?_
  refine hK4 _ _ ?_
  refine wp_ret ?_
  repeat (first | with_reducible refine of_then_ret ?_ | with_reducible refine of_block_ret ?_)
  exact ret_tmp (t := 2) h5 rfl rfl ⟨rfl, hW2.bel⟩

set_option maxHeartbeats 4000000 in
set_option maxRecDepth 100000 in
theorem indexF_any {n : Nat} {l : List (TT n)} {p : Option Addr} {c : Nat} {w : World} (hl0 : (typesL n).In w All l [.slice p l.length c]) (hsb : l.length ≤ 200) :
    Rd Try.prog 117 #[.slice p l.length c, .func (.func 109) #[] #[]] w (.int .i64 (idxK 0 l)) := by
  have hl : Hid _ := hl0
  clear hl0
  refine fr_enter (n := 19) Try.func117 rfl rfl rfl ?_
  intro a hF
  have hW := Wd.start w
  replace hF : Fr 19 a [(0, .slice p l.length c), (1, .func (.func 109) #[] #[])] := hF
  refine wp_seq_k ?_
  intro K1 hK1
  refine fr_region ?_
  intro ops hops
  clear hops
  refine St.go hF ?_; clear hF a
  refine sa trivial rfl rfl ?_
  refine St.nil fun a2 h2 => ?_
  refine hK1 _ _ ?_
  refine wp_seq_k ?_
  intro K3 hK3
  refine wp_seq_k ?_
  intro K4 hK4
  refine fr_region ?_
  intro ops hops
  clear hops
  refine St.go h2 ?_; clear h2 a2
  refine sm trivial rfl rfl ?_
  refine slTypes trivial rfl rfl ?_
  refine sm trivial rfl rfl ?_
  refine St.nil fun a5 h5 => ?_
  refine hK4 _ _ ?_
  refine wp_block ?_
  refine fr_loop (fun r a w' => ∃ q : Nat, q ≤ l.length ∧ r = l.length - q ∧ (∀ (j : Nat) y, j < q → l[j]? = some y → y.kind = 1) ∧ Fr 19 a [(1, .func (.func 109) #[] #[]), (0, .slice p l.length c), (4, .int .i64 0), (7, .int .i64 (l.length : Int)), (8, .int .i64 (q : Int))] ∧ Wd w w' []) (l.length) ⟨0, Nat.zero_le _, rfl, (fun j y hj => by omega), (h5.keep (h5.keep (h5.keep (h5.keep (h5.keep h5.nil (t := 8) rfl) (t := 7) rfl) (t := 4) rfl) (t := 0) rfl) (t := 1) rfl), hW⟩ ?_
  clear h5 hW
  rintro r a6 w6 ⟨q, hq, hr, hall, hF6, hW6⟩ KL hKL
  refine wp_seq_k ?_
  intro K7 hK7
  refine fr_region ?_
  intro ops hops
  clear hops
  refine St.go hF6 ?_; clear hF6 a6
  refine slt trivial rfl rfl rfl ?_
  refine St.nil fun a8 h8 => ?_
  refine hK7 _ _ ?_
  refine wp_seq_k ?_
  intro K9 hK9
  refine fr_cond (t := 9) h8 rfl (fun hb => ?_) (fun hb => ?_)
  ·have hlt1 : q < l.length := by have := of_decide_eq_true hb; omega
   clear hb
   obtain ⟨t, hx1⟩ : ∃ v9, (l)[q]? = some v9 := ⟨_, List.getElem?_eq_getElem hlt1⟩
   obtain ⟨g1, o1, pt1, ct1, hp1, E1, In1⟩ := lin_at (types_lin hl.out).1 hx1
   replace In1 : Hid _ := In1
   replace hp1 : Hid _ := hp1
   replace hx1 : Hid _ := hx1
   replace E1 : Hid _ := E1
   refine wp_skip ?_
   refine hK9 _ _ ?_
   refine wp_seq_k ?_
   intro K10 hK10
   refine wp_block ?_
   refine wp_seq_k ?_
   intro K11 hK11
   refine fr_region ?_
   intro ops hops
   clear hops
   refine St.go h8 ?_; clear h8 a8
   refine sm trivial rfl rfl ?_
   refine sa trivial rfl rfl ?_
   refine St.nil fun a12 h12 => ?_
   refine hK11 _ _ ?_
   refine wp_seq_k ?_
   intro K13 hK13
   refine fr_region ?_
   intro ops hops
   clear hops
   refine St.go h12 ?_; clear h12 a12
   refine sm trivial rfl rfl ?_
   refine sm trivial rfl rfl ?_
   refine sm trivial rfl rfl ?_
   refine siTypes hp1.out hlt1 trivial rfl rfl rfl ?_
   refine sSE Try.underlying90 rfl (rangeAt_bel E1.out hW6.bel) infType trivial rfl rfl ?_
   refine sv_10 cf109 hW6 (canB1_any) trivial rfl rfl rfl ?_
   clear hW6; intro w14 hW14
   refine St.nil fun a15 h15 => ?_
   refine hK13 _ _ ?_
   refine fr_cond (t := 16) h15 rfl (fun hb => ?_) (fun hb => ?_)
   ·have h9 : ¬ t.kind = 1 := bne_iff_ne.1 hb
    have hne : ¬ t.kind = 1 := h9
    clear h9
    clear hb
    refine wp_seq_k ?_
    intro K16 hK16
    refine fr_region ?_
    intro ops hops
    clear hops
    refine St.go h15 ?_; clear h15 a15
    refine sm trivial rfl rfl ?_
    refine sa trivial rfl rfl ?_
    refine St.nil fun a17 h17 => ?_
    refine hK16 _ _ ?_
    refine wp_ret ?_
    repeat (first | with_reducible refine of_then_ret ?_ | with_reducible refine of_block_ret ?_)
    have R : idxK 0 l = (q : Int) := by have := idxK_at l q 0 t hx1.out (fun k y hk hy => hall k y hk hy) hne; rwa [Nat.zero_add] at this
    exact ret_tmp (t := 4) h17 rfl rfl ⟨by rw [R], hW14.bel⟩
   ·have h9 : t.kind = 1 := bne_eq_false_iff_eq.1 hb
    have hne : Hid (t.kind = 1) := h9
    clear h9
    clear hb
    refine wp_skip ?_
    refine hK10 _ _ ?_
    refine fr_region ?_
    intro ops hops
    clear hops
    refine St.go h15 ?_; clear h15 a15
    refine sad (by omega) trivial rfl rfl rfl ?_
    refine sm trivial rfl rfl ?_
    refine St.nil fun a18 h18 => ?_
    refine hKL _ _ (l.length - (q + 1)) (by omega) ⟨q + 1, by omega, rfl, ?_, (h18.keep (h18.keep (h18.keep (h18.keep (h18.keep h18.nil (t := 8) rfl) (t := 7) rfl) (t := 4) rfl) (t := 0) rfl) (t := 1) rfl), hW14⟩
    ·intro j y hj hy
     by_cases e : j = q
     · subst e; rw [hx1.out] at hy; cases hy; exact hne.out
     · exact hall j y (by omega) hy
  ·have hge : q = l.length := by have := of_decide_eq_false hb; omega
   clear hb
   refine wp_exit ?_
   refine hK3 _ _ ?_
   refine wp_seq_k ?_
   intro K19 hK19
   refine fr_region ?_
   intro ops hops
   clear hops
   refine St.go h8 ?_; clear h8 a8
   refine sa trivial rfl rfl ?_
   refine St.nil fun a20 h20 => ?_
   refine hK19 _ _ ?_
   refine wp_ret ?_
   repeat (first | with_reducible refine of_then_ret ?_ | with_reducible refine of_block_ret ?_)
   have R : idxK 0 l = -1 := idxK_no l 0 (fun k y hy => hall k y (by have := (List.getElem?_eq_some_iff.1 hy).1; omega) hy)
   exact ret_tmp (t := 4) h20 rfl rfl ⟨by rw [R], hW6.bel⟩

set_option maxHeartbeats 4000000 in
set_option maxRecDepth 100000 in
theorem containsF_any {n : Nat} {l : List (TT n)} {p : Option Addr} {c : Nat} {w : World} (hl0 : (typesL n).In w All l [.slice p l.length c]) (hsb : l.length ≤ 200) :
    Rd Try.prog 108 #[.slice p l.length c, .func (.func 109) #[] #[]] w (.bool (decide (0 ≤ idxK 0 l))) := by
  have hl : Hid _ := hl0
  clear hl0
  refine fr_enter (n := 9) Try.func108 rfl rfl rfl ?_
  intro a hF
  have hW := Wd.start w
  replace hF : Fr 9 a [(0, .slice p l.length c), (1, .func (.func 109) #[] #[])] := hF
  refine wp_seq_k ?_
  intro K1 hK1
  refine fr_region ?_
  intro ops hops
  clear hops
  refine St.go hF ?_; clear hF a
  refine sa trivial rfl rfl ?_
  refine St.nil fun a2 h2 => ?_
  refine hK1 _ _ ?_
  refine wp_seq_k ?_
  intro K3 hK3
  refine fr_region ?_
  intro ops hops
  clear hops
  refine St.go h2 ?_; clear h2 a2
  refine sm trivial rfl rfl ?_
  refine sm trivial rfl rfl ?_
  refine sc_2 cf117 hW (indexF_any (Lay.below hl.out hW.bel) hsb) trivial rfl rfl rfl ?_
  clear hW; intro w4 hW4
  refine sge trivial rfl rfl rfl ?_
  refine sa trivial rfl rfl ?_
  refine St.nil fun a5 h5 => ?_
  refine hK3 _ _ ?_
  refine wp_ret ?_
  repeat (first | with_reducible refine of_then_ret ?_ | with_reducible refine of_block_ret ?_)
  exact ret_tmp (t := 4) h5 rfl rfl ⟨rfl, hW4.bel⟩
end Go.Proofs.Ytmnmnokkojcodab
