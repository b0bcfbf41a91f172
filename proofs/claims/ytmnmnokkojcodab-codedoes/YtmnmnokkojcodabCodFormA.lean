/-
  InsForm.
-/
import Derived.Test.YtmnmnokkojcodabCodFormR
namespace Go.Proofs.Ytmnmnokkojcodab
open Go.ChangeShapes Go.WideShapes Go.ChangeAt Go.RowKit
set_option linter.unusedVariables false
set_option linter.unusedSimpArgs false

set_option maxHeartbeats 4000000 in
set_option maxRecDepth 100000 in
theorem insFSome {xop : Int} {fa fb fc fk fn fr fs : Bool} (hop : fieldsOf xop = some (fa, fb, fc, fk, fn, fr, fs)) (xa xb xc xk xn : Int) (am ra aa : Option Addr) (lm cm rl rc al ac : Nat) (w : World) :
    Rd Try.prog 21 #[.agg #[.slice am lm cm], .agg #[.int .i64 xop, .int .i64 xa, .int .i64 xb, .int .i64 xc, .int .i64 xk, .int .i64 xn, .slice ra rl rc, .slice aa al ac]] w (.int .i64 (insForm lm xop xa xb xc xk xn rl al)) := by
  refine fr_enter (n := 137) Try.func21 rfl rfl rfl ?_
  intro a hF
  have hW := Wd.start w
  replace hF : Fr 137 a [(0, .agg #[.slice am lm cm]), (1, .agg #[.int .i64 xop, .int .i64 xa, .int .i64 xb, .int .i64 xc, .int .i64 xk, .int .i64 xn, .slice ra rl rc, .slice aa al ac])] := hF
  refine wp_seq_k ?_
  intro K1 hK1
  refine fr_region ?_
  intro ops hops
  clear hops
  refine St.go hF ?_; clear hF a
  refine sB hW trivial rfl rfl ?_
  clear hW; intro w2 B2 hW2 hN; clear hN
  refine sB hW2 trivial rfl rfl ?_
  clear hW2; intro w3 B3 hW3 hN; clear hN
  refine sa trivial rfl rfl ?_
  refine St.nil fun a4 h4 => ?_
  refine hK1 _ _ ?_
  refine wp_seq_k ?_
  intro K5 hK5
  refine fr_region ?_
  intro ops hops
  clear hops
  refine St.go h4 ?_; clear h4 a4
  refine sfIns0 trivial rfl rfl ?_
  refine sbInt 0 hW3 trivial rfl rfl rfl rfl ?_
  refine sc_1 cf60 hW3 (rdFieldsSome hop w3) trivial rfl rfl ?_
  clear hW3; intro w6 hW6
  refine sm trivial rfl rfl ?_
  intro a7 h7
  refine fr_pure (t := 11) (v := .agg #[.bool fa, .bool fb, .bool fc, .bool fk, .bool fn, .bool fr, .bool fs]) (w' := w6) h7 rfl rfl rfl (fun K hK => ?_) ?_
  ·have k0 : a7.tmps.getD 7 undef = .tuple #[.agg #[.bool fa, .bool fb, .bool fc, .bool fk, .bool fn, .bool fr, .bool fs], .bool true] := h7.sl 7 _ rfl
   go_simp
   exact hK
  clear h7; intro a8 hF8
  refine fr_pure (t := 12) (v := .bool true) (w' := w6) hF8 rfl rfl rfl (fun K hK => ?_) ?_
  ·have k0 : a8.tmps.getD 7 undef = .tuple #[.agg #[.bool fa, .bool fb, .bool fc, .bool fk, .bool fn, .bool fr, .bool fs], .bool true] := hF8.sl 7 _ rfl
   go_simp
   exact hK
  clear hF8; intro a9 hF9
  refine St.go hF9 ?_; clear hF9 a9
  refine sAFields hW6 trivial rfl ?_
  clear hW6; intro w10 B10 hW10 hN; clear hN
  refine sT 0 hW10 rfl rfl infFields rfl rfl rfl ?_
  clear hW10; intro w11 hW11
  refine sa trivial rfl rfl ?_
  refine St.nil fun a12 h12 => ?_
  refine hK5 _ _ ?_
  refine wp_seq_k ?_
  intro K13 hK13
  refine wp_seq_k ?_
  intro K14 hK14
  refine fr_region ?_
  intro ops hops
  clear hops
  refine St.go h12 ?_; clear h12 a12
  refine sm trivial rfl rfl ?_
  refine sn trivial rfl rfl ?_
  refine St.nil fun a15 h15 => ?_
  refine hK14 _ _ ?_
  refine fr_false (t := 14) h15 rfl ?_
  refine wp_skip ?_
  refine hK13 _ _ ?_
  refine wp_seq_k ?_
  intro K16 hK16
  refine wp_seq_k ?_
  intro K17 hK17
  refine fr_region ?_
  intro ops hops
  have hg3 : (ops[3]?).bind (fun o : Oper => o.dst) = some 18 := hops 3
  have hg8 : (ops[8]?).bind (fun o : Oper => o.dst) = some 23 := hops 8
  have hg12 : (ops[12]?).bind (fun o : Oper => o.dst) = some 27 := hops 12
  have hg18 : (ops[18]?).bind (fun o : Oper => o.dst) = some 33 := hops 18
  have hg22 : (ops[22]?).bind (fun o : Oper => o.dst) = some 37 := hops 22
  have hg28 : (ops[28]?).bind (fun o : Oper => o.dst) = some 43 := hops 28
  have hg32 : (ops[32]?).bind (fun o : Oper => o.dst) = some 47 := hops 32
  have hg38 : (ops[38]?).bind (fun o : Oper => o.dst) = some 53 := hops 38
  have hg42 : (ops[42]?).bind (fun o : Oper => o.dst) = some 57 := hops 42
  have hg48 : (ops[48]?).bind (fun o : Oper => o.dst) = some 63 := hops 48
  have hg52 : (ops[52]?).bind (fun o : Oper => o.dst) = some 67 := hops 52
  have hg59 : (ops[59]?).bind (fun o : Oper => o.dst) = some 74 := hops 59
  have hg63 : (ops[63]?).bind (fun o : Oper => o.dst) = some 78 := hops 63
  clear hops
  refine cut_k 9 (fun a' w' => (∃ d1 : Bool, d1 = (!fa && xa != 0) ∧ Fr 137 a' [(23, .bool d1), (1, .agg #[.int .i64 xop, .int .i64 xa, .int .i64 xb, .int .i64 xc, .int .i64 xk, .int .i64 xn, .slice ra rl rc, .slice aa al ac]), (0, .agg #[.slice am lm cm]), (2, .pointer (some ⟨B2, 0, none⟩)), (3, .pointer (some ⟨B3, 0, none⟩)), (4, .int .i64 0), (5, .pointer (some ⟨B10, 0, none⟩)), (6, .bool true)]) ∧ w11 = w') (fun KC hKC => ?_) ?_
  ·refine St.go h15 ?_; clear h15 a15
   refine sfFields0 trivial rfl rfl ?_
   refine sbBool 0 hW11 trivial rfl rfl rfl rfl ?_
   refine sn trivial rfl rfl ?_
   refine sm trivial rfl rfl ?_
   intro a18 h18
   rcases Bool.eq_false_or_eq_true (!fa) with hb | hb
   ·rw [hb] at h18
    have hc19 : fa = false := by simpa using hb
    clear hb
    refine St.go h18 ?_; clear h18 a18
    refine sfIns1 ⟨_, hg3, rfl, rfl⟩ rfl rfl ?_
    refine sbInt 1 hW11 ⟨_, hg3, rfl, rfl⟩ rfl rfl rfl rfl ?_
    refine sne ⟨_, hg3, rfl, rfl⟩ rfl rfl rfl ?_
    refine sp trivial rfl rfl rfl ?_
    refine sm trivial rfl rfl ?_
    refine St.nil fun a20 h20 => ?_
    exact hKC _ _ ⟨⟨xa != 0, by simp [hc19], (h20.keep (h20.keep (h20.keep (h20.keep (h20.keep (h20.keep (h20.keep (h20.keep h20.nil (t := 6) rfl) (t := 5) rfl) (t := 4) rfl) (t := 3) rfl) (t := 2) rfl) (t := 0) rfl) (t := 1) rfl) (t := 23) rfl)⟩, rfl⟩
   ·rw [hb] at h18
    have hc21 : fa = true := by simpa using hb
    clear hb
    refine St.go h18 ?_; clear h18 a18
    refine so hg3 rfl rfl rfl rfl ?_
    refine so hg3 rfl rfl rfl rfl ?_
    refine so hg3 rfl rfl rfl rfl ?_
    refine spf trivial rfl rfl rfl ?_
    refine sm trivial rfl rfl ?_
    refine St.nil fun a22 h22 => ?_
    exact hKC _ _ ⟨⟨false, by simp [hc21], (h22.keep (h22.keep (h22.keep (h22.keep (h22.keep (h22.keep (h22.keep (h22.keep h22.nil (t := 6) rfl) (t := 5) rfl) (t := 4) rfl) (t := 3) rfl) (t := 2) rfl) (t := 0) rfl) (t := 1) rfl) (t := 23) rfl)⟩, rfl⟩
  ·clear h15; rintro a23 _ ⟨⟨d1, hdd1, h23⟩, rfl⟩; replace hdd1 : Hid _ := hdd1
   refine cut_k 10 (fun a' w' => (∃ d2 : Bool, d2 = (d1 || (!fb && xb != 0)) ∧ Fr 137 a' [(33, .bool d2), (1, .agg #[.int .i64 xop, .int .i64 xa, .int .i64 xb, .int .i64 xc, .int .i64 xk, .int .i64 xn, .slice ra rl rc, .slice aa al ac]), (0, .agg #[.slice am lm cm]), (2, .pointer (some ⟨B2, 0, none⟩)), (3, .pointer (some ⟨B3, 0, none⟩)), (4, .int .i64 0), (5, .pointer (some ⟨B10, 0, none⟩)), (6, .bool true)]) ∧ w11 = w') (fun KC hKC => ?_) ?_
   ·rcases Bool.eq_false_or_eq_true d1 with hb | hb
    ·rw [hb] at h23
     have hc24 := hb
     clear hb
     refine St.go h23 ?_; clear h23 a23
     refine so hg8 rfl rfl rfl rfl ?_
     refine so hg8 rfl rfl rfl rfl ?_
     refine so hg8 rfl rfl rfl rfl ?_
     refine so hg8 rfl rfl rfl rfl ?_
     refine so hg12 rfl rfl rfl rfl ?_
     refine so hg12 rfl rfl rfl rfl ?_
     refine so hg12 rfl rfl rfl rfl ?_
     refine so hg8 rfl rfl rfl rfl ?_
     refine sp trivial rfl rfl rfl ?_
     refine sm trivial rfl rfl ?_
     refine St.nil fun a25 h25 => ?_
     exact hKC _ _ ⟨⟨true, by simp [hc24], (h25.keep (h25.keep (h25.keep (h25.keep (h25.keep (h25.keep (h25.keep (h25.keep h25.nil (t := 6) rfl) (t := 5) rfl) (t := 4) rfl) (t := 3) rfl) (t := 2) rfl) (t := 0) rfl) (t := 1) rfl) (t := 33) rfl)⟩, rfl⟩
    ·rw [hb] at h23
     have hc26 := hb
     clear hb
     refine St.go h23 ?_; clear h23 a23
     refine sfFields1 ⟨_, hg8, rfl, rfl⟩ rfl rfl ?_
     refine sbBool 0 hW11 ⟨_, hg8, rfl, rfl⟩ rfl rfl rfl rfl ?_
     refine sn ⟨_, hg8, rfl, rfl⟩ rfl rfl ?_
     refine sm ⟨_, hg8, rfl, rfl⟩ rfl rfl ?_
     intro a27 h27
     rcases Bool.eq_false_or_eq_true (!fb) with hb | hb
     ·rw [hb] at h27
      have hc28 : fb = false := by simpa using hb
      clear hb
      refine St.go h27 ?_; clear h27 a27
      refine sfIns2 ⟨_, hg12, rfl, rfl⟩ rfl rfl ?_
      refine sbInt 1 hW11 ⟨_, hg12, rfl, rfl⟩ rfl rfl rfl rfl ?_
      refine sne ⟨_, hg12, rfl, rfl⟩ rfl rfl rfl ?_
      refine sp ⟨_, hg8, rfl, rfl⟩ rfl rfl rfl ?_
      refine spf trivial rfl rfl rfl ?_
      refine sm trivial rfl rfl ?_
      refine St.nil fun a29 h29 => ?_
      exact hKC _ _ ⟨⟨xb != 0, by simp [hc26, hc28], (h29.keep (h29.keep (h29.keep (h29.keep (h29.keep (h29.keep (h29.keep (h29.keep h29.nil (t := 6) rfl) (t := 5) rfl) (t := 4) rfl) (t := 3) rfl) (t := 2) rfl) (t := 0) rfl) (t := 1) rfl) (t := 33) rfl)⟩, rfl⟩
     ·rw [hb] at h27
      have hc30 : fb = true := by simpa using hb
      clear hb
      refine St.go h27 ?_; clear h27 a27
      refine so hg12 rfl rfl rfl rfl ?_
      refine so hg12 rfl rfl rfl rfl ?_
      refine so hg12 rfl rfl rfl rfl ?_
      refine spf ⟨_, hg8, rfl, rfl⟩ rfl rfl rfl ?_
      refine spf trivial rfl rfl rfl ?_
      refine sm trivial rfl rfl ?_
      refine St.nil fun a31 h31 => ?_
      exact hKC _ _ ⟨⟨false, by simp [hc26, hc30], (h31.keep (h31.keep (h31.keep (h31.keep (h31.keep (h31.keep (h31.keep (h31.keep h31.nil (t := 6) rfl) (t := 5) rfl) (t := 4) rfl) (t := 3) rfl) (t := 2) rfl) (t := 0) rfl) (t := 1) rfl) (t := 33) rfl)⟩, rfl⟩
   ·clear h23; rintro a32 _ ⟨⟨d2, hdd2, h32⟩, rfl⟩; replace hdd2 : Hid _ := hdd2
    refine cut_k 10 (fun a' w' => (∃ d3 : Bool, d3 = (d2 || (!fc && xc != 0)) ∧ Fr 137 a' [(43, .bool d3), (1, .agg #[.int .i64 xop, .int .i64 xa, .int .i64 xb, .int .i64 xc, .int .i64 xk, .int .i64 xn, .slice ra rl rc, .slice aa al ac]), (0, .agg #[.slice am lm cm]), (2, .pointer (some ⟨B2, 0, none⟩)), (3, .pointer (some ⟨B3, 0, none⟩)), (4, .int .i64 0), (5, .pointer (some ⟨B10, 0, none⟩)), (6, .bool true)]) ∧ w11 = w') (fun KC hKC => ?_) ?_
    ·rcases Bool.eq_false_or_eq_true d2 with hb | hb
     ·rw [hb] at h32
      have hc33 := hb
      clear hb
      refine St.go h32 ?_; clear h32 a32
      refine so hg18 rfl rfl rfl rfl ?_
      refine so hg18 rfl rfl rfl rfl ?_
      refine so hg18 rfl rfl rfl rfl ?_
      refine so hg18 rfl rfl rfl rfl ?_
      refine so hg22 rfl rfl rfl rfl ?_
      refine so hg22 rfl rfl rfl rfl ?_
      refine so hg22 rfl rfl rfl rfl ?_
      refine so hg18 rfl rfl rfl rfl ?_
      refine sp trivial rfl rfl rfl ?_
      refine sm trivial rfl rfl ?_
      refine St.nil fun a34 h34 => ?_
      exact hKC _ _ ⟨⟨true, by simp [hc33], (h34.keep (h34.keep (h34.keep (h34.keep (h34.keep (h34.keep (h34.keep (h34.keep h34.nil (t := 6) rfl) (t := 5) rfl) (t := 4) rfl) (t := 3) rfl) (t := 2) rfl) (t := 0) rfl) (t := 1) rfl) (t := 43) rfl)⟩, rfl⟩
     ·rw [hb] at h32
      have hc35 := hb
      clear hb
      refine St.go h32 ?_; clear h32 a32
      refine sfFields2 ⟨_, hg18, rfl, rfl⟩ rfl rfl ?_
      refine sbBool 0 hW11 ⟨_, hg18, rfl, rfl⟩ rfl rfl rfl rfl ?_
      refine sn ⟨_, hg18, rfl, rfl⟩ rfl rfl ?_
      refine sm ⟨_, hg18, rfl, rfl⟩ rfl rfl ?_
      intro a36 h36
      rcases Bool.eq_false_or_eq_true (!fc) with hb | hb
      ·rw [hb] at h36
       have hc37 : fc = false := by simpa using hb
       clear hb
       refine St.go h36 ?_; clear h36 a36
       refine sfIns3 ⟨_, hg22, rfl, rfl⟩ rfl rfl ?_
       refine sbInt 1 hW11 ⟨_, hg22, rfl, rfl⟩ rfl rfl rfl rfl ?_
       refine sne ⟨_, hg22, rfl, rfl⟩ rfl rfl rfl ?_
       refine sp ⟨_, hg18, rfl, rfl⟩ rfl rfl rfl ?_
       refine spf trivial rfl rfl rfl ?_
       refine sm trivial rfl rfl ?_
       refine St.nil fun a38 h38 => ?_
       exact hKC _ _ ⟨⟨xc != 0, by simp [hc35, hc37], (h38.keep (h38.keep (h38.keep (h38.keep (h38.keep (h38.keep (h38.keep (h38.keep h38.nil (t := 6) rfl) (t := 5) rfl) (t := 4) rfl) (t := 3) rfl) (t := 2) rfl) (t := 0) rfl) (t := 1) rfl) (t := 43) rfl)⟩, rfl⟩
      ·rw [hb] at h36
       have hc39 : fc = true := by simpa using hb
       clear hb
       refine St.go h36 ?_; clear h36 a36
       refine so hg22 rfl rfl rfl rfl ?_
       refine so hg22 rfl rfl rfl rfl ?_
       refine so hg22 rfl rfl rfl rfl ?_
       refine spf ⟨_, hg18, rfl, rfl⟩ rfl rfl rfl ?_
       refine spf trivial rfl rfl rfl ?_
       refine sm trivial rfl rfl ?_
       refine St.nil fun a40 h40 => ?_
       exact hKC _ _ ⟨⟨false, by simp [hc35, hc39], (h40.keep (h40.keep (h40.keep (h40.keep (h40.keep (h40.keep (h40.keep (h40.keep h40.nil (t := 6) rfl) (t := 5) rfl) (t := 4) rfl) (t := 3) rfl) (t := 2) rfl) (t := 0) rfl) (t := 1) rfl) (t := 43) rfl)⟩, rfl⟩
    ·clear h32; rintro a41 _ ⟨⟨d3, hdd3, h41⟩, rfl⟩; replace hdd3 : Hid _ := hdd3
     refine cut_k 10 (fun a' w' => (∃ d4 : Bool, d4 = (d3 || (!fk && xk != 0)) ∧ Fr 137 a' [(53, .bool d4), (1, .agg #[.int .i64 xop, .int .i64 xa, .int .i64 xb, .int .i64 xc, .int .i64 xk, .int .i64 xn, .slice ra rl rc, .slice aa al ac]), (0, .agg #[.slice am lm cm]), (2, .pointer (some ⟨B2, 0, none⟩)), (3, .pointer (some ⟨B3, 0, none⟩)), (4, .int .i64 0), (5, .pointer (some ⟨B10, 0, none⟩)), (6, .bool true)]) ∧ w11 = w') (fun KC hKC => ?_) ?_
     ·rcases Bool.eq_false_or_eq_true d3 with hb | hb
      ·rw [hb] at h41
       have hc42 := hb
       clear hb
       refine St.go h41 ?_; clear h41 a41
       refine so hg28 rfl rfl rfl rfl ?_
       refine so hg28 rfl rfl rfl rfl ?_
       refine so hg28 rfl rfl rfl rfl ?_
       refine so hg28 rfl rfl rfl rfl ?_
       refine so hg32 rfl rfl rfl rfl ?_
       refine so hg32 rfl rfl rfl rfl ?_
       refine so hg32 rfl rfl rfl rfl ?_
       refine so hg28 rfl rfl rfl rfl ?_
       refine sp trivial rfl rfl rfl ?_
       refine sm trivial rfl rfl ?_
       refine St.nil fun a43 h43 => ?_
       exact hKC _ _ ⟨⟨true, by simp [hc42], (h43.keep (h43.keep (h43.keep (h43.keep (h43.keep (h43.keep (h43.keep (h43.keep h43.nil (t := 6) rfl) (t := 5) rfl) (t := 4) rfl) (t := 3) rfl) (t := 2) rfl) (t := 0) rfl) (t := 1) rfl) (t := 53) rfl)⟩, rfl⟩
      ·rw [hb] at h41
       have hc44 := hb
       clear hb
       refine St.go h41 ?_; clear h41 a41
       refine sfFields3 ⟨_, hg28, rfl, rfl⟩ rfl rfl ?_
       refine sbBool 0 hW11 ⟨_, hg28, rfl, rfl⟩ rfl rfl rfl rfl ?_
       refine sn ⟨_, hg28, rfl, rfl⟩ rfl rfl ?_
       refine sm ⟨_, hg28, rfl, rfl⟩ rfl rfl ?_
       intro a45 h45
       rcases Bool.eq_false_or_eq_true (!fk) with hb | hb
       ·rw [hb] at h45
        have hc46 : fk = false := by simpa using hb
        clear hb
        refine St.go h45 ?_; clear h45 a45
        refine sfIns4 ⟨_, hg32, rfl, rfl⟩ rfl rfl ?_
        refine sbInt 1 hW11 ⟨_, hg32, rfl, rfl⟩ rfl rfl rfl rfl ?_
        refine sne ⟨_, hg32, rfl, rfl⟩ rfl rfl rfl ?_
        refine sp ⟨_, hg28, rfl, rfl⟩ rfl rfl rfl ?_
        refine spf trivial rfl rfl rfl ?_
        refine sm trivial rfl rfl ?_
        refine St.nil fun a47 h47 => ?_
        exact hKC _ _ ⟨⟨xk != 0, by simp [hc44, hc46], (h47.keep (h47.keep (h47.keep (h47.keep (h47.keep (h47.keep (h47.keep (h47.keep h47.nil (t := 6) rfl) (t := 5) rfl) (t := 4) rfl) (t := 3) rfl) (t := 2) rfl) (t := 0) rfl) (t := 1) rfl) (t := 53) rfl)⟩, rfl⟩
       ·rw [hb] at h45
        have hc48 : fk = true := by simpa using hb
        clear hb
        refine St.go h45 ?_; clear h45 a45
        refine so hg32 rfl rfl rfl rfl ?_
        refine so hg32 rfl rfl rfl rfl ?_
        refine so hg32 rfl rfl rfl rfl ?_
        refine spf ⟨_, hg28, rfl, rfl⟩ rfl rfl rfl ?_
        refine spf trivial rfl rfl rfl ?_
        refine sm trivial rfl rfl ?_
        refine St.nil fun a49 h49 => ?_
        exact hKC _ _ ⟨⟨false, by simp [hc44, hc48], (h49.keep (h49.keep (h49.keep (h49.keep (h49.keep (h49.keep (h49.keep (h49.keep h49.nil (t := 6) rfl) (t := 5) rfl) (t := 4) rfl) (t := 3) rfl) (t := 2) rfl) (t := 0) rfl) (t := 1) rfl) (t := 53) rfl)⟩, rfl⟩
     ·clear h41; rintro a50 _ ⟨⟨d4, hdd4, h50⟩, rfl⟩; replace hdd4 : Hid _ := hdd4
      refine cut_k 10 (fun a' w' => (∃ d5 : Bool, d5 = (d4 || (!fn && xn != 0)) ∧ Fr 137 a' [(63, .bool d5), (1, .agg #[.int .i64 xop, .int .i64 xa, .int .i64 xb, .int .i64 xc, .int .i64 xk, .int .i64 xn, .slice ra rl rc, .slice aa al ac]), (0, .agg #[.slice am lm cm]), (2, .pointer (some ⟨B2, 0, none⟩)), (3, .pointer (some ⟨B3, 0, none⟩)), (4, .int .i64 0), (5, .pointer (some ⟨B10, 0, none⟩)), (6, .bool true)]) ∧ w11 = w') (fun KC hKC => ?_) ?_
      ·rcases Bool.eq_false_or_eq_true d4 with hb | hb
       ·rw [hb] at h50
        have hc51 := hb
        clear hb
        refine St.go h50 ?_; clear h50 a50
        refine so hg38 rfl rfl rfl rfl ?_
        refine so hg38 rfl rfl rfl rfl ?_
        refine so hg38 rfl rfl rfl rfl ?_
        refine so hg38 rfl rfl rfl rfl ?_
        refine so hg42 rfl rfl rfl rfl ?_
        refine so hg42 rfl rfl rfl rfl ?_
        refine so hg42 rfl rfl rfl rfl ?_
        refine so hg38 rfl rfl rfl rfl ?_
        refine sp trivial rfl rfl rfl ?_
        refine sm trivial rfl rfl ?_
        refine St.nil fun a52 h52 => ?_
        exact hKC _ _ ⟨⟨true, by simp [hc51], (h52.keep (h52.keep (h52.keep (h52.keep (h52.keep (h52.keep (h52.keep (h52.keep h52.nil (t := 6) rfl) (t := 5) rfl) (t := 4) rfl) (t := 3) rfl) (t := 2) rfl) (t := 0) rfl) (t := 1) rfl) (t := 63) rfl)⟩, rfl⟩
       ·rw [hb] at h50
        have hc53 := hb
        clear hb
        refine St.go h50 ?_; clear h50 a50
        refine sfFields4 ⟨_, hg38, rfl, rfl⟩ rfl rfl ?_
        refine sbBool 0 hW11 ⟨_, hg38, rfl, rfl⟩ rfl rfl rfl rfl ?_
        refine sn ⟨_, hg38, rfl, rfl⟩ rfl rfl ?_
        refine sm ⟨_, hg38, rfl, rfl⟩ rfl rfl ?_
        intro a54 h54
        rcases Bool.eq_false_or_eq_true (!fn) with hb | hb
        ·rw [hb] at h54
         have hc55 : fn = false := by simpa using hb
         clear hb
         refine St.go h54 ?_; clear h54 a54
         refine sfIns5 ⟨_, hg42, rfl, rfl⟩ rfl rfl ?_
         refine sbInt6 1 hW11 ⟨_, hg42, rfl, rfl⟩ rfl rfl rfl rfl ?_
         refine sne6 ⟨_, hg42, rfl, rfl⟩ rfl rfl rfl ?_
         refine sp ⟨_, hg38, rfl, rfl⟩ rfl rfl rfl ?_
         refine spf trivial rfl rfl rfl ?_
         refine sm trivial rfl rfl ?_
         refine St.nil fun a56 h56 => ?_
         exact hKC _ _ ⟨⟨xn != 0, by simp [hc53, hc55], (h56.keep (h56.keep (h56.keep (h56.keep (h56.keep (h56.keep (h56.keep (h56.keep h56.nil (t := 6) rfl) (t := 5) rfl) (t := 4) rfl) (t := 3) rfl) (t := 2) rfl) (t := 0) rfl) (t := 1) rfl) (t := 63) rfl)⟩, rfl⟩
        ·rw [hb] at h54
         have hc57 : fn = true := by simpa using hb
         clear hb
         refine St.go h54 ?_; clear h54 a54
         refine so hg42 rfl rfl rfl rfl ?_
         refine so hg42 rfl rfl rfl rfl ?_
         refine so hg42 rfl rfl rfl rfl ?_
         refine spf ⟨_, hg38, rfl, rfl⟩ rfl rfl rfl ?_
         refine spf trivial rfl rfl rfl ?_
         refine sm trivial rfl rfl ?_
         refine St.nil fun a58 h58 => ?_
         exact hKC _ _ ⟨⟨false, by simp [hc53, hc57], (h58.keep (h58.keep (h58.keep (h58.keep (h58.keep (h58.keep (h58.keep (h58.keep h58.nil (t := 6) rfl) (t := 5) rfl) (t := 4) rfl) (t := 3) rfl) (t := 2) rfl) (t := 0) rfl) (t := 1) rfl) (t := 63) rfl)⟩, rfl⟩
      ·clear h50; rintro a59 _ ⟨⟨d5, hdd5, h59⟩, rfl⟩; replace hdd5 : Hid _ := hdd5
       refine cut_k 11 (fun a' w' => (∃ d6 : Bool, d6 = (d5 || (!fr && decide ((0 : Int) < (rl : Int)))) ∧ Fr 137 a' [(74, .bool d6), (1, .agg #[.int .i64 xop, .int .i64 xa, .int .i64 xb, .int .i64 xc, .int .i64 xk, .int .i64 xn, .slice ra rl rc, .slice aa al ac]), (0, .agg #[.slice am lm cm]), (2, .pointer (some ⟨B2, 0, none⟩)), (3, .pointer (some ⟨B3, 0, none⟩)), (4, .int .i64 0), (5, .pointer (some ⟨B10, 0, none⟩)), (6, .bool true)]) ∧ w11 = w') (fun KC hKC => ?_) ?_
       ·rcases Bool.eq_false_or_eq_true d5 with hb | hb
        ·rw [hb] at h59
         have hc60 := hb
         clear hb
         refine St.go h59 ?_; clear h59 a59
         refine so hg48 rfl rfl rfl rfl ?_
         refine so hg48 rfl rfl rfl rfl ?_
         refine so hg48 rfl rfl rfl rfl ?_
         refine so hg48 rfl rfl rfl rfl ?_
         refine so hg52 rfl rfl rfl rfl ?_
         refine so hg52 rfl rfl rfl rfl ?_
         refine so hg52 rfl rfl rfl rfl ?_
         refine so hg52 rfl rfl rfl rfl ?_
         refine so hg48 rfl rfl rfl rfl ?_
         refine sp trivial rfl rfl rfl ?_
         refine sm trivial rfl rfl ?_
         refine St.nil fun a61 h61 => ?_
         exact hKC _ _ ⟨⟨true, by simp [hc60], (h61.keep (h61.keep (h61.keep (h61.keep (h61.keep (h61.keep (h61.keep (h61.keep h61.nil (t := 6) rfl) (t := 5) rfl) (t := 4) rfl) (t := 3) rfl) (t := 2) rfl) (t := 0) rfl) (t := 1) rfl) (t := 74) rfl)⟩, rfl⟩
        ·rw [hb] at h59
         have hc62 := hb
         clear hb
         refine St.go h59 ?_; clear h59 a59
         refine sfFields5 ⟨_, hg48, rfl, rfl⟩ rfl rfl ?_
         refine sbBool 0 hW11 ⟨_, hg48, rfl, rfl⟩ rfl rfl rfl rfl ?_
         refine sn ⟨_, hg48, rfl, rfl⟩ rfl rfl ?_
         refine sm ⟨_, hg48, rfl, rfl⟩ rfl rfl ?_
         intro a63 h63
         rcases Bool.eq_false_or_eq_true (!fr) with hb | hb
         ·rw [hb] at h63
          have hc64 : fr = false := by simpa using hb
          clear hb
          refine St.go h63 ?_; clear h63 a63
          refine sfIns6 ⟨_, hg52, rfl, rfl⟩ rfl rfl ?_
          refine sbInts 1 hW11 ⟨_, hg52, rfl, rfl⟩ rfl rfl rfl rfl ?_
          refine slInts ⟨_, hg52, rfl, rfl⟩ rfl rfl ?_
          refine sgt ⟨_, hg52, rfl, rfl⟩ rfl rfl rfl ?_
          refine sp ⟨_, hg48, rfl, rfl⟩ rfl rfl rfl ?_
          refine spf trivial rfl rfl rfl ?_
          refine sm trivial rfl rfl ?_
          refine St.nil fun a65 h65 => ?_
          exact hKC _ _ ⟨⟨decide (0 < (rl : Int)), by simp [hc62, hc64], (h65.keep (h65.keep (h65.keep (h65.keep (h65.keep (h65.keep (h65.keep (h65.keep h65.nil (t := 6) rfl) (t := 5) rfl) (t := 4) rfl) (t := 3) rfl) (t := 2) rfl) (t := 0) rfl) (t := 1) rfl) (t := 74) rfl)⟩, rfl⟩
         ·rw [hb] at h63
          have hc66 : fr = true := by simpa using hb
          clear hb
          refine St.go h63 ?_; clear h63 a63
          refine so hg52 rfl rfl rfl rfl ?_
          refine so hg52 rfl rfl rfl rfl ?_
          refine so hg52 rfl rfl rfl rfl ?_
          refine so hg52 rfl rfl rfl rfl ?_
          refine spf ⟨_, hg48, rfl, rfl⟩ rfl rfl rfl ?_
          refine spf trivial rfl rfl rfl ?_
          refine sm trivial rfl rfl ?_
          refine St.nil fun a67 h67 => ?_
          exact hKC _ _ ⟨⟨false, by simp [hc62, hc66], (h67.keep (h67.keep (h67.keep (h67.keep (h67.keep (h67.keep (h67.keep (h67.keep h67.nil (t := 6) rfl) (t := 5) rfl) (t := 4) rfl) (t := 3) rfl) (t := 2) rfl) (t := 0) rfl) (t := 1) rfl) (t := 74) rfl)⟩, rfl⟩
       ·clear h59; rintro a68 _ ⟨⟨d6, hdd6, h68⟩, rfl⟩; replace hdd6 : Hid _ := hdd6
        refine cut_k 10 (fun a' w' => (∃ d7 : Bool, d7 = (d6 || (!fs && decide ((0 : Int) < (al : Int)))) ∧ Fr 137 a' [(84, .bool d7), (1, .agg #[.int .i64 xop, .int .i64 xa, .int .i64 xb, .int .i64 xc, .int .i64 xk, .int .i64 xn, .slice ra rl rc, .slice aa al ac]), (0, .agg #[.slice am lm cm]), (2, .pointer (some ⟨B2, 0, none⟩)), (3, .pointer (some ⟨B3, 0, none⟩)), (4, .int .i64 0), (5, .pointer (some ⟨B10, 0, none⟩)), (6, .bool true)]) ∧ w11 = w') (fun KC hKC => ?_) ?_
        ·rcases Bool.eq_false_or_eq_true d6 with hb | hb
         ·rw [hb] at h68
          have hc69 := hb
          clear hb
          refine St.go h68 ?_; clear h68 a68
          refine so hg59 rfl rfl rfl rfl ?_
          refine so hg59 rfl rfl rfl rfl ?_
          refine so hg59 rfl rfl rfl rfl ?_
          refine so hg59 rfl rfl rfl rfl ?_
          refine so hg63 rfl rfl rfl rfl ?_
          refine so hg63 rfl rfl rfl rfl ?_
          refine so hg63 rfl rfl rfl rfl ?_
          refine so hg63 rfl rfl rfl rfl ?_
          refine so hg59 rfl rfl rfl rfl ?_
          refine sp trivial rfl rfl rfl ?_
          refine St.nil fun a70 h70 => ?_
          exact hKC _ _ ⟨⟨true, by simp [hc69], (h70.keep (h70.keep (h70.keep (h70.keep (h70.keep (h70.keep (h70.keep (h70.keep h70.nil (t := 6) rfl) (t := 5) rfl) (t := 4) rfl) (t := 3) rfl) (t := 2) rfl) (t := 0) rfl) (t := 1) rfl) (t := 84) rfl)⟩, rfl⟩
         ·rw [hb] at h68
          have hc71 := hb
          clear hb
          refine St.go h68 ?_; clear h68 a68
          refine sfFields6 ⟨_, hg59, rfl, rfl⟩ rfl rfl ?_
          refine sbBool 0 hW11 ⟨_, hg59, rfl, rfl⟩ rfl rfl rfl rfl ?_
          refine sn ⟨_, hg59, rfl, rfl⟩ rfl rfl ?_
          refine sm ⟨_, hg59, rfl, rfl⟩ rfl rfl ?_
          intro a72 h72
          rcases Bool.eq_false_or_eq_true (!fs) with hb | hb
          ·rw [hb] at h72
           have hc73 : fs = false := by simpa using hb
           clear hb
           refine St.go h72 ?_; clear h72 a72
           refine sfIns7 ⟨_, hg63, rfl, rfl⟩ rfl rfl ?_
           refine sbInts 1 hW11 ⟨_, hg63, rfl, rfl⟩ rfl rfl rfl rfl ?_
           refine slInts ⟨_, hg63, rfl, rfl⟩ rfl rfl ?_
           refine sgt ⟨_, hg63, rfl, rfl⟩ rfl rfl rfl ?_
           refine sp ⟨_, hg59, rfl, rfl⟩ rfl rfl rfl ?_
           refine spf trivial rfl rfl rfl ?_
           refine St.nil fun a74 h74 => ?_
           exact hKC _ _ ⟨⟨decide (0 < (al : Int)), by simp [hc71, hc73], (h74.keep (h74.keep (h74.keep (h74.keep (h74.keep (h74.keep (h74.keep (h74.keep h74.nil (t := 6) rfl) (t := 5) rfl) (t := 4) rfl) (t := 3) rfl) (t := 2) rfl) (t := 0) rfl) (t := 1) rfl) (t := 84) rfl)⟩, rfl⟩
          ·rw [hb] at h72
           have hc75 : fs = true := by simpa using hb
           clear hb
           refine St.go h72 ?_; clear h72 a72
           refine so hg63 rfl rfl rfl rfl ?_
           refine so hg63 rfl rfl rfl rfl ?_
           refine so hg63 rfl rfl rfl rfl ?_
           refine so hg63 rfl rfl rfl rfl ?_
           refine spf ⟨_, hg59, rfl, rfl⟩ rfl rfl rfl ?_
           refine spf trivial rfl rfl rfl ?_
           refine St.nil fun a76 h76 => ?_
           exact hKC _ _ ⟨⟨false, by simp [hc71, hc75], (h76.keep (h76.keep (h76.keep (h76.keep (h76.keep (h76.keep (h76.keep (h76.keep h76.nil (t := 6) rfl) (t := 5) rfl) (t := 4) rfl) (t := 3) rfl) (t := 2) rfl) (t := 0) rfl) (t := 1) rfl) (t := 84) rfl)⟩, rfl⟩
        ·clear h68; rintro a77 _ ⟨⟨d7, hdd7, h77⟩, rfl⟩; replace hdd7 : Hid _ := hdd7
         refine wpList_nil ?_
         refine hK17 _ _ ?_
         refine fr_cond (t := 84) h77 rfl (fun hb => ?_) (fun hb => ?_)
         ·have hc78 := hb
          clear hb
          refine wp_seq_k ?_
          intro K79 hK79
          refine fr_region ?_
          intro ops hops
          clear hops
          refine St.go h77 ?_; clear h77 a77
          refine sa trivial rfl rfl ?_
          refine St.nil fun a80 h80 => ?_
          refine hK79 _ _ ?_
          refine wp_ret ?_
          repeat (first | with_reducible refine of_then_ret ?_ | with_reducible refine of_block_ret ?_)
          have e7 := insForm_d hop hdd1.out hdd2.out hdd3.out hdd4.out hdd5.out hdd6.out hdd7.out (lm := lm)
          have R : insForm lm xop xa xb xc xk xn rl al = 4 := by rw [e7]; simp [hc78]
          exact ret_tmp (t := 4) h80 rfl rfl ⟨by rw [R], hW11.bel⟩
         ·have hc81 := hb
          clear hb
          refine wp_skip ?_
          refine hK16 _ _ ?_
          refine wp_seq_k ?_
          intro K82 hK82
          refine wp_seq_k ?_
          intro K83 hK83
          refine fr_region ?_
          intro ops hops
          clear hops
          refine St.go h77 ?_; clear h77 a77
          refine sfIns0 trivial rfl rfl ?_
          refine sbInt 1 hW11 trivial rfl rfl rfl rfl ?_
          refine St.nil fun a84 h84 => ?_
          refine hK83 _ _ ?_
          refine wp_block ?_
          refine wp_seq_k ?_
          intro K85 hK85
          refine fr_region ?_
          intro ops hops
          clear hops
          refine St.go h84 ?_; clear h84 a84
          refine seq trivial rfl rfl rfl ?_
          refine sa trivial rfl rfl ?_
          refine St.nil fun a86 h86 => ?_
          refine hK85 _ _ ?_
          refine fr_cond (t := 87) h86 rfl (fun hb => ?_) (fun hb => ?_)
          ·have h9 : xop = 2 := eq_of_beq hb
           have hc87 : Hid (xop = 2) := h9
           clear h9
           clear hb
           refine wp_seq_k ?_
           intro K88 hK88
           refine fr_region ?_
           intro ops hops
           have hg3 : (ops[3]?).bind (fun o : Oper => o.dst) = some 92 := hops 3
           clear hops
           refine St.go h86 ?_; clear h86 a86
           refine sfIns4 trivial rfl rfl ?_
           refine sbInt 1 hW11 trivial rfl rfl rfl rfl ?_
           refine slt trivial rfl rfl rfl ?_
           refine sm trivial rfl rfl ?_
           intro a89 h89
           rcases Bool.eq_false_or_eq_true (decide (xk < 1)) with hb | hb
           ·rw [hb] at h89
            have hc90 : xk < 1 := of_decide_eq_true hb
            clear hb
            refine St.go h89 ?_; clear h89 a89
            refine so hg3 rfl rfl rfl rfl ?_
            refine so hg3 rfl rfl rfl rfl ?_
            refine so hg3 rfl rfl rfl rfl ?_
            refine sp trivial rfl rfl rfl ?_
            refine St.nil fun a91 h91 => ?_
            refine hK88 _ _ ?_
            refine fr_true (t := 96) h91 rfl ?_
            refine wp_seq_k ?_
            intro K92 hK92
            refine fr_region ?_
            intro ops hops
            clear hops
            refine St.go h91 ?_; clear h91 a91
            refine sa trivial rfl rfl ?_
            refine St.nil fun a93 h93 => ?_
            refine hK92 _ _ ?_
            refine wp_ret ?_
            repeat (first | with_reducible refine of_then_ret ?_ | with_reducible refine of_block_ret ?_)
            have e7 := insForm_d hop hdd1.out hdd2.out hdd3.out hdd4.out hdd5.out hdd6.out hdd7.out (lm := lm)
            have R : insForm lm xop xa xb xc xk xn rl al = 1 := by rw [e7]; simp [hc81, hc87.out, hc90]
            exact ret_tmp (t := 4) h93 rfl rfl ⟨by rw [R], hW11.bel⟩
           ·rw [hb] at h89
            have hc94 : ¬ (xk < 1) := of_decide_eq_false hb
            clear hb
            refine St.go h89 ?_; clear h89 a89
            refine sfIns4 ⟨_, hg3, rfl, rfl⟩ rfl rfl ?_
            refine sbInt 1 hW11 ⟨_, hg3, rfl, rfl⟩ rfl rfl rfl rfl ?_
            refine sgt ⟨_, hg3, rfl, rfl⟩ rfl rfl rfl ?_
            refine spf trivial rfl rfl rfl ?_
            refine St.nil fun a95 h95 => ?_
            refine hK88 _ _ ?_
            refine fr_cond (t := 96) h95 rfl (fun hb => ?_) (fun hb => ?_)
            ·have hc96 : 9 < xk := of_decide_eq_true hb
             clear hb
             refine wp_seq_k ?_
             intro K97 hK97
             refine fr_region ?_
             intro ops hops
             clear hops
             refine St.go h95 ?_; clear h95 a95
             refine sa trivial rfl rfl ?_
             refine St.nil fun a98 h98 => ?_
             refine hK97 _ _ ?_
             refine wp_ret ?_
             repeat (first | with_reducible refine of_then_ret ?_ | with_reducible refine of_block_ret ?_)
             have e7 := insForm_d hop hdd1.out hdd2.out hdd3.out hdd4.out hdd5.out hdd6.out hdd7.out (lm := lm)
             have R : insForm lm xop xa xb xc xk xn rl al = 1 := by rw [e7]; simp [hc81, hc87.out, hc94, hc96]
             exact ret_tmp (t := 4) h98 rfl rfl ⟨by rw [R], hW11.bel⟩
            ·have hc99 : ¬ (9 < xk) := of_decide_eq_false hb
             clear hb
             refine wp_skip ?_
             refine hK82 _ _ ?_
             refine wp_seq_k ?_
             intro K100 hK100
             refine fr_region ?_
             intro ops hops
             clear hops
             refine St.go h95 ?_; clear h95 a95
             refine sa trivial rfl rfl ?_
             refine St.nil fun a101 h101 => ?_
             refine hK100 _ _ ?_
             refine wp_ret ?_
             repeat (first | with_reducible refine of_then_ret ?_ | with_reducible refine of_block_ret ?_)
             have e7 := insForm_d hop hdd1.out hdd2.out hdd3.out hdd4.out hdd5.out hdd6.out hdd7.out (lm := lm)
             have R : insForm lm xop xa xb xc xk xn rl al = 0 := by rw [e7]; simp [hc81, hc87.out, hc94, hc99]
             exact ret_tmp (t := 4) h101 rfl rfl ⟨by rw [R], hW11.bel⟩
          ·have h9 : ¬ xop = 2 := ne_of_beq_false hb
           have hc102 : ¬ xop = 2 := h9
           clear h9
           clear hb
           refine wp_seq_k ?_
           intro K103 hK103
           refine fr_region ?_
           intro ops hops
           clear hops
           refine St.go h86 ?_; clear h86 a86
           refine seq trivial rfl rfl rfl ?_
           refine sa trivial rfl rfl ?_
           refine St.nil fun a104 h104 => ?_
           refine hK103 _ _ ?_
           refine fr_cond (t := 97) h104 rfl (fun hb => ?_) (fun hb => ?_)
           ·have h9 : xop = 5 := eq_of_beq hb
            have hc105 : Hid (xop = 5) := h9
            clear h9
            clear hb
            refine wp_seq_k ?_
            intro K106 hK106
            refine fr_region ?_
            intro ops hops
            clear hops
            refine St.go h104 ?_; clear h104 a104
            refine sfIns7 trivial rfl rfl ?_
            refine sbInts 1 hW11 trivial rfl rfl rfl rfl ?_
            refine slInts trivial rfl rfl ?_
            refine sgt trivial rfl rfl rfl ?_
            refine St.nil fun a107 h107 => ?_
            refine hK106 _ _ ?_
            refine fr_cond (t := 102) h107 rfl (fun hb => ?_) (fun hb => ?_)
            ·have hc108 : 8 < al := by have := of_decide_eq_true hb; omega
             clear hb
             refine wp_seq_k ?_
             intro K109 hK109
             refine fr_region ?_
             intro ops hops
             clear hops
             refine St.go h107 ?_; clear h107 a107
             refine sa trivial rfl rfl ?_
             refine St.nil fun a110 h110 => ?_
             refine hK109 _ _ ?_
             refine wp_ret ?_
             repeat (first | with_reducible refine of_then_ret ?_ | with_reducible refine of_block_ret ?_)
             have e7 := insForm_d hop hdd1.out hdd2.out hdd3.out hdd4.out hdd5.out hdd6.out hdd7.out (lm := lm)
             have R : insForm lm xop xa xb xc xk xn rl al = 2 := by rw [e7]; simp [hc81, hc102, hc105.out, hc108]
             exact ret_tmp (t := 4) h110 rfl rfl ⟨by rw [R], hW11.bel⟩
            ·have hc111 : ¬ (8 < al) := by have := of_decide_eq_false hb; omega
             clear hb
             refine wp_skip ?_
             refine hK82 _ _ ?_
             refine wp_seq_k ?_
             intro K112 hK112
             refine fr_region ?_
             intro ops hops
             clear hops
             refine St.go h107 ?_; clear h107 a107
             refine sa trivial rfl rfl ?_
             refine St.nil fun a113 h113 => ?_
             refine hK112 _ _ ?_
             refine wp_ret ?_
             repeat (first | with_reducible refine of_then_ret ?_ | with_reducible refine of_block_ret ?_)
             have e7 := insForm_d hop hdd1.out hdd2.out hdd3.out hdd4.out hdd5.out hdd6.out hdd7.out (lm := lm)
             have R : insForm lm xop xa xb xc xk xn rl al = 0 := by rw [e7]; simp [hc81, hc102, hc105.out, hc111]
             exact ret_tmp (t := 4) h113 rfl rfl ⟨by rw [R], hW11.bel⟩
           ·have h9 : ¬ xop = 5 := ne_of_beq_false hb
            have hc114 : ¬ xop = 5 := h9
            clear h9
            clear hb
            refine wp_seq_k ?_
            intro K115 hK115
            refine wp_seq_k ?_
            intro K116 hK116
            refine fr_region ?_
            intro ops hops
            clear hops
            refine St.go h104 ?_; clear h104 a104
            refine seq trivial rfl rfl rfl ?_
            refine sa trivial rfl rfl ?_
            refine St.nil fun a117 h117 => ?_
            refine hK116 _ _ ?_
            refine fr_cond (t := 103) h117 rfl (fun hb => ?_) (fun hb => ?_)
            ·rw [hb] at h117
             have h9 : xop = 6 := eq_of_beq hb
             have hc118 : Hid (xop = 6) := h9
             clear h9
             clear hb
             refine wp_skip ?_
             refine hK115 _ _ ?_
             refine fr_true (t := 103) h117 rfl ?_
             refine wp_seq_k ?_
             intro K119 hK119
             refine fr_region ?_
             intro ops hops
             have hg3 : (ops[3]?).bind (fun o : Oper => o.dst) = some 109 := hops 3
             clear hops
             refine St.go h117 ?_; clear h117 a117
             refine sfIns4 trivial rfl rfl ?_
             refine sbInt 1 hW11 trivial rfl rfl rfl rfl ?_
             refine slt trivial rfl rfl rfl ?_
             refine sm trivial rfl rfl ?_
             intro a120 h120
             rcases Bool.eq_false_or_eq_true (decide (xk < 0)) with hb | hb
             ·rw [hb] at h120
              have hc121 : xk < 0 := of_decide_eq_true hb
              clear hb
              refine St.go h120 ?_; clear h120 a120
              refine so hg3 rfl rfl rfl rfl ?_
              refine so hg3 rfl rfl rfl rfl ?_
              refine so hg3 rfl rfl rfl rfl ?_
              refine sp trivial rfl rfl rfl ?_
              refine St.nil fun a122 h122 => ?_
              refine hK119 _ _ ?_
              refine fr_true (t := 113) h122 rfl ?_
              refine wp_seq_k ?_
              intro K123 hK123
              refine fr_region ?_
              intro ops hops
              clear hops
              refine St.go h122 ?_; clear h122 a122
              refine sa trivial rfl rfl ?_
              refine St.nil fun a124 h124 => ?_
              refine hK123 _ _ ?_
              refine wp_ret ?_
              repeat (first | with_reducible refine of_then_ret ?_ | with_reducible refine of_block_ret ?_)
              have e7 := insForm_d hop hdd1.out hdd2.out hdd3.out hdd4.out hdd5.out hdd6.out hdd7.out (lm := lm)
              have R : insForm lm xop xa xb xc xk xn rl al = 1 := by rw [e7]; simp [hc81, hc102, hc114, hc118.out, hc121]
              exact ret_tmp (t := 4) h124 rfl rfl ⟨by rw [R], hW11.bel⟩
             ·rw [hb] at h120
              have hc125 : ¬ (xk < 0) := of_decide_eq_false hb
              clear hb
              refine St.go h120 ?_; clear h120 a120
              refine sfIns4 ⟨_, hg3, rfl, rfl⟩ rfl rfl ?_
              refine sbInt 1 hW11 ⟨_, hg3, rfl, rfl⟩ rfl rfl rfl rfl ?_
              refine sgt ⟨_, hg3, rfl, rfl⟩ rfl rfl rfl ?_
              refine spf trivial rfl rfl rfl ?_
              refine St.nil fun a126 h126 => ?_
              refine hK119 _ _ ?_
              refine fr_cond (t := 113) h126 rfl (fun hb => ?_) (fun hb => ?_)
              ·have hc127 : 7 < xk := of_decide_eq_true hb
               clear hb
               refine wp_seq_k ?_
               intro K128 hK128
               refine fr_region ?_
               intro ops hops
               clear hops
               refine St.go h126 ?_; clear h126 a126
               refine sa trivial rfl rfl ?_
               refine St.nil fun a129 h129 => ?_
               refine hK128 _ _ ?_
               refine wp_ret ?_
               repeat (first | with_reducible refine of_then_ret ?_ | with_reducible refine of_block_ret ?_)
               have e7 := insForm_d hop hdd1.out hdd2.out hdd3.out hdd4.out hdd5.out hdd6.out hdd7.out (lm := lm)
               have R : insForm lm xop xa xb xc xk xn rl al = 1 := by rw [e7]; simp [hc81, hc102, hc114, hc118.out, hc125, hc127]
               exact ret_tmp (t := 4) h129 rfl rfl ⟨by rw [R], hW11.bel⟩
              ·have hc130 : ¬ (7 < xk) := of_decide_eq_false hb
               clear hb
               refine wp_skip ?_
               refine hK82 _ _ ?_
               refine wp_seq_k ?_
               intro K131 hK131
               refine fr_region ?_
               intro ops hops
               clear hops
               refine St.go h126 ?_; clear h126 a126
               refine sa trivial rfl rfl ?_
               refine St.nil fun a132 h132 => ?_
               refine hK131 _ _ ?_
               refine wp_ret ?_
               repeat (first | with_reducible refine of_then_ret ?_ | with_reducible refine of_block_ret ?_)
               have e7 := insForm_d hop hdd1.out hdd2.out hdd3.out hdd4.out hdd5.out hdd6.out hdd7.out (lm := lm)
               have R : insForm lm xop xa xb xc xk xn rl al = 0 := by rw [e7]; simp [hc81, hc102, hc114, hc118.out, hc125, hc130]
               exact ret_tmp (t := 4) h132 rfl rfl ⟨by rw [R], hW11.bel⟩
            ·rw [hb] at h117
             have h9 : ¬ xop = 6 := ne_of_beq_false hb
             have hc133 : ¬ xop = 6 := h9
             clear h9
             clear hb
             refine fr_region ?_
             intro ops hops
             clear hops
             refine St.go h117 ?_; clear h117 a117
             refine seq trivial rfl rfl rfl ?_
             refine sa trivial rfl rfl ?_
             refine St.nil fun a134 h134 => ?_
             refine hK115 _ _ ?_
             refine fr_cond (t := 103) h134 rfl (fun hb => ?_) (fun hb => ?_)
             ·rw [hb] at h134
              have h9 : xop = 7 := eq_of_beq hb
              have hc135 : Hid (xop = 7) := h9
              clear h9
              clear hb
              refine wp_seq_k ?_
              intro K136 hK136
              refine fr_region ?_
              intro ops hops
              have hg3 : (ops[3]?).bind (fun o : Oper => o.dst) = some 109 := hops 3
              clear hops
              refine St.go h134 ?_; clear h134 a134
              refine sfIns4 trivial rfl rfl ?_
              refine sbInt 1 hW11 trivial rfl rfl rfl rfl ?_
              refine slt trivial rfl rfl rfl ?_
              refine sm trivial rfl rfl ?_
              intro a137 h137
              rcases Bool.eq_false_or_eq_true (decide (xk < 0)) with hb | hb
              ·rw [hb] at h137
               have hc138 : xk < 0 := of_decide_eq_true hb
               clear hb
               refine St.go h137 ?_; clear h137 a137
               refine so hg3 rfl rfl rfl rfl ?_
               refine so hg3 rfl rfl rfl rfl ?_
               refine so hg3 rfl rfl rfl rfl ?_
               refine sp trivial rfl rfl rfl ?_
               refine St.nil fun a139 h139 => ?_
               refine hK136 _ _ ?_
               refine fr_true (t := 113) h139 rfl ?_
               refine wp_seq_k ?_
               intro K140 hK140
               refine fr_region ?_
               intro ops hops
               clear hops
               refine St.go h139 ?_; clear h139 a139
               refine sa trivial rfl rfl ?_
               refine St.nil fun a141 h141 => ?_
               refine hK140 _ _ ?_
               refine wp_ret ?_
               repeat (first | with_reducible refine of_then_ret ?_ | with_reducible refine of_block_ret ?_)
               have e7 := insForm_d hop hdd1.out hdd2.out hdd3.out hdd4.out hdd5.out hdd6.out hdd7.out (lm := lm)
               have R : insForm lm xop xa xb xc xk xn rl al = 1 := by rw [e7]; simp [hc81, hc102, hc114, hc133, hc135.out, hc138]
               exact ret_tmp (t := 4) h141 rfl rfl ⟨by rw [R], hW11.bel⟩
              ·rw [hb] at h137
               have hc142 : ¬ (xk < 0) := of_decide_eq_false hb
               clear hb
               refine St.go h137 ?_; clear h137 a137
               refine sfIns4 ⟨_, hg3, rfl, rfl⟩ rfl rfl ?_
               refine sbInt 1 hW11 ⟨_, hg3, rfl, rfl⟩ rfl rfl rfl rfl ?_
               refine sgt ⟨_, hg3, rfl, rfl⟩ rfl rfl rfl ?_
               refine spf trivial rfl rfl rfl ?_
               refine St.nil fun a143 h143 => ?_
               refine hK136 _ _ ?_
               refine fr_cond (t := 113) h143 rfl (fun hb => ?_) (fun hb => ?_)
               ·have hc144 : 7 < xk := of_decide_eq_true hb
                clear hb
                refine wp_seq_k ?_
                intro K145 hK145
                refine fr_region ?_
                intro ops hops
                clear hops
                refine St.go h143 ?_; clear h143 a143
                refine sa trivial rfl rfl ?_
                refine St.nil fun a146 h146 => ?_
                refine hK145 _ _ ?_
                refine wp_ret ?_
                repeat (first | with_reducible refine of_then_ret ?_ | with_reducible refine of_block_ret ?_)
                have e7 := insForm_d hop hdd1.out hdd2.out hdd3.out hdd4.out hdd5.out hdd6.out hdd7.out (lm := lm)
                have R : insForm lm xop xa xb xc xk xn rl al = 1 := by rw [e7]; simp [hc81, hc102, hc114, hc133, hc135.out, hc142, hc144]
                exact ret_tmp (t := 4) h146 rfl rfl ⟨by rw [R], hW11.bel⟩
               ·have hc147 : ¬ (7 < xk) := of_decide_eq_false hb
                clear hb
                refine wp_skip ?_
                refine hK82 _ _ ?_
                refine wp_seq_k ?_
                intro K148 hK148
                refine fr_region ?_
                intro ops hops
                clear hops
                refine St.go h143 ?_; clear h143 a143
                refine sa trivial rfl rfl ?_
                refine St.nil fun a149 h149 => ?_
                refine hK148 _ _ ?_
                refine wp_ret ?_
                repeat (first | with_reducible refine of_then_ret ?_ | with_reducible refine of_block_ret ?_)
                have e7 := insForm_d hop hdd1.out hdd2.out hdd3.out hdd4.out hdd5.out hdd6.out hdd7.out (lm := lm)
                have R : insForm lm xop xa xb xc xk xn rl al = 0 := by rw [e7]; simp [hc81, hc102, hc114, hc133, hc135.out, hc142, hc147]
                exact ret_tmp (t := 4) h149 rfl rfl ⟨by rw [R], hW11.bel⟩
             ·rw [hb] at h134
              have h9 : ¬ xop = 7 := ne_of_beq_false hb
              have hc150 : ¬ xop = 7 := h9
              clear h9
              clear hb
              refine wp_seq_k ?_
              intro K151 hK151
              refine fr_region ?_
              intro ops hops
              clear hops
              refine St.go h134 ?_; clear h134 a134
              refine seq trivial rfl rfl rfl ?_
              refine sa trivial rfl rfl ?_
              refine St.nil fun a152 h152 => ?_
              refine hK151 _ _ ?_
              refine fr_cond (t := 114) h152 rfl (fun hb => ?_) (fun hb => ?_)
              ·have h9 : xop = 14 := eq_of_beq hb
               have hc153 : Hid (xop = 14) := h9
               clear h9
               clear hb
               refine wp_seq_k ?_
               intro K154 hK154
               refine wp_seq_k ?_
               intro K155 hK155
               refine fr_region ?_
               intro ops hops
               have hg3 : (ops[3]?).bind (fun o : Oper => o.dst) = some 119 := hops 3
               clear hops
               refine St.go h152 ?_; clear h152 a152
               refine sfIns4 trivial rfl rfl ?_
               refine sbInt 1 hW11 trivial rfl rfl rfl rfl ?_
               refine slt trivial rfl rfl rfl ?_
               refine sm trivial rfl rfl ?_
               intro a156 h156
               rcases Bool.eq_false_or_eq_true (decide (xk < 0)) with hb | hb
               ·rw [hb] at h156
                have hc157 : xk < 0 := of_decide_eq_true hb
                clear hb
                refine St.go h156 ?_; clear h156 a156
                refine so hg3 rfl rfl rfl rfl ?_
                refine so hg3 rfl rfl rfl rfl ?_
                refine so hg3 rfl rfl rfl rfl ?_
                refine so hg3 rfl rfl rfl rfl ?_
                refine so hg3 rfl rfl rfl rfl ?_
                refine so hg3 rfl rfl rfl rfl ?_
                refine sp trivial rfl rfl rfl ?_
                refine St.nil fun a158 h158 => ?_
                refine hK155 _ _ ?_
                refine fr_true (t := 126) h158 rfl ?_
                refine wp_seq_k ?_
                intro K159 hK159
                refine fr_region ?_
                intro ops hops
                clear hops
                refine St.go h158 ?_; clear h158 a158
                refine sa trivial rfl rfl ?_
                refine St.nil fun a160 h160 => ?_
                refine hK159 _ _ ?_
                refine wp_ret ?_
                repeat (first | with_reducible refine of_then_ret ?_ | with_reducible refine of_block_ret ?_)
                have e7 := insForm_d hop hdd1.out hdd2.out hdd3.out hdd4.out hdd5.out hdd6.out hdd7.out (lm := lm)
                have R : insForm lm xop xa xb xc xk xn rl al = 1 := by rw [e7]; simp [hc81, hc102, hc114, hc133, hc150, hc153.out, hc157]
                exact ret_tmp (t := 4) h160 rfl rfl ⟨by rw [R], hW11.bel⟩
               ·rw [hb] at h156
                have hc161 : ¬ (xk < 0) := of_decide_eq_false hb
                clear hb
                refine St.go h156 ?_; clear h156 a156
                refine sfIns4 ⟨_, hg3, rfl, rfl⟩ rfl rfl ?_
                refine sbInt 1 hW11 ⟨_, hg3, rfl, rfl⟩ rfl rfl rfl rfl ?_
                refine sfModule0 ⟨_, hg3, rfl, rfl⟩ rfl rfl ?_
                refine sbFuncs 2 hW11 ⟨_, hg3, rfl, rfl⟩ rfl rfl rfl rfl ?_
                refine slFuncs ⟨_, hg3, rfl, rfl⟩ rfl rfl ?_
                refine sge ⟨_, hg3, rfl, rfl⟩ rfl rfl rfl ?_
                refine spf trivial rfl rfl rfl ?_
                refine St.nil fun a162 h162 => ?_
                refine hK155 _ _ ?_
                refine fr_cond (t := 126) h162 rfl (fun hb => ?_) (fun hb => ?_)
                ·have hc163 : (lm : Int) ≤ xk := of_decide_eq_true hb
                 clear hb
                 refine wp_seq_k ?_
                 intro K164 hK164
                 refine fr_region ?_
                 intro ops hops
                 clear hops
                 refine St.go h162 ?_; clear h162 a162
                 refine sa trivial rfl rfl ?_
                 refine St.nil fun a165 h165 => ?_
                 refine hK164 _ _ ?_
                 refine wp_ret ?_
                 repeat (first | with_reducible refine of_then_ret ?_ | with_reducible refine of_block_ret ?_)
                 have e7 := insForm_d hop hdd1.out hdd2.out hdd3.out hdd4.out hdd5.out hdd6.out hdd7.out (lm := lm)
                 have R : insForm lm xop xa xb xc xk xn rl al = 1 := by rw [e7]; simp [hc81, hc102, hc114, hc133, hc150, hc153.out, hc161, hc163]
                 exact ret_tmp (t := 4) h165 rfl rfl ⟨by rw [R], hW11.bel⟩
                ·have hc166 : ¬ ((lm : Int) ≤ xk) := of_decide_eq_false hb
                 clear hb
                 refine wp_skip ?_
                 refine hK154 _ _ ?_
                 refine wp_seq_k ?_
                 intro K167 hK167
                 refine fr_region ?_
                 intro ops hops
                 have hg4 : (ops[4]?).bind (fun o : Oper => o.dst) = some 131 := hops 4
                 clear hops
                 refine St.go h162 ?_; clear h162 a162
                 refine sfIns6 trivial rfl rfl ?_
                 refine sbInts 1 hW11 trivial rfl rfl rfl rfl ?_
                 refine slInts trivial rfl rfl ?_
                 refine sgt trivial rfl rfl rfl ?_
                 refine sm trivial rfl rfl ?_
                 intro a168 h168
                 rcases Bool.eq_false_or_eq_true (decide (6 < (rl : Int))) with hb | hb
                 ·rw [hb] at h168
                  have hc169 : 6 < rl := by have := of_decide_eq_true hb; omega
                  clear hb
                  refine St.go h168 ?_; clear h168 a168
                  refine so hg4 rfl rfl rfl rfl ?_
                  refine so hg4 rfl rfl rfl rfl ?_
                  refine so hg4 rfl rfl rfl rfl ?_
                  refine so hg4 rfl rfl rfl rfl ?_
                  refine sp trivial rfl rfl rfl ?_
                  refine St.nil fun a170 h170 => ?_
                  refine hK167 _ _ ?_
                  refine fr_true (t := 136) h170 rfl ?_
                  refine wp_seq_k ?_
                  intro K171 hK171
                  refine fr_region ?_
                  intro ops hops
                  clear hops
                  refine St.go h170 ?_; clear h170 a170
                  refine sa trivial rfl rfl ?_
                  refine St.nil fun a172 h172 => ?_
                  refine hK171 _ _ ?_
                  refine wp_ret ?_
                  repeat (first | with_reducible refine of_then_ret ?_ | with_reducible refine of_block_ret ?_)
                  have e7 := insForm_d hop hdd1.out hdd2.out hdd3.out hdd4.out hdd5.out hdd6.out hdd7.out (lm := lm)
                  have R : insForm lm xop xa xb xc xk xn rl al = 2 := by rw [e7]; simp [hc81, hc102, hc114, hc133, hc150, hc153.out, hc161, hc166, hc169]
                  exact ret_tmp (t := 4) h172 rfl rfl ⟨by rw [R], hW11.bel⟩
                 ·rw [hb] at h168
                  have hc173 : ¬ (6 < rl) := by have := of_decide_eq_false hb; omega
                  clear hb
                  refine St.go h168 ?_; clear h168 a168
                  refine sfIns7 ⟨_, hg4, rfl, rfl⟩ rfl rfl ?_
                  refine sbInts 1 hW11 ⟨_, hg4, rfl, rfl⟩ rfl rfl rfl rfl ?_
                  refine slInts ⟨_, hg4, rfl, rfl⟩ rfl rfl ?_
                  refine sgt ⟨_, hg4, rfl, rfl⟩ rfl rfl rfl ?_
                  refine spf trivial rfl rfl rfl ?_
                  refine St.nil fun a174 h174 => ?_
                  refine hK167 _ _ ?_
                  refine fr_cond (t := 136) h174 rfl (fun hb => ?_) (fun hb => ?_)
                  ·have hc175 : 8 < al := by have := of_decide_eq_true hb; omega
                   clear hb
                   refine wp_seq_k ?_
                   intro K176 hK176
                   refine fr_region ?_
                   intro ops hops
                   clear hops
                   refine St.go h174 ?_; clear h174 a174
                   refine sa trivial rfl rfl ?_
                   refine St.nil fun a177 h177 => ?_
                   refine hK176 _ _ ?_
                   refine wp_ret ?_
                   repeat (first | with_reducible refine of_then_ret ?_ | with_reducible refine of_block_ret ?_)
                   have e7 := insForm_d hop hdd1.out hdd2.out hdd3.out hdd4.out hdd5.out hdd6.out hdd7.out (lm := lm)
                   have R : insForm lm xop xa xb xc xk xn rl al = 2 := by rw [e7]; simp [hc81, hc102, hc114, hc133, hc150, hc153.out, hc161, hc166, hc173, hc175]
                   exact ret_tmp (t := 4) h177 rfl rfl ⟨by rw [R], hW11.bel⟩
                  ·have hc178 : ¬ (8 < al) := by have := of_decide_eq_false hb; omega
                   clear hb
                   refine wp_skip ?_
                   refine hK82 _ _ ?_
                   refine wp_seq_k ?_
                   intro K179 hK179
                   refine fr_region ?_
                   intro ops hops
                   clear hops
                   refine St.go h174 ?_; clear h174 a174
                   refine sa trivial rfl rfl ?_
                   refine St.nil fun a180 h180 => ?_
                   refine hK179 _ _ ?_
                   refine wp_ret ?_
                   repeat (first | with_reducible refine of_then_ret ?_ | with_reducible refine of_block_ret ?_)
                   have e7 := insForm_d hop hdd1.out hdd2.out hdd3.out hdd4.out hdd5.out hdd6.out hdd7.out (lm := lm)
                   have R : insForm lm xop xa xb xc xk xn rl al = 0 := by rw [e7]; simp [hc81, hc102, hc114, hc133, hc150, hc153.out, hc161, hc166, hc173, hc178]
                   exact ret_tmp (t := 4) h180 rfl rfl ⟨by rw [R], hW11.bel⟩
              ·have h9 : ¬ xop = 14 := ne_of_beq_false hb
               have hc181 : ¬ xop = 14 := h9
               clear h9
               clear hb
               refine wp_skip ?_
               refine hK82 _ _ ?_
               refine wp_seq_k ?_
               intro K182 hK182
               refine fr_region ?_
               intro ops hops
               clear hops
               refine St.go h152 ?_; clear h152 a152
               refine sa trivial rfl rfl ?_
               refine St.nil fun a183 h183 => ?_
               refine hK182 _ _ ?_
               refine wp_ret ?_
               repeat (first | with_reducible refine of_then_ret ?_ | with_reducible refine of_block_ret ?_)
               have e7 := insForm_d hop hdd1.out hdd2.out hdd3.out hdd4.out hdd5.out hdd6.out hdd7.out (lm := lm)
               have R : insForm lm xop xa xb xc xk xn rl al = 0 := by rw [e7]; simp [hc81, hc102, hc114, hc133, hc150, hc181]
               exact ret_tmp (t := 4) h183 rfl rfl ⟨by rw [R], hW11.bel⟩

set_option maxHeartbeats 4000000 in
set_option maxRecDepth 100000 in
theorem insFNo {xop : Int} (hop : fieldsOf xop = none) (xa xb xc xk xn : Int) (am ra aa : Option Addr) (lm cm rl rc al ac : Nat) (w : World) :
    Rd Try.prog 21 #[.agg #[.slice am lm cm], .agg #[.int .i64 xop, .int .i64 xa, .int .i64 xb, .int .i64 xc, .int .i64 xk, .int .i64 xn, .slice ra rl rc, .slice aa al ac]] w (.int .i64 (insForm lm xop xa xb xc xk xn rl al)) := by
  refine fr_enter (n := 137) Try.func21 rfl rfl rfl ?_
  intro a hF
  have hW := Wd.start w
  replace hF : Fr 137 a [(0, .agg #[.slice am lm cm]), (1, .agg #[.int .i64 xop, .int .i64 xa, .int .i64 xb, .int .i64 xc, .int .i64 xk, .int .i64 xn, .slice ra rl rc, .slice aa al ac])] := hF
  refine wp_seq_k ?_
  intro K1 hK1
  refine fr_region ?_
  intro ops hops
  clear hops
  refine St.go hF ?_; clear hF a
  refine sB hW trivial rfl rfl ?_
  clear hW; intro w2 B2 hW2 hN; clear hN
  refine sB hW2 trivial rfl rfl ?_
  clear hW2; intro w3 B3 hW3 hN; clear hN
  refine sa trivial rfl rfl ?_
  refine St.nil fun a4 h4 => ?_
  refine hK1 _ _ ?_
  refine wp_seq_k ?_
  intro K5 hK5
  refine fr_region ?_
  intro ops hops
  clear hops
  refine St.go h4 ?_; clear h4 a4
  refine sfIns0 trivial rfl rfl ?_
  refine sbInt 0 hW3 trivial rfl rfl rfl rfl ?_
  refine sc_1 cf60 hW3 (rdFieldsNo hop w3) trivial rfl rfl ?_
  clear hW3; intro w6 hW6
  refine sm trivial rfl rfl ?_
  intro a7 h7
  refine fr_pure (t := 11) (v := .agg #[.bool false, .bool false, .bool false, .bool false, .bool false, .bool false, .bool false]) (w' := w6) h7 rfl rfl rfl (fun K hK => ?_) ?_
  ·have k0 : a7.tmps.getD 7 undef = .tuple #[.agg #[.bool false, .bool false, .bool false, .bool false, .bool false, .bool false, .bool false], .bool false] := h7.sl 7 _ rfl
   go_simp
   exact hK
  clear h7; intro a8 hF8
  refine fr_pure (t := 12) (v := .bool false) (w' := w6) hF8 rfl rfl rfl (fun K hK => ?_) ?_
  ·have k0 : a8.tmps.getD 7 undef = .tuple #[.agg #[.bool false, .bool false, .bool false, .bool false, .bool false, .bool false, .bool false], .bool false] := hF8.sl 7 _ rfl
   go_simp
   exact hK
  clear hF8; intro a9 hF9
  refine St.go hF9 ?_; clear hF9 a9
  refine sAFields hW6 trivial rfl ?_
  clear hW6; intro w10 B10 hW10 hN; clear hN
  refine sT 0 hW10 rfl rfl infFields rfl rfl rfl ?_
  clear hW10; intro w11 hW11
  refine sa trivial rfl rfl ?_
  refine St.nil fun a12 h12 => ?_
  refine hK5 _ _ ?_
  refine wp_seq_k ?_
  intro K13 hK13
  refine wp_seq_k ?_
  intro K14 hK14
  refine fr_region ?_
  intro ops hops
  clear hops
  refine St.go h12 ?_; clear h12 a12
  refine sm trivial rfl rfl ?_
  refine sn trivial rfl rfl ?_
  refine St.nil fun a15 h15 => ?_
  refine hK14 _ _ ?_
  refine fr_true (t := 14) h15 rfl ?_
  refine wp_seq_k ?_
  intro K16 hK16
  refine fr_region ?_
  intro ops hops
  clear hops
  refine St.go h15 ?_; clear h15 a15
  refine sa trivial rfl rfl ?_
  refine St.nil fun a17 h17 => ?_
  refine hK16 _ _ ?_
  refine wp_ret ?_
  repeat (first | with_reducible refine of_then_ret ?_ | with_reducible refine of_block_ret ?_)
  have R : insForm lm xop xa xb xc xk xn rl al = 3 := by simp [insForm, hop]
  exact ret_tmp (t := 4) h17 rfl rfl ⟨by rw [R], hW11.bel⟩
end Go.Proofs.Ytmnmnokkojcodab
