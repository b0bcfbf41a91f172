/-
  CodeDoes: the law's walk.
-/
import Derived.Test.YtmnmnokkojcodabCodBeg
import Derived.Test.YtmnmnokkojcodabCodGreat
import Derived.Test.YtmnmnokkojcodabCodOwnM
import Derived.Test.YtmnmnokkojcodabCodSameM
import Derived.Test.YtmnmnokkojcodabCodFlt2
import Derived.Test.YtmnmnokkojcodabCodChk4
namespace Go.Proofs.Ytmnmnokkojcodab
open Go.ChangeShapes Go.WideShapes Go.ChangeAt Go.RowKit
set_option linter.unusedVariables false
set_option linter.unusedSimpArgs false

set_option maxHeartbeats 4000000 in
set_option maxRecDepth 100000 in
theorem does_any {n : Nat} {m k : List (MFunc n)} {p p2 : Option Addr} {c d : Nat} {w : World} (hm0 : (modL n).In w All m [.slice p m.length c]) (hk0 : (modL n).In w All k [.slice p2 k.length d]) :
    Rd Try.prog 4 #[.agg #[.slice p m.length c], .agg #[.slice p2 k.length d]] w (.bool true) := by
  have hm : Hid _ := hm0
  have hk : Hid _ := hk0
  clear hm0 hk0
  refine fr_enter (n := 41) Try.func4 rfl rfl rfl ?_
  intro a hF
  have hW := Wd.start w
  replace hF : Fr 41 a [(0, .agg #[.slice p m.length c]), (1, .agg #[.slice p2 k.length d])] := hF
  refine wp_seq_k ?_
  intro K1 hK1
  refine fr_region ?_
  intro ops hops
  clear hops
  refine St.go hF ?_; clear hF a
  refine sB hW trivial rfl rfl ?_
  clear hW; intro w2 B2 hW2 hN; clear hN
  refine sB hW2 trivial rfl rfl ?_
  clear hW2; intro w3 B3 hW3 hN; clear hN
  refine sa trivial rfl rfl ?_
  refine St.nil fun a4 h4 => ?_
  refine hK1 _ _ ?_
  refine wp_seq_k ?_
  intro K5 hK5
  refine wp_seq_k ?_
  intro K6 hK6
  refine fr_region ?_
  intro ops hops
  clear hops
  refine St.go h4 ?_; clear h4 a4
  refine sc_0 cf12 hW3 (begun_any w3) trivial rfl ?_
  clear hW3; intro w7 hW7
  refine sn trivial rfl rfl ?_
  refine St.nil fun a8 h8 => ?_
  refine hK6 _ _ ?_
  refine fr_false (t := 7) h8 rfl ?_
  refine wp_skip ?_
  refine hK5 _ _ ?_
  refine wp_seq_k ?_
  intro K9 hK9
  refine wp_seq_k ?_
  intro K10 hK10
  refine fr_region ?_
  intro ops hops
  have hg2 : (ops[2]?).bind (fun o : Oper => o.dst) = some 10 := hops 2
  clear hops
  refine St.go h8 ?_; clear h8 a8
  refine sS 1 1 Try.underlying39 rfl infModule hW7 trivial rfl rfl rfl rfl ?_
  refine sc_1 cf13 hW7 (greatModule_any n m p c w7 (Lay.below hm.out hW7.bel)) trivial rfl rfl ?_
  clear hW7; intro w11 hW11
  refine sm trivial rfl rfl ?_
  intro a12 h12
  rcases Bool.eq_false_or_eq_true (bdec (greatMod m)) with hb | hb
  ·rw [hb] at h12
   have hgM : (greatMod m) := bdec_iff.1 hb
   clear hb
   refine St.go h12 ?_; clear h12 a12
   refine so hg2 rfl rfl rfl rfl ?_
   refine so hg2 rfl rfl rfl rfl ?_
   refine sp trivial rfl rfl rfl ?_
   refine St.nil fun a13 h13 => ?_
   refine hK10 _ _ ?_
   refine fr_true (t := 13) h13 rfl ?_
   refine wp_seq_k ?_
   intro K14 hK14
   refine fr_region ?_
   intro ops hops
   clear hops
   refine St.go h13 ?_; clear h13 a13
   refine sa trivial rfl rfl ?_
   refine St.nil fun a15 h15 => ?_
   refine hK14 _ _ ?_
   refine wp_ret ?_
   repeat (first | with_reducible refine of_then_ret ?_ | with_reducible refine of_block_ret ?_)
   exact ret_tmp (t := 4) h15 rfl rfl ⟨rfl, hW11.bel⟩
  ·rw [hb] at h12
   have hgM : ¬ (greatMod m) := fun h => by rw [bdec_true h] at hb; cases hb
   clear hb
   refine St.go h12 ?_; clear h12 a12
   refine sS 0 1 Try.underlying39 rfl infModule hW11 ⟨_, hg2, rfl, rfl⟩ rfl rfl rfl rfl ?_
   refine sc_1 cf13 hW11 (greatModule_any n k p2 d w11 (Lay.below hk.out hW11.bel)) ⟨_, hg2, rfl, rfl⟩ rfl rfl ?_
   clear hW11; intro w16 hW16
   refine spf trivial rfl rfl rfl ?_
   refine St.nil fun a17 h17 => ?_
   refine hK10 _ _ ?_
   refine fr_cond (t := 13) h17 rfl (fun hb => ?_) (fun hb => ?_)
   ·have hgK : (greatMod k) := bdec_iff.1 hb
    clear hb
    refine wp_seq_k ?_
    intro K18 hK18
    refine fr_region ?_
    intro ops hops
    clear hops
    refine St.go h17 ?_; clear h17 a17
    refine sa trivial rfl rfl ?_
    refine St.nil fun a19 h19 => ?_
    refine hK18 _ _ ?_
    refine wp_ret ?_
    repeat (first | with_reducible refine of_then_ret ?_ | with_reducible refine of_block_ret ?_)
    exact ret_tmp (t := 4) h19 rfl rfl ⟨rfl, hW16.bel⟩
   ·have hgK : ¬ (greatMod k) := fun h => by rw [bdec_true h] at hb; cases hb
    clear hb
    refine wp_skip ?_
    refine hK9 _ _ ?_
    refine wp_seq_k ?_
    intro K20 hK20
    refine fr_region ?_
    intro ops hops
    clear hops
    refine St.go h17 ?_; clear h17 a17
    refine sS 1 1 Try.underlying39 rfl infModule hW16 trivial rfl rfl rfl rfl ?_
    refine sn_1 cf14 hW16 (ownModule_any m _ _ _ (Lay.below hm.out hW16.bel) (msmall_of hgM)) trivial rfl rfl ?_
    rintro v9 w21 ⟨po, co, rfl, hO⟩ hb9 hW21
    replace hO := Lay.mono hO (O' := fun k => k < w21.heap.size) (fun k _ hl => hl)
    clear hb9 hW16
    refine sAModule hW21 trivial rfl ?_
    clear hW21; intro w22 B22 hW22 hN; replace hO := Lay.below hO hN.bel; have hB5 : Hid _ := hN.at_; clear hN
    refine sTk 0 hW22 rfl rfl infModule rfl rfl rfl ?_
    intro w23 hKp hW23
    replace hO := Lay.keepNe hO hKp (fun k hk e => by rw [e, hB5.out] at hk; exact Nat.lt_irrefl _ hk)
    clear hKp hW22
    refine St.nil fun a24 h24 => ?_
    refine hK20 _ _ ?_
    refine wp_seq_k ?_
    intro K25 hK25
    have hOO : Hid ((modL n).In w23 All m [.slice po m.length co]) := Lay.mono hO (fun _ _ _ => trivial)
    clear hO
    have hsm : Hid _ := msmall_of hgM
    have hF26 : Fr 41 a24 [(1, .agg #[.slice p2 k.length d]), (0, .agg #[.slice p m.length c]), (2, .pointer (some ⟨B2, 0, none⟩)), (3, .pointer (some ⟨B3, 0, none⟩)), (5, .pointer (some ⟨B22, 0, none⟩))] := (h24.keep (h24.keep (h24.keep (h24.keep (h24.keep h24.nil (t := 5) rfl) (t := 3) rfl) (t := 2) rfl) (t := 0) rfl) (t := 1) rfl)
    have ho5 : a24.tmps.getD 5 undef = .pointer (some ⟨B22, 0, none⟩) := h24.sl 5 _ rfl
    have ho2 : a24.tmps.getD 2 undef = .pointer (some ⟨B2, 0, none⟩) := h24.sl 2 _ rfl
    have ho3 : a24.tmps.getD 3 undef = .pointer (some ⟨B3, 0, none⟩) := h24.sl 3 _ rfl
    refine fr_draw_k 26 ([(5, fun v _ => v = .pointer (some ⟨B22, 0, none⟩)), (2, fun v _ => v = .pointer (some ⟨B2, 0, none⟩)), (3, fun v _ => v = .pointer (some ⟨B3, 0, none⟩)), (16, fun v _ => v = .agg #[.slice po m.length co]), (17, fun v _ => v = .agg #[.int .i64 ((modFault m).1), .int .i64 ((modFault m).2)]), (18, fun v _ => v = .agg #[.slice p m.length c]), (19, fun v _ => v = .agg #[.int .i64 ((modFault m).1), .int .i64 ((modFault m).2)]), (20, fun v _ => v = .bool true), (21, fun v _ => v = .bool true), (22, fun v _ => v = .agg #[.slice po m.length co]), (23, fun v w' => ∃ p c, v = .agg #[.slice p m.length c] ∧ (modL n).In w' All m [.slice p m.length c]), (24, fun v _ => v = .agg #[.slice p m.length c]), (25, fun v _ => v = .bool true), (26, fun v _ => v = .bool true), (27, fun v _ => v = .bool true), (28, fun v _ => v = .agg #[.slice po m.length co]), (29, fun v _ => v = .agg #[.slice p2 k.length d]), (30, fun v _ => v = .bool (bdec (m = k))), (31, fun v _ => v = .agg #[.slice p m.length c]), (32, fun v _ => v = .agg #[.slice p2 k.length d]), (33, fun v _ => v = .bool (bdec (m = k))), (34, fun v _ => v = .bool true), (35, fun v _ => v = .bool true), (36, fun v _ => v = .bool true), (37, fun v _ => v = .agg #[.slice po m.length co]), (38, fun v _ => v = .agg #[.slice p m.length c]), (39, fun v _ => v = .bool true), (40, fun v _ => v = .bool true), (4, fun v _ => v = .bool true)] : PTab) (fun w' => Wd w w' [(B22, #[.slice po m.length co], 39), (B3, #[.slice p2 k.length d], 39), (B2, #[.slice p m.length c], 39)] ∧ Below w23.heap.size w23 w') (fun w w' => Below w.heap.size w w') (outs := [5, 2, 3]) (gs := [(5, some true), (11, some true), (20, some true)]) (bs := [true, true, true, true, true, true, true, true, true, true, true, true, true, true, true, true, true, true, true, true, true, true, true, true, true, true]) (by kernel_rfl) hF26 rfl (by kernel_rfl) (by kernel_rfl) ?hR ?hG ⟨hW23.drewN 1, drewN_below (m := 1) (Below.refl _ _)⟩ ⟨ho5, ho2, ho3, trivial⟩ ?hA ?hend
    case hR => exact ⟨fun _ _ _ _ h => h, fun _ _ _ _ h => h, fun _ _ _ _ h => h, fun _ _ _ _ h => h, fun _ _ _ _ h => h, fun _ _ _ _ h => h, fun _ _ _ _ h => h, fun _ _ _ _ h => h, fun _ _ _ _ h => h, fun _ _ _ _ h => h, fun v w w' hr h => by obtain ⟨p, c, h1, h2⟩ := h; exact ⟨p, c, h1, Lay.below h2 hr⟩, fun _ _ _ _ h => h, fun _ _ _ _ h => h, fun _ _ _ _ h => h, fun _ _ _ _ h => h, fun _ _ _ _ h => h, fun _ _ _ _ h => h, fun _ _ _ _ h => h, fun _ _ _ _ h => h, fun _ _ _ _ h => h, fun _ _ _ _ h => h, fun _ _ _ _ h => h, fun _ _ _ _ h => h, fun _ _ _ _ h => h, fun _ _ _ _ h => h, fun _ _ _ _ h => h, fun _ _ _ _ h => h, fun _ _ _ _ h => h, fun _ _ _ _ h => h, trivial⟩
    case hG => exact ⟨fun t ht v w _ h => by cases ht; exact h, fun t ht v w _ h => by cases ht; exact h, fun t ht v w _ h => by cases ht; exact h, trivial⟩
    case hA =>
     refine ⟨fun a w hW hk K hK => ?_, ?_⟩
     · obtain ⟨k0, -⟩ := hk
       have k0 : a.tmps.getD 5 undef = .pointer (some ⟨B22, 0, none⟩) := k0
       have c0 : w.cell? ⟨B22, 0, none⟩ = some (.slice po m.length co) := cellOf (hW.1.get 0 rfl) 0 _ rfl
       go_simp
       exact hK _ _ (Below.refl _ _) hW rfl
     refine ⟨fun a w hW hk K hK => ?_, ?_⟩
     · obtain ⟨k0, -⟩ := hk
       have k0 : a.tmps.getD 16 undef = .agg #[.slice po m.length co] := k0
       have hC : Rd Try.prog 15 #[.agg #[.slice po m.length co]] w (.agg #[.int .i64 ((modFault m).1), .int .i64 ((modFault m).2)]) := cCheck_any (Lay.below hOO.out hW.2) hsm.out
       go_simp
       refine hC.mono ?_
       rintro e w9 ⟨rfl, hb⟩
       exact hK _ _ hb ⟨hW.1.below hb, Below.andThen hW.2 hb⟩ rfl
     refine ⟨fun a w hW hk K hK => ?_, ?_⟩
     · obtain ⟨k0, -⟩ := hk
       have k0 : a.tmps.getD 2 undef = .pointer (some ⟨B2, 0, none⟩) := k0
       have c0 : w.cell? ⟨B2, 0, none⟩ = some (.slice p m.length c) := cellOf (hW.1.get 2 rfl) 0 _ rfl
       go_simp
       exact hK _ _ (Below.refl _ _) hW rfl
     refine ⟨fun a w hW hk K hK => ?_, ?_⟩
     · obtain ⟨k0, -⟩ := hk
       have k0 : a.tmps.getD 18 undef = .agg #[.slice p m.length c] := k0
       have hC : Rd Try.prog 16 #[.agg #[.slice p m.length c]] w (.agg #[.int .i64 ((modFault m).1), .int .i64 ((modFault m).2)]) := codeFault_any (Lay.below hm.out hW.1.bel) hsm.out
       go_simp
       refine hC.mono ?_
       rintro e w9 ⟨rfl, hb⟩
       exact hK _ _ hb ⟨hW.1.below hb, Below.andThen hW.2 hb⟩ rfl
     refine ⟨fun a w hW hk K hK => ?_, ?_⟩
     · obtain ⟨k0, k1, -⟩ := hk
       have k0 : a.tmps.getD 17 undef = .agg #[.int .i64 ((modFault m).1), .int .i64 ((modFault m).2)] := k0
       have k1 : a.tmps.getD 19 undef = .agg #[.int .i64 ((modFault m).1), .int .i64 ((modFault m).2)] := k1
       go_simp
       exact hK _ _ (Below.refl _ _) hW rfl
     refine ⟨fun a w hW hk K hK => ?_, ?_⟩
     · obtain ⟨k0, -⟩ := hk
       have k0 : a.tmps.getD 20 undef = .bool true := k0
       go_simp
       exact hK _ _ (Below.refl _ _) hW rfl
     refine ⟨fun a w hW hk K hK => ?_, ?_⟩
     · obtain ⟨k0, -⟩ := hk
       have k0 : a.tmps.getD 5 undef = .pointer (some ⟨B22, 0, none⟩) := k0
       have c0 : w.cell? ⟨B22, 0, none⟩ = some (.slice po m.length co) := cellOf (hW.1.get 0 rfl) 0 _ rfl
       go_simp
       exact hK _ _ (Below.refl _ _) hW rfl
     refine ⟨fun a w hW hk K hK => ?_, ?_⟩
     · obtain ⟨k0, -⟩ := hk
       have k0 : a.tmps.getD 22 undef = .agg #[.slice po m.length co] := k0
       go_simp
       refine (cOwn_any m _ _ w (Lay.below hOO.out hW.2) hsm.out).mono ?_
       rintro e w9 ⟨v9, rfl, ⟨p9, c9, rfl, h9⟩, hb⟩
       exact hK _ _ hb ⟨hW.1.below hb, Below.andThen hW.2 hb⟩ ⟨p9, c9, rfl, Lay.mono h9 (fun _ _ _ => trivial)⟩
     refine ⟨fun a w hW hk K hK => ?_, ?_⟩
     · obtain ⟨k0, -⟩ := hk
       have k0 : a.tmps.getD 2 undef = .pointer (some ⟨B2, 0, none⟩) := k0
       have c0 : w.cell? ⟨B2, 0, none⟩ = some (.slice p m.length c) := cellOf (hW.1.get 2 rfl) 0 _ rfl
       go_simp
       exact hK _ _ (Below.refl _ _) hW rfl
     refine ⟨fun a w hW hk K hK => ?_, ?_⟩
     · obtain ⟨k0, k1, -⟩ := hk
       obtain ⟨p23, c23, k0, hN23⟩ := k0
       have k0 : a.tmps.getD 23 undef = .agg #[.slice p23 m.length c23] := k0
       have k1 : a.tmps.getD 24 undef = .agg #[.slice p m.length c] := k1
       have hC : Rd Try.prog 17 #[.agg #[.slice p23 m.length c23], .agg #[.slice p m.length c]] w (.bool true) := by have h9 := sameModule_any hN23 (Lay.below hm.out hW.1.bel) hsm.out; rwa [bdec_true rfl] at h9
       go_simp
       refine hC.mono ?_
       rintro e w9 ⟨rfl, hb⟩
       exact hK _ _ hb ⟨hW.1.below hb, Below.andThen hW.2 hb⟩ rfl
     refine ⟨fun a w hW hk K hK => ?_, ?_⟩
     · obtain ⟨k0, k1, -⟩ := hk
       have k0 : a.tmps.getD 21 undef = .bool true := k0
       have k1 : a.tmps.getD 25 undef = .bool true := k1
       go_simp
       exact hK _ _ (Below.refl _ _) hW rfl
     refine ⟨fun a w hW hk K hK => ?_, ?_⟩
     · obtain ⟨k0, -⟩ := hk
       have k0 : a.tmps.getD 26 undef = .bool true := k0
       go_simp
       exact hK _ _ (Below.refl _ _) hW rfl
     refine ⟨fun a w hW hk K hK => ?_, ?_⟩
     · obtain ⟨k0, -⟩ := hk
       have k0 : a.tmps.getD 5 undef = .pointer (some ⟨B22, 0, none⟩) := k0
       have c0 : w.cell? ⟨B22, 0, none⟩ = some (.slice po m.length co) := cellOf (hW.1.get 0 rfl) 0 _ rfl
       go_simp
       exact hK _ _ (Below.refl _ _) hW rfl
     refine ⟨fun a w hW hk K hK => ?_, ?_⟩
     · obtain ⟨k0, -⟩ := hk
       have k0 : a.tmps.getD 3 undef = .pointer (some ⟨B3, 0, none⟩) := k0
       have c0 : w.cell? ⟨B3, 0, none⟩ = some (.slice p2 k.length d) := cellOf (hW.1.get 1 rfl) 0 _ rfl
       go_simp
       exact hK _ _ (Below.refl _ _) hW rfl
     refine ⟨fun a w hW hk K hK => ?_, ?_⟩
     · obtain ⟨k0, k1, -⟩ := hk
       have k0 : a.tmps.getD 28 undef = .agg #[.slice po m.length co] := k0
       have k1 : a.tmps.getD 29 undef = .agg #[.slice p2 k.length d] := k1
       have hC : Rd Try.prog 19 #[.agg #[.slice po m.length co], .agg #[.slice p2 k.length d]] w (.bool (bdec (m = k))) := cSame_any (Lay.below hOO.out hW.2) (Lay.below hk.out hW.1.bel) hsm.out
       go_simp
       refine hC.mono ?_
       rintro e w9 ⟨rfl, hb⟩
       exact hK _ _ hb ⟨hW.1.below hb, Below.andThen hW.2 hb⟩ rfl
     refine ⟨fun a w hW hk K hK => ?_, ?_⟩
     · obtain ⟨k0, -⟩ := hk
       have k0 : a.tmps.getD 2 undef = .pointer (some ⟨B2, 0, none⟩) := k0
       have c0 : w.cell? ⟨B2, 0, none⟩ = some (.slice p m.length c) := cellOf (hW.1.get 2 rfl) 0 _ rfl
       go_simp
       exact hK _ _ (Below.refl _ _) hW rfl
     refine ⟨fun a w hW hk K hK => ?_, ?_⟩
     · obtain ⟨k0, -⟩ := hk
       have k0 : a.tmps.getD 3 undef = .pointer (some ⟨B3, 0, none⟩) := k0
       have c0 : w.cell? ⟨B3, 0, none⟩ = some (.slice p2 k.length d) := cellOf (hW.1.get 1 rfl) 0 _ rfl
       go_simp
       exact hK _ _ (Below.refl _ _) hW rfl
     refine ⟨fun a w hW hk K hK => ?_, ?_⟩
     · obtain ⟨k0, k1, -⟩ := hk
       have k0 : a.tmps.getD 31 undef = .agg #[.slice p m.length c] := k0
       have k1 : a.tmps.getD 32 undef = .agg #[.slice p2 k.length d] := k1
       have hC : Rd Try.prog 17 #[.agg #[.slice p m.length c], .agg #[.slice p2 k.length d]] w (.bool (bdec (m = k))) := sameModule_any (Lay.below hm.out hW.1.bel) (Lay.below hk.out hW.1.bel) hsm.out
       go_simp
       refine hC.mono ?_
       rintro e w9 ⟨rfl, hb⟩
       exact hK _ _ hb ⟨hW.1.below hb, Below.andThen hW.2 hb⟩ rfl
     refine ⟨fun a w hW hk K hK => ?_, ?_⟩
     · obtain ⟨k0, k1, -⟩ := hk
       have k0 : a.tmps.getD 30 undef = .bool (bdec (m = k)) := k0
       have k1 : a.tmps.getD 33 undef = .bool (bdec (m = k)) := k1
       go_simp
       exact hK _ _ (Below.refl _ _) hW rfl
     refine ⟨fun a w hW hk K hK => ?_, ?_⟩
     · obtain ⟨k0, k1, -⟩ := hk
       have k0 : a.tmps.getD 27 undef = .bool true := k0
       have k1 : a.tmps.getD 34 undef = .bool true := k1
       go_simp
       exact hK _ _ (Below.refl _ _) hW rfl
     refine ⟨fun a w hW hk K hK => ?_, ?_⟩
     · obtain ⟨k0, -⟩ := hk
       have k0 : a.tmps.getD 35 undef = .bool true := k0
       go_simp
       exact hK _ _ (Below.refl _ _) hW rfl
     refine ⟨fun a w hW hk K hK => ?_, ?_⟩
     · obtain ⟨k0, -⟩ := hk
       have k0 : a.tmps.getD 5 undef = .pointer (some ⟨B22, 0, none⟩) := k0
       have c0 : w.cell? ⟨B22, 0, none⟩ = some (.slice po m.length co) := cellOf (hW.1.get 0 rfl) 0 _ rfl
       go_simp
       exact hK _ _ (Below.refl _ _) hW rfl
     refine ⟨fun a w hW hk K hK => ?_, ?_⟩
     · obtain ⟨k0, -⟩ := hk
       have k0 : a.tmps.getD 2 undef = .pointer (some ⟨B2, 0, none⟩) := k0
       have c0 : w.cell? ⟨B2, 0, none⟩ = some (.slice p m.length c) := cellOf (hW.1.get 2 rfl) 0 _ rfl
       go_simp
       exact hK _ _ (Below.refl _ _) hW rfl
     refine ⟨fun a w hW hk K hK => ?_, ?_⟩
     · obtain ⟨k0, k1, -⟩ := hk
       have k0 : a.tmps.getD 37 undef = .agg #[.slice po m.length co] := k0
       have k1 : a.tmps.getD 38 undef = .agg #[.slice p m.length c] := k1
       have hC : Rd Try.prog 17 #[.agg #[.slice po m.length co], .agg #[.slice p m.length c]] w (.bool true) := by have h9 := sameModule_any (Lay.below hOO.out hW.2) (Lay.below hm.out hW.1.bel) hsm.out; rwa [bdec_true rfl] at h9
       go_simp
       refine hC.mono ?_
       rintro e w9 ⟨rfl, hb⟩
       exact hK _ _ hb ⟨hW.1.below hb, Below.andThen hW.2 hb⟩ rfl
     refine ⟨fun a w hW hk K hK => ?_, ?_⟩
     · obtain ⟨k0, k1, -⟩ := hk
       have k0 : a.tmps.getD 36 undef = .bool true := k0
       have k1 : a.tmps.getD 39 undef = .bool true := k1
       go_simp
       exact hK _ _ (Below.refl _ _) hW rfl
     refine ⟨fun a w hW hk K hK => ?_, ?_⟩
     · obtain ⟨k0, -⟩ := hk
       have k0 : a.tmps.getD 40 undef = .bool true := k0
       go_simp
       exact hK _ _ (Below.refl _ _) hW rfl
     trivial
    case hend =>
     intro ops a27 w27 hWD hE hFD
     have hd4 : a27.tmps.getD 4 undef = .bool true := hE 4 rfl
     have hF27 : Fr 41 a27 [(4, .bool true), (1, .agg #[.slice p2 k.length d]), (0, .agg #[.slice p m.length c]), (2, .pointer (some ⟨B2, 0, none⟩)), (3, .pointer (some ⟨B3, 0, none⟩)), (5, .pointer (some ⟨B22, 0, none⟩))] := (hFD.cons hd4)
     clear hd4
     have hW27 : Wd w w27 [(B22, #[.slice po m.length co], 39), (B3, #[.slice p2 k.length d], 39), (B2, #[.slice p m.length c], 39)] := hWD.1
     clear hFD hWD hE hF26 h24
     clear hW23
     refine wpList_nil ?_
     refine hK25 _ _ ?_
     refine wp_ret ?_
     repeat (first | with_reducible refine of_then_ret ?_ | with_reducible refine of_block_ret ?_)
     exact ret_tmp (t := 4) hF27 rfl rfl ⟨rfl, hW27.bel⟩
end Go.Proofs.Ytmnmnokkojcodab
