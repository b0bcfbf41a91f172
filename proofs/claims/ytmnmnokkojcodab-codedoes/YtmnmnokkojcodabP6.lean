import Derived.Test.YtmnmnokkojcodabP5
import Derived.SizedLaws
/-
  SameModule (the reference).
-/
namespace Go.Proofs.Ytmnmnokkojcodab
open Go.ChangeShapes Go.WideShapes Go.ChangeAt Go.RowKit
set_option linter.unusedVariables false
set_option linter.unusedSimpArgs false

set_option maxHeartbeats 4000000 in
set_option maxRecDepth 100000 in
theorem sameModule_any {n : Nat} {m k : List (MFunc n)} {p p2 : Option Addr} {c d : Nat} {w : World} (hm0 : (modL n).In w All m [.slice p m.length c]) (hk0 : (modL n).In w All k [.slice p2 k.length d]) (hs0 : msmall m) :
    Rd Try.prog 17 #[.agg #[.slice p m.length c], .agg #[.slice p2 k.length d]] w (.bool (bdec (m = k))) := by
  have hm : Hid _ := hm0
  have hk : Hid _ := hk0
  have hs : Hid _ := hs0
  have hcl := hs0.1
  clear hm0 hk0 hs0
  refine fr_enter (n := 82) Try.func17 rfl rfl rfl ?_
  intro a hF
  have hW := Wd.start w
  replace hF : Fr 82 a [(0, .agg #[.slice p m.length c]), (1, .agg #[.slice p2 k.length d])] := hF
  refine wp_seq_k fun K1 hK1 => ?_
  refine rg hF fun ops => ?_; clear hF a
  refine sB hW trivial rfl rfl ?_
  clear hW; intro w2 B2 hW2 hN; clear hN
  refine sB hW2 trivial rfl rfl ?_
  clear hW2; intro w3 B3 hW3 hN; clear hN
  refine sa trivial rfl rfl ?_
  refine St.nil fun a4 h4 => ?_
  refine hK1 _ _ ?_
  refine wp_seq_k fun K5 hK5 => ?_
  refine wp_seq_k fun K6 hK6 => ?_
  refine rg h4 fun ops => ?_; clear h4 a4
  refine sfModule0 trivial rfl rfl ?_
  refine sbFuncs 1 hW3 trivial rfl rfl rfl rfl ?_
  refine slFuncs trivial rfl rfl ?_
  refine sfModule0 trivial rfl rfl ?_
  refine sbFuncs 0 hW3 trivial rfl rfl rfl rfl ?_
  refine slFuncs trivial rfl rfl ?_
  refine sne trivial rfl rfl rfl ?_
  refine St.nil fun a7 h7 => ?_
  refine hK6 _ _ ?_
  refine fr_cond (t := 15) h7 rfl (fun hb => ?_) (fun hb => ?_)
  ·have h9 : ¬ m.length = k.length := by have h8 := bne_iff_ne.1 hb; omega
   have hlen : ¬ m.length = k.length := h9
   clear h9
   clear hb
   refine wp_seq_k fun K8 hK8 => ?_
   refine rg h7 fun ops => ?_; clear h7 a7
   refine sa trivial rfl rfl ?_
   refine St.nil fun a9 h9 => ?_
   refine hK8 _ _ ?_
   refine wp_ret ?_; with_reducible repeat first | refine of_then_ret ?_ | refine of_block_ret ?_
   have R : ¬ m = k := fun e => hlen (by rw [e])
   exact ret_tmp (t := 4) h9 rfl rfl ⟨by rw [bdec_false R], hW3.bel⟩
  have h9 : m.length = k.length := by have h8 := bne_eq_false_iff_eq.1 hb; omega
  have hlen : Hid (m.length = k.length) := h9
  clear h9
  clear hb
  refine wp_skip ?_
  refine hK5 _ _ ?_
  refine wp_seq_k fun K10 hK10 => ?_
  refine wp_seq_k fun K11 hK11 => ?_
  refine rg h7 fun ops => ?_; clear h7 a7
  refine sa trivial rfl rfl ?_
  refine St.nil fun a12 h12 => ?_
  refine hK11 _ _ ?_
  refine wp_block ?_
  refine fr_loop (fun r a w' => ∃ q : Nat, q ≤ m.length ∧ r = m.length - q ∧ (∀ j, j < q → m[j]? = k[j]?) ∧ Fr 82 a [(1, .agg #[.slice p2 k.length d]), (0, .agg #[.slice p m.length c]), (2, .pointer (some ⟨B2, 0, none⟩)), (3, .pointer (some ⟨B3, 0, none⟩)), (4, .bool false), (5, .int .i64 (q : Int))] ∧ Wd w w' [(B3, #[.slice p2 k.length d], 39), (B2, #[.slice p m.length c], 39)]) (m.length) ⟨0, Nat.zero_le _, rfl, (fun j hj => by omega), (h12.keep (h12.keep (h12.keep (h12.keep (h12.keep (h12.keep h12.nil (t := 5) rfl) (t := 4) rfl) (t := 3) rfl) (t := 2) rfl) (t := 0) rfl) (t := 1) rfl), hW3⟩ ?_
  clear h12 hW3
  rintro r a13 w13 ⟨q, hq, hr, hall, hF13, hW13⟩ KL hKL
  refine wp_seq_k fun K14 hK14 => ?_
  refine wp_seq_k fun K15 hK15 => ?_
  refine rg hF13 fun ops => ?_; clear hF13 a13
  refine sm trivial rfl rfl ?_
  refine sfModule0 trivial rfl rfl ?_
  refine sbFuncs 1 hW13 trivial rfl rfl rfl rfl ?_
  refine slFuncs trivial rfl rfl ?_
  refine slt trivial rfl rfl rfl ?_
  refine St.nil fun a16 h16 => ?_
  refine hK15 _ _ ?_
  refine fr_cond (t := 20) h16 rfl (fun hb => ?_) (fun hb => ?_)
  ·have hlt1 : q < m.length := by have := of_decide_eq_true hb; omega
   have hlt2 : q < k.length := by have := hlen.out; omega
   clear hb
   obtain ⟨x, hx1⟩ : ∃ v9, (m)[q]? = some v9 := ⟨_, List.getElem?_eq_getElem hlt1⟩
   obtain ⟨g1, o1, f1, hp1, E1, In1⟩ := func_at hm.out hx1
   replace In1 : Hid _ := In1
   replace hp1 : Hid _ := hp1
   replace hx1 : Hid _ := hx1
   replace E1 : Hid _ := E1
   obtain ⟨y, hx2⟩ : ∃ v9, (k)[q]? = some v9 := ⟨_, List.getElem?_eq_getElem hlt2⟩
   obtain ⟨g2, o2, f2, hp2, E2, In2⟩ := func_at hk.out hx2
   replace In2 : Hid _ := In2
   replace hp2 : Hid _ := hp2
   replace hx2 : Hid _ := hx2
   replace E2 : Hid _ := E2
   have hs1 : Hid _ := hs.out.2 x (List.mem_of_getElem? hx1.out)
   have hbl := hs1.out.1
   refine wp_skip ?_
   refine hK14 _ _ ?_
   refine wp_seq_k fun K17 hK17 => ?_
   refine wp_block ?_
   refine wp_seq_k fun K18 hK18 => ?_
   have hF19 : Fr 82 a16 [(1, .agg #[.slice p2 k.length d]), (0, .agg #[.slice p m.length c]), (2, .pointer (some ⟨B2, 0, none⟩)), (3, .pointer (some ⟨B3, 0, none⟩)), (4, .bool false), (5, .int .i64 (q : Int))] := (h16.keep (h16.keep (h16.keep (h16.keep (h16.keep (h16.keep h16.nil (t := 5) rfl) (t := 4) rfl) (t := 3) rfl) (t := 2) rfl) (t := 0) rfl) (t := 1) rfl)
   have ho2 : a16.tmps.getD 2 undef = .pointer (some ⟨B2, 0, none⟩) := h16.sl 2 _ rfl
   have ho5 : a16.tmps.getD 5 undef = .int .i64 (q : Int) := h16.sl 5 _ rfl
   have ho3 : a16.tmps.getD 3 undef = .pointer (some ⟨B3, 0, none⟩) := h16.sl 3 _ rfl
   refine fr_draw3 [(0, 23), (1, 24), (2, 25), (3, 26), (4, 27), (5, 28), (6, 29), (7, 30), (8, 31), (9, 32)] [(10, 6, 4, 50), (11, 7, 4, 50)] [(12, 6, 4, 50), (13, 7, 4, 50)] [(23, .pointer (some ⟨B2, 0, none⟩)), (24, .slice p m.length c), (25, .int .i64 (q : Int)), (26, .pointer (some ⟨g1, o1 + q * 4, none⟩)), (27, .agg #[.int .i64 x.regs, .slice f1.pP x.params.length f1.cP, .slice f1.pR x.results.length f1.cR, .slice f1.pB x.blocks.length f1.cB]), (28, .pointer (some ⟨B3, 0, none⟩)), (29, .slice p2 k.length d), (30, .int .i64 (q : Int)), (31, .pointer (some ⟨g2, o2 + q * 4, none⟩)), (32, .agg #[.int .i64 y.regs, .slice f2.pP y.params.length f2.cP, .slice f2.pR y.results.length f2.cR, .slice f2.pB y.blocks.length f2.cB])] [(6, [.int .i64 x.regs, .slice f1.pP x.params.length f1.cP, .slice f1.pR x.results.length f1.cR, .slice f1.pB x.blocks.length f1.cB]), (7, [.int .i64 y.regs, .slice f2.pP y.params.length f2.cP, .slice f2.pR y.results.length f2.cR, .slice f2.pB y.blocks.length f2.cB])] (by kernel_rfl) hF19 (by kernel_rfl) (by kernel_rfl) (fun hDB => ?hst) ?hend
   case hst =>
    refine ⟨fun S a1 w1 hS hd hcl hI K hK => ?_, ?_⟩
    · have hWd := hW13.below hI.bel
      have k0 : a1.tmps.getD 2 undef = .pointer (some ⟨B2, 0, none⟩) := (hI.outer 2 (by kernel_rfl)).trans ho2
      go_simp
      exact hK _ _ (DI.pure hDB hI (i := 0) (t := 23) (by decide) rfl hS (Below.refl _ _) (by kernel_rfl) (by kernel_rfl))
    refine ⟨fun S a1 w1 hS hd hcl hI K hK => ?_, ?_⟩
    · have hWd := hW13.below hI.bel
      have k0 : a1.tmps.getD 23 undef = .pointer (some ⟨B2, 0, none⟩) := hI.vals (0, 23) (by decide) (hd.at 0 (by kernel_rfl)) _ rfl
      have c0 : w1.cell? ⟨B2, 0, none⟩ = some (.slice p m.length c) := cellOf (hWd.get 1 rfl) 0 _ rfl
      go_simp
      exact hK _ _ (DI.pure hDB hI (i := 1) (t := 24) (by decide) rfl hS (Below.refl _ _) (by kernel_rfl) (by kernel_rfl))
    refine ⟨fun S a1 w1 hS hd hcl hI K hK => ?_, ?_⟩
    · have hWd := hW13.below hI.bel
      have k0 : a1.tmps.getD 5 undef = .int .i64 (q : Int) := (hI.outer 5 (by kernel_rfl)).trans ho5
      go_simp
      exact hK _ _ (DI.pure hDB hI (i := 2) (t := 25) (by decide) rfl hS (Below.refl _ _) (by kernel_rfl) (by kernel_rfl))
    refine ⟨fun S a1 w1 hS hd hcl hI K hK => ?_, ?_⟩
    · have hWd := hW13.below hI.bel
      have k0 : a1.tmps.getD 24 undef = .slice p m.length c := hI.vals (1, 24) (by decide) (hd.at 1 (by kernel_rfl)) _ rfl
      have k1 : a1.tmps.getD 25 undef = .int .i64 (q : Int) := hI.vals (2, 25) (by decide) (hd.at 2 (by kernel_rfl)) _ rfl
      have hpq := hp1.out
      have hk0 : (0 : Int) ≤ q := by omega
      have hk1 : (q : Int) < (m.length : Int) := by omega
      go_simp
      exact hK _ _ (DI.pure hDB hI (i := 3) (t := 26) (by decide) rfl hS (Below.refl _ _) (by kernel_rfl) (by kernel_rfl))
    refine ⟨fun S a1 w1 hS hd hcl hI K hK => ?_, ?_⟩
    · have hWd := hW13.below hI.bel
      have k0 : a1.tmps.getD 26 undef = .pointer (some ⟨g1, o1 + q * 4, none⟩) := hI.vals (3, 26) (by decide) (hd.at 3 (by kernel_rfl)) _ rfl
      have d0 : w1.cell? ⟨g1, o1 + q * 4, none⟩ = some (.int .i64 x.regs) := bel_cell hWd.bel (E1.out 0 _ rfl)
      have d1 : w1.cell? ⟨g1, o1 + q * 4 + 1, none⟩ = some (.slice f1.pP x.params.length f1.cP) := bel_cell hWd.bel (E1.out 1 _ rfl)
      have d2 : w1.cell? ⟨g1, o1 + q * 4 + 2, none⟩ = some (.slice f1.pR x.results.length f1.cR) := bel_cell hWd.bel (E1.out 2 _ rfl)
      have d3 : w1.cell? ⟨g1, o1 + q * 4 + 3, none⟩ = some (.slice f1.pB x.blocks.length f1.cB) := bel_cell hWd.bel (E1.out 3 _ rfl)
      go_simp
      exact hK _ _ (DI.pure hDB hI (i := 4) (t := 27) (by decide) rfl hS (Below.refl _ _) (by kernel_rfl) (by kernel_rfl))
    refine ⟨fun S a1 w1 hS hd hcl hI K hK => ?_, ?_⟩
    · have hWd := hW13.below hI.bel
      have k0 : a1.tmps.getD 3 undef = .pointer (some ⟨B3, 0, none⟩) := (hI.outer 3 (by kernel_rfl)).trans ho3
      go_simp
      exact hK _ _ (DI.pure hDB hI (i := 5) (t := 28) (by decide) rfl hS (Below.refl _ _) (by kernel_rfl) (by kernel_rfl))
    refine ⟨fun S a1 w1 hS hd hcl hI K hK => ?_, ?_⟩
    · have hWd := hW13.below hI.bel
      have k0 : a1.tmps.getD 28 undef = .pointer (some ⟨B3, 0, none⟩) := hI.vals (5, 28) (by decide) (hd.at 5 (by kernel_rfl)) _ rfl
      have c0 : w1.cell? ⟨B3, 0, none⟩ = some (.slice p2 k.length d) := cellOf (hWd.get 0 rfl) 0 _ rfl
      go_simp
      exact hK _ _ (DI.pure hDB hI (i := 6) (t := 29) (by decide) rfl hS (Below.refl _ _) (by kernel_rfl) (by kernel_rfl))
    refine ⟨fun S a1 w1 hS hd hcl hI K hK => ?_, ?_⟩
    · have hWd := hW13.below hI.bel
      have k0 : a1.tmps.getD 5 undef = .int .i64 (q : Int) := (hI.outer 5 (by kernel_rfl)).trans ho5
      go_simp
      exact hK _ _ (DI.pure hDB hI (i := 7) (t := 30) (by decide) rfl hS (Below.refl _ _) (by kernel_rfl) (by kernel_rfl))
    refine ⟨fun S a1 w1 hS hd hcl hI K hK => ?_, ?_⟩
    · have hWd := hW13.below hI.bel
      have k0 : a1.tmps.getD 29 undef = .slice p2 k.length d := hI.vals (6, 29) (by decide) (hd.at 6 (by kernel_rfl)) _ rfl
      have k1 : a1.tmps.getD 30 undef = .int .i64 (q : Int) := hI.vals (7, 30) (by decide) (hd.at 7 (by kernel_rfl)) _ rfl
      have hpq := hp2.out
      have hk0 : (0 : Int) ≤ q := by omega
      have hk1 : (q : Int) < (k.length : Int) := by omega
      go_simp
      exact hK _ _ (DI.pure hDB hI (i := 8) (t := 31) (by decide) rfl hS (Below.refl _ _) (by kernel_rfl) (by kernel_rfl))
    refine ⟨fun S a1 w1 hS hd hcl hI K hK => ?_, ?_⟩
    · have hWd := hW13.below hI.bel
      have k0 : a1.tmps.getD 31 undef = .pointer (some ⟨g2, o2 + q * 4, none⟩) := hI.vals (8, 31) (by decide) (hd.at 8 (by kernel_rfl)) _ rfl
      have d0 : w1.cell? ⟨g2, o2 + q * 4, none⟩ = some (.int .i64 y.regs) := bel_cell hWd.bel (E2.out 0 _ rfl)
      have d1 : w1.cell? ⟨g2, o2 + q * 4 + 1, none⟩ = some (.slice f2.pP y.params.length f2.cP) := bel_cell hWd.bel (E2.out 1 _ rfl)
      have d2 : w1.cell? ⟨g2, o2 + q * 4 + 2, none⟩ = some (.slice f2.pR y.results.length f2.cR) := bel_cell hWd.bel (E2.out 2 _ rfl)
      have d3 : w1.cell? ⟨g2, o2 + q * 4 + 3, none⟩ = some (.slice f2.pB y.blocks.length f2.cB) := bel_cell hWd.bel (E2.out 3 _ rfl)
      go_simp
      exact hK _ _ (DI.pure hDB hI (i := 9) (t := 32) (by decide) rfl hS (Below.refl _ _) (by kernel_rfl) (by kernel_rfl))
    refine ⟨fun S a1 w1 hS hd hcl hI K hK => ?_, ?_⟩
    · go_simp
      exact hK _ _ (DI.alloc hDB hI (i := 10) (t := 6) (s := 4) (ty := 50) (by decide) rfl hS hcl (by kernel_rfl) (by kernel_rfl))
    refine ⟨fun S a1 w1 hS hd hcl hI K hK => ?_, ?_⟩
    · go_simp
      exact hK _ _ (DI.alloc hDB hI (i := 11) (t := 7) (s := 4) (ty := 50) (by decide) rfl hS hcl (by kernel_rfl) (by kernel_rfl))
    refine ⟨fun S a1 w1 hS hd hcl hI K hK => ?_, ?_⟩
    · have k0 : a1.tmps.getD 27 undef = .agg #[.int .i64 x.regs, .slice f1.pP x.params.length f1.cP, .slice f1.pR x.results.length f1.cR, .slice f1.pB x.blocks.length f1.cB] := hI.vals (4, 27) (by decide) (hd.at 4 (by kernel_rfl)) _ rfl
      obtain ⟨B, kB, hlo, c0, hBk, hcs⟩ := hI.box (i := 10) (t := 6) (s := 4) (ty := 50) (by decide) (hd.at 10 (by kernel_rfl))
      exact wp_fill hBk kB k0 infFunc rfl hcs.symm (hK _ _ (DI.store hDB hI (i := 12) (t := 6) (s := 4) (ty := 50) (j := 10) (by decide) (by decide) (hd.at 10 (by kernel_rfl)) kB hBk hcs hlo rfl rfl hS hcl (by kernel_rfl) (by kernel_rfl)))
    refine ⟨fun S a1 w1 hS hd hcl hI K hK => ?_, ?_⟩
    · have k0 : a1.tmps.getD 32 undef = .agg #[.int .i64 y.regs, .slice f2.pP y.params.length f2.cP, .slice f2.pR y.results.length f2.cR, .slice f2.pB y.blocks.length f2.cB] := hI.vals (9, 32) (by decide) (hd.at 9 (by kernel_rfl)) _ rfl
      obtain ⟨B, kB, hlo, c0, hBk, hcs⟩ := hI.box (i := 11) (t := 7) (s := 4) (ty := 50) (by decide) (hd.at 11 (by kernel_rfl))
      exact wp_fill hBk kB k0 infFunc rfl hcs.symm (hK _ _ (DI.store hDB hI (i := 13) (t := 7) (s := 4) (ty := 50) (j := 11) (by decide) (by decide) (hd.at 11 (by kernel_rfl)) kB hBk hcs hlo rfl rfl hS hcl (by kernel_rfl) (by kernel_rfl)))
    trivial
   case hend =>
    intro S a20 w20 hS hD hFD
    obtain ⟨BD6, hd6, hBl6, hBk6⟩ := hD.full (j := 10) (i := 12) (t := 6) (s := 4) (ty := 50) (by decide) (hS _ (by decide)) (by decide) (hS _ (by decide)) rfl
    obtain ⟨BD7, hd7, hBl7, hBk7⟩ := hD.full (j := 11) (i := 13) (t := 7) (s := 4) (ty := 50) (by decide) (hS _ (by decide)) (by decide) (hS _ (by decide)) rfl
    have hF20 : Fr 82 a20 [(7, .pointer (some ⟨BD7, 0, none⟩)), (6, .pointer (some ⟨BD6, 0, none⟩)), (1, .agg #[.slice p2 k.length d]), (0, .agg #[.slice p m.length c]), (2, .pointer (some ⟨B2, 0, none⟩)), (3, .pointer (some ⟨B3, 0, none⟩)), (4, .bool false), (5, .int .i64 (q : Int))] := ((hFD.cons hd6).cons hd7)
    have hnB : BD6 ≠ BD7 := fun e => hD.ne (10, 6, 4, 50) (by decide) (11, 7, 4, 50) (by decide) (by decide) (hS _ (by decide)) (hS _ (by decide)) (by rw [hd6, hd7, e])
    have hW20 : Wd w w20 [(BD6, #[.int .i64 x.regs, .slice f1.pP x.params.length f1.cP, .slice f1.pR x.results.length f1.cR, .slice f1.pB x.blocks.length f1.cB], 50), (BD7, #[.int .i64 y.regs, .slice f2.pP y.params.length f2.cP, .slice f2.pR y.results.length f2.cR, .slice f2.pB y.blocks.length f2.cB], 50), (B3, #[.slice p2 k.length d], 39), (B2, #[.slice p m.length c], 39)] := Wd.add2 (hW13.below hD.bel) hW13 hBk6 hBk7 hnB hBl6 hBl7
    clear hS hD hFD hnB hW13 hd6 hd7
    clear hBl6 hBk6 hBl7 hBk7
    refine hK18 _ _ ?_
    refine wp_seq_k fun K21 hK21 => ?_
    refine wp_seq_k fun K22 hK22 => ?_
    refine fr_region ?_
    intro ops hops
    have hg5 : (ops[5]?).bind (fun o : Oper => o.dst) = some 38 := hops 5
    have hg13 : (ops[13]?).bind (fun o : Oper => o.dst) = some 46 := hops 13
    have hg21 : (ops[21]?).bind (fun o : Oper => o.dst) = some 54 := hops 21
    clear hops
    refine St.go hF20 ?_; clear hF20 a20
    refine sfFunc0 trivial rfl rfl ?_
    refine sbInt 0 hW20 trivial rfl rfl rfl rfl ?_
    refine sfFunc0 trivial rfl rfl ?_
    refine sbInt 1 hW20 trivial rfl rfl rfl rfl ?_
    refine sne trivial rfl rfl rfl ?_
    refine sm trivial rfl rfl ?_
    intro a23 h23
    rcases Bool.eq_false_or_eq_true (x.regs != y.regs) with hb | hb
    ·rw [hb] at h23
     have h9 : ¬ x.regs = y.regs := bne_iff_ne.1 hb
     have hc24 : ¬ x.regs = y.regs := h9
     clear h9
     clear hb
     refine St.go h23 ?_; clear h23 a23
     refine so hg5 rfl rfl rfl rfl ?_
     refine so hg5 rfl rfl rfl rfl ?_
     refine so hg5 rfl rfl rfl rfl ?_
     refine so hg5 rfl rfl rfl rfl ?_
     refine so hg5 rfl rfl rfl rfl ?_
     refine so hg5 rfl rfl rfl rfl ?_
     refine sp trivial rfl rfl rfl ?_
     refine sm trivial rfl rfl ?_
     refine so hg13 rfl rfl rfl rfl ?_
     refine so hg13 rfl rfl rfl rfl ?_
     refine so hg13 rfl rfl rfl rfl ?_
     refine so hg13 rfl rfl rfl rfl ?_
     refine so hg13 rfl rfl rfl rfl ?_
     refine so hg13 rfl rfl rfl rfl ?_
     refine sp trivial rfl rfl rfl ?_
     refine sm trivial rfl rfl ?_
     refine so hg21 rfl rfl rfl rfl ?_
     refine so hg21 rfl rfl rfl rfl ?_
     refine so hg21 rfl rfl rfl rfl ?_
     refine so hg21 rfl rfl rfl rfl ?_
     refine so hg21 rfl rfl rfl rfl ?_
     refine so hg21 rfl rfl rfl rfl ?_
     refine so hg21 rfl rfl rfl rfl ?_
     refine sp trivial rfl rfl rfl ?_
     refine St.nil fun a25 h25 => ?_
     refine hK22 _ _ ?_
     refine fr_true (t := 62) h25 rfl ?_
     refine wp_seq_k fun K26 hK26 => ?_
     refine rg h25 fun ops => ?_; clear h25 a25
     refine sa trivial rfl rfl ?_
     refine St.nil fun a27 h27 => ?_
     refine hK26 _ _ ?_
     refine wp_ret ?_; with_reducible repeat first | refine of_then_ret ?_ | refine of_block_ret ?_
     have RX : ¬ x = y := by
       intro e
       first
         | exact hlb (by rw [e])
         | exact hc24 (by rw [e])
     have R : ¬ m = k := by
       intro e
       have h1 := hx1.out
       rw [e, hx2.out] at h1
       exact RX (Option.some.inj h1).symm
     exact ret_tmp (t := 4) h27 rfl rfl ⟨by rw [bdec_false R], hW20.bel⟩
    rw [hb] at h23
    have h9 : x.regs = y.regs := bne_eq_false_iff_eq.1 hb
    have hc28 : Hid (x.regs = y.regs) := h9
    clear h9
    clear hb
    refine St.go h23 ?_; clear h23 a23
    refine sfFunc1 ⟨_, hg5, rfl, rfl⟩ rfl rfl ?_
    refine sbTypes 0 hW20 ⟨_, hg5, rfl, rfl⟩ rfl rfl rfl rfl ?_
    refine sfFunc1 ⟨_, hg5, rfl, rfl⟩ rfl rfl ?_
    refine sbTypes 1 hW20 ⟨_, hg5, rfl, rfl⟩ rfl rfl rfl rfl ?_
    refine sc_2 cf51 hW20 (sameTypes_any (Lay.below In1.out.params hW20.bel) (Lay.below In2.out.params hW20.bel) hs1.out.2.1) ⟨_, hg5, rfl, rfl⟩ rfl rfl rfl ?_
    clear hW20; intro w29 hW29
    refine sn ⟨_, hg5, rfl, rfl⟩ rfl rfl ?_
    refine spf trivial rfl rfl rfl ?_
    refine sm trivial rfl rfl ?_
    intro a30 h30
    rcases Bool.eq_false_or_eq_true (!(bdec (x.params = y.params))) with hb | hb
    ·rw [hb] at h30
     have hb : (bdec (x.params = y.params)) = false := by simpa using hb
     have hc31 : ¬ (x.params = y.params) := fun h => by rw [bdec_true h] at hb; cases hb
     clear hb
     refine St.go h30 ?_; clear h30 a30
     refine so hg13 rfl rfl rfl rfl ?_
     refine so hg13 rfl rfl rfl rfl ?_
     refine so hg13 rfl rfl rfl rfl ?_
     refine so hg13 rfl rfl rfl rfl ?_
     refine so hg13 rfl rfl rfl rfl ?_
     refine so hg13 rfl rfl rfl rfl ?_
     refine sp trivial rfl rfl rfl ?_
     refine sm trivial rfl rfl ?_
     refine so hg21 rfl rfl rfl rfl ?_
     refine so hg21 rfl rfl rfl rfl ?_
     refine so hg21 rfl rfl rfl rfl ?_
     refine so hg21 rfl rfl rfl rfl ?_
     refine so hg21 rfl rfl rfl rfl ?_
     refine so hg21 rfl rfl rfl rfl ?_
     refine so hg21 rfl rfl rfl rfl ?_
     refine sp trivial rfl rfl rfl ?_
     refine St.nil fun a32 h32 => ?_
     refine hK22 _ _ ?_
     refine fr_true (t := 62) h32 rfl ?_
     refine wp_seq_k fun K33 hK33 => ?_
     refine rg h32 fun ops => ?_; clear h32 a32
     refine sa trivial rfl rfl ?_
     refine St.nil fun a34 h34 => ?_
     refine hK33 _ _ ?_
     refine wp_ret ?_; with_reducible repeat first | refine of_then_ret ?_ | refine of_block_ret ?_
     have RX : ¬ x = y := by
       intro e
       first
         | exact hlb (by rw [e])
         | exact hc31 (by rw [e])
         | exact hc28 (by rw [e])
     have R : ¬ m = k := by
       intro e
       have h1 := hx1.out
       rw [e, hx2.out] at h1
       exact RX (Option.some.inj h1).symm
     exact ret_tmp (t := 4) h34 rfl rfl ⟨by rw [bdec_false R], hW29.bel⟩
    rw [hb] at h30
    have hb : (bdec (x.params = y.params)) = true := by simpa using hb
    have hc35 : (x.params = y.params) := bdec_iff.1 hb
    clear hb
    refine St.go h30 ?_; clear h30 a30
    refine sfFunc2 ⟨_, hg13, rfl, rfl⟩ rfl rfl ?_
    refine sbTypes 0 hW29 ⟨_, hg13, rfl, rfl⟩ rfl rfl rfl rfl ?_
    refine sfFunc2 ⟨_, hg13, rfl, rfl⟩ rfl rfl ?_
    refine sbTypes 1 hW29 ⟨_, hg13, rfl, rfl⟩ rfl rfl rfl rfl ?_
    refine sc_2 cf51 hW29 (sameTypes_any (Lay.below In1.out.results hW29.bel) (Lay.below In2.out.results hW29.bel) hs1.out.2.2.1) ⟨_, hg13, rfl, rfl⟩ rfl rfl rfl ?_
    clear hW29; intro w36 hW36
    refine sn ⟨_, hg13, rfl, rfl⟩ rfl rfl ?_
    refine spf trivial rfl rfl rfl ?_
    refine sm trivial rfl rfl ?_
    intro a37 h37
    rcases Bool.eq_false_or_eq_true (!(bdec (x.results = y.results))) with hb | hb
    ·rw [hb] at h37
     have hb : (bdec (x.results = y.results)) = false := by simpa using hb
     have hc38 : ¬ (x.results = y.results) := fun h => by rw [bdec_true h] at hb; cases hb
     clear hb
     refine St.go h37 ?_; clear h37 a37
     refine so hg21 rfl rfl rfl rfl ?_
     refine so hg21 rfl rfl rfl rfl ?_
     refine so hg21 rfl rfl rfl rfl ?_
     refine so hg21 rfl rfl rfl rfl ?_
     refine so hg21 rfl rfl rfl rfl ?_
     refine so hg21 rfl rfl rfl rfl ?_
     refine so hg21 rfl rfl rfl rfl ?_
     refine sp trivial rfl rfl rfl ?_
     refine St.nil fun a39 h39 => ?_
     refine hK22 _ _ ?_
     refine fr_true (t := 62) h39 rfl ?_
     refine wp_seq_k fun K40 hK40 => ?_
     refine rg h39 fun ops => ?_; clear h39 a39
     refine sa trivial rfl rfl ?_
     refine St.nil fun a41 h41 => ?_
     refine hK40 _ _ ?_
     refine wp_ret ?_; with_reducible repeat first | refine of_then_ret ?_ | refine of_block_ret ?_
     have RX : ¬ x = y := by
       intro e
       first
         | exact hlb (by rw [e])
         | exact hc38 (by rw [e])
         | exact hc35 (by rw [e])
         | exact hc28 (by rw [e])
     have R : ¬ m = k := by
       intro e
       have h1 := hx1.out
       rw [e, hx2.out] at h1
       exact RX (Option.some.inj h1).symm
     exact ret_tmp (t := 4) h41 rfl rfl ⟨by rw [bdec_false R], hW36.bel⟩
    rw [hb] at h37
    have hb : (bdec (x.results = y.results)) = true := by simpa using hb
    have hc42 : (x.results = y.results) := bdec_iff.1 hb
    clear hb
    refine St.go h37 ?_; clear h37 a37
    refine sfFunc3 ⟨_, hg21, rfl, rfl⟩ rfl rfl ?_
    refine sbBlocks 0 hW36 ⟨_, hg21, rfl, rfl⟩ rfl rfl rfl rfl ?_
    refine slBlocks ⟨_, hg21, rfl, rfl⟩ rfl rfl ?_
    refine sfFunc3 ⟨_, hg21, rfl, rfl⟩ rfl rfl ?_
    refine sbBlocks 1 hW36 ⟨_, hg21, rfl, rfl⟩ rfl rfl rfl rfl ?_
    refine slBlocks ⟨_, hg21, rfl, rfl⟩ rfl rfl ?_
    refine sne ⟨_, hg21, rfl, rfl⟩ rfl rfl rfl ?_
    refine spf trivial rfl rfl rfl ?_
    refine St.nil fun a43 h43 => ?_
    refine hK22 _ _ ?_
    refine fr_cond (t := 62) h43 rfl (fun hb => ?_) (fun hb => ?_)
    ·have h9 : ¬ x.blocks.length = y.blocks.length := by have h8 := bne_iff_ne.1 hb; omega
     have hlb : ¬ x.blocks.length = y.blocks.length := h9
     clear h9
     clear hb
     refine wp_seq_k fun K44 hK44 => ?_
     refine rg h43 fun ops => ?_; clear h43 a43
     refine sa trivial rfl rfl ?_
     refine St.nil fun a45 h45 => ?_
     refine hK44 _ _ ?_
     refine wp_ret ?_; with_reducible repeat first | refine of_then_ret ?_ | refine of_block_ret ?_
     have RX : ¬ x = y := by
       intro e
       first
         | exact hlb (by rw [e])
         | exact hc42 (by rw [e])
         | exact hc35 (by rw [e])
         | exact hc28 (by rw [e])
     have R : ¬ m = k := by
       intro e
       have h1 := hx1.out
       rw [e, hx2.out] at h1
       exact RX (Option.some.inj h1).symm
     exact ret_tmp (t := 4) h45 rfl rfl ⟨by rw [bdec_false R], hW36.bel⟩
    have h9 : x.blocks.length = y.blocks.length := by have h8 := bne_eq_false_iff_eq.1 hb; omega
    have hlb : Hid (x.blocks.length = y.blocks.length) := h9
    clear h9
    clear hb
    refine wp_skip ?_
    refine hK21 _ _ ?_
    refine wp_seq_k fun K46 hK46 => ?_
    refine rg h43 fun ops => ?_; clear h43 a43
    refine sa trivial rfl rfl ?_
    refine St.nil fun a47 h47 => ?_
    refine hK46 _ _ ?_
    refine wp_block ?_
    refine fr_loop (fun r a w' => ∃ qb : Nat, qb ≤ x.blocks.length ∧ r = x.blocks.length - qb ∧ (∀ j, j < qb → x.blocks[j]? = y.blocks[j]?) ∧ Fr 82 a [(1, .agg #[.slice p2 k.length d]), (0, .agg #[.slice p m.length c]), (2, .pointer (some ⟨B2, 0, none⟩)), (3, .pointer (some ⟨B3, 0, none⟩)), (4, .bool false), (5, .int .i64 (q : Int)), (6, .pointer (some ⟨BD6, 0, none⟩)), (7, .pointer (some ⟨BD7, 0, none⟩)), (8, .int .i64 (qb : Int))] ∧ Wd w w' [(BD6, #[.int .i64 x.regs, .slice f1.pP x.params.length f1.cP, .slice f1.pR x.results.length f1.cR, .slice f1.pB x.blocks.length f1.cB], 50), (BD7, #[.int .i64 y.regs, .slice f2.pP y.params.length f2.cP, .slice f2.pR y.results.length f2.cR, .slice f2.pB y.blocks.length f2.cB], 50), (B3, #[.slice p2 k.length d], 39), (B2, #[.slice p m.length c], 39)]) (x.blocks.length) ⟨0, Nat.zero_le _, rfl, (fun j hj => by omega), (h47.keep (h47.keep (h47.keep (h47.keep (h47.keep (h47.keep (h47.keep (h47.keep (h47.keep h47.nil (t := 8) rfl) (t := 7) rfl) (t := 6) rfl) (t := 5) rfl) (t := 4) rfl) (t := 3) rfl) (t := 2) rfl) (t := 0) rfl) (t := 1) rfl), hW36⟩ ?_
    clear h47 hW36
    rintro rb a48 w48 ⟨qb, hqb, hrb, hal2, hF48, hW48⟩ KLb hKLb
    refine wp_seq_k fun K49 hK49 => ?_
    refine wp_seq_k fun K50 hK50 => ?_
    refine rg hF48 fun ops => ?_; clear hF48 a48
    refine sm trivial rfl rfl ?_
    refine sfFunc3 trivial rfl rfl ?_
    refine sbBlocks 0 hW48 trivial rfl rfl rfl rfl ?_
    refine slBlocks trivial rfl rfl ?_
    refine slt trivial rfl rfl rfl ?_
    refine St.nil fun a51 h51 => ?_
    refine hK50 _ _ ?_
    refine fr_cond (t := 67) h51 rfl (fun hb => ?_) (fun hb => ?_)
    ·have hlt3 : qb < x.blocks.length := by have := of_decide_eq_true hb; omega
     have hlt4 : qb < y.blocks.length := by have := hlb.out; omega
     clear hb
     obtain ⟨z, hx3⟩ : ∃ v9, (x.blocks)[qb]? = some v9 := ⟨_, List.getElem?_eq_getElem hlt3⟩
     obtain ⟨g3, o3, b3, hp3, E3, In3⟩ := block_at In1.out.blocks hx3
     replace In3 : Hid _ := In3
     replace hp3 : Hid _ := hp3
     replace hx3 : Hid _ := hx3
     replace E3 : Hid _ := E3
     obtain ⟨u, hx4⟩ : ∃ v9, (y.blocks)[qb]? = some v9 := ⟨_, List.getElem?_eq_getElem hlt4⟩
     obtain ⟨g4, o4, b4, hp4, E4, In4⟩ := block_at In2.out.blocks hx4
     replace In4 : Hid _ := In4
     replace hp4 : Hid _ := hp4
     replace hx4 : Hid _ := hx4
     replace E4 : Hid _ := E4
     refine wp_skip ?_
     refine hK49 _ _ ?_
     refine wp_seq_k fun K52 hK52 => ?_
     refine wp_block ?_
     refine wp_seq_k fun K53 hK53 => ?_
     have hF54 : Fr 82 a51 [(1, .agg #[.slice p2 k.length d]), (0, .agg #[.slice p m.length c]), (2, .pointer (some ⟨B2, 0, none⟩)), (3, .pointer (some ⟨B3, 0, none⟩)), (4, .bool false), (5, .int .i64 (q : Int)), (6, .pointer (some ⟨BD6, 0, none⟩)), (7, .pointer (some ⟨BD7, 0, none⟩)), (8, .int .i64 (qb : Int))] := (h51.keep (h51.keep (h51.keep (h51.keep (h51.keep (h51.keep (h51.keep (h51.keep (h51.keep h51.nil (t := 8) rfl) (t := 7) rfl) (t := 6) rfl) (t := 5) rfl) (t := 4) rfl) (t := 3) rfl) (t := 2) rfl) (t := 0) rfl) (t := 1) rfl)
     have ho6 : a51.tmps.getD 6 undef = .pointer (some ⟨BD6, 0, none⟩) := h51.sl 6 _ rfl
     have ho8 : a51.tmps.getD 8 undef = .int .i64 (qb : Int) := h51.sl 8 _ rfl
     have ho7 : a51.tmps.getD 7 undef = .pointer (some ⟨BD7, 0, none⟩) := h51.sl 7 _ rfl
     refine fr_draw_k 12 ([(6, fun v _ => v = .pointer (some ⟨BD6, 0, none⟩)), (8, fun v _ => v = .int .i64 (qb : Int)), (7, fun v _ => v = .pointer (some ⟨BD7, 0, none⟩)), (70, fun v _ => v = .pointer (some ⟨BD6, 3, none⟩)), (71, fun v _ => v = .slice f1.pB x.blocks.length f1.cB), (72, fun v _ => v = .int .i64 (qb : Int)), (73, fun v _ => v = .pointer (some ⟨g3, o3 + qb * 12, none⟩)), (74, fun v _ => v = .agg #[.int .i64 z.regs, .slice b3.pP z.params.length b3.cP, .slice b3.pC z.code.length b3.cC, .int .i64 z.fin.op, .int .i64 z.fin.a, .int .i64 z.fin.yes.block, .slice b3.e.pYR z.fin.yes.regs.length b3.e.cYR, .slice b3.e.pYA z.fin.yes.args.length b3.e.cYA, .int .i64 z.fin.no.block, .slice b3.e.pNR z.fin.no.regs.length b3.e.cNR, .slice b3.e.pNA z.fin.no.args.length b3.e.cNA, .slice b3.e.pA z.fin.args.length b3.e.cA]), (75, fun v _ => v = .pointer (some ⟨BD7, 3, none⟩)), (76, fun v _ => v = .slice f2.pB y.blocks.length f2.cB), (77, fun v _ => v = .int .i64 (qb : Int)), (78, fun v _ => v = .pointer (some ⟨g4, o4 + qb * 12, none⟩)), (79, fun v _ => v = .agg #[.int .i64 u.regs, .slice b4.pP u.params.length b4.cP, .slice b4.pC u.code.length b4.cC, .int .i64 u.fin.op, .int .i64 u.fin.a, .int .i64 u.fin.yes.block, .slice b4.e.pYR u.fin.yes.regs.length b4.e.cYR, .slice b4.e.pYA u.fin.yes.args.length b4.e.cYA, .int .i64 u.fin.no.block, .slice b4.e.pNR u.fin.no.regs.length b4.e.cNR, .slice b4.e.pNA u.fin.no.args.length b4.e.cNA, .slice b4.e.pA u.fin.args.length b4.e.cA]), (80, fun v _ => v = .bool (bdec (z = u))), (81, fun v _ => v = .bool (!(bdec (z = u))))] : PTab) (fun w' => Wd w w' [(BD6, #[.int .i64 x.regs, .slice f1.pP x.params.length f1.cP, .slice f1.pR x.results.length f1.cR, .slice f1.pB x.blocks.length f1.cB], 50), (BD7, #[.int .i64 y.regs, .slice f2.pP y.params.length f2.cP, .slice f2.pR y.results.length f2.cR, .slice f2.pB y.blocks.length f2.cB], 50), (B3, #[.slice p2 k.length d], 39), (B2, #[.slice p m.length c], 39)] ∧ Below w48.heap.size w48 w') (fun w w' => Below w.heap.size w w') (outs := [6, 8, 7]) (gs := []) (bs := [true, true, true, true, true, true, true, true, true, true, true, true]) (by kernel_rfl) hF54 rfl (by kernel_rfl) (by kernel_rfl) ?hR ?hG ⟨hW48.drewN 1, drewN_below (m := 1) (Below.refl _ _)⟩ ⟨ho6, ho8, ho7, trivial⟩ ?hA ?hend
     case hR => exact ⟨fun _ _ _ _ h => h, fun _ _ _ _ h => h, fun _ _ _ _ h => h, fun _ _ _ _ h => h, fun _ _ _ _ h => h, fun _ _ _ _ h => h, fun _ _ _ _ h => h, fun _ _ _ _ h => h, fun _ _ _ _ h => h, fun _ _ _ _ h => h, fun _ _ _ _ h => h, fun _ _ _ _ h => h, fun _ _ _ _ h => h, fun _ _ _ _ h => h, fun _ _ _ _ h => h, trivial⟩
     case hG => exact trivial
     case hA =>
      refine ⟨fun a w hW hk K hK => ?_, ?_⟩
      · obtain ⟨k0, -⟩ := hk
        have k0 : a.tmps.getD 6 undef = .pointer (some ⟨BD6, 0, none⟩) := k0
        go_simp
        exact hK _ _ (Below.refl _ _) hW rfl
      refine ⟨fun a w hW hk K hK => ?_, ?_⟩
      · obtain ⟨k0, -⟩ := hk
        have k0 : a.tmps.getD 70 undef = .pointer (some ⟨BD6, 3, none⟩) := k0
        have c3 : w.cell? ⟨BD6, 3, none⟩ = some (.slice f1.pB x.blocks.length f1.cB) := cellOf (hW.1.get 0 rfl) 3 _ rfl
        go_simp
        exact hK _ _ (Below.refl _ _) hW rfl
      refine ⟨fun a w hW hk K hK => ?_, ?_⟩
      · obtain ⟨k0, -⟩ := hk
        have k0 : a.tmps.getD 8 undef = .int .i64 (qb : Int) := k0
        go_simp
        exact hK _ _ (Below.refl _ _) hW rfl
      refine ⟨fun a w hW hk K hK => ?_, ?_⟩
      · obtain ⟨k0, k1, -⟩ := hk
        have k0 : a.tmps.getD 71 undef = .slice f1.pB x.blocks.length f1.cB := k0
        have k1 : a.tmps.getD 72 undef = .int .i64 (qb : Int) := k1
        have hpq := hp3.out
        have hk0 : (0 : Int) ≤ qb := by omega
        have hk1 : (qb : Int) < (x.blocks.length : Int) := by omega
        go_simp
        exact hK _ _ (Below.refl _ _) hW rfl
      refine ⟨fun a w hW hk K hK => ?_, ?_⟩
      · obtain ⟨k0, -⟩ := hk
        have k0 : a.tmps.getD 73 undef = .pointer (some ⟨g3, o3 + qb * 12, none⟩) := k0
        have d0 : w.cell? ⟨g3, o3 + qb * 12, none⟩ = some (.int .i64 z.regs) := bel_cell hW.1.bel (E3.out 0 _ rfl)
        have d1 : w.cell? ⟨g3, o3 + qb * 12 + 1, none⟩ = some (.slice b3.pP z.params.length b3.cP) := bel_cell hW.1.bel (E3.out 1 _ rfl)
        have d2 : w.cell? ⟨g3, o3 + qb * 12 + 2, none⟩ = some (.slice b3.pC z.code.length b3.cC) := bel_cell hW.1.bel (E3.out 2 _ rfl)
        have d3 : w.cell? ⟨g3, o3 + qb * 12 + 3, none⟩ = some (.int .i64 z.fin.op) := bel_cell hW.1.bel (E3.out 3 _ rfl)
        have d4 : w.cell? ⟨g3, o3 + qb * 12 + 4, none⟩ = some (.int .i64 z.fin.a) := bel_cell hW.1.bel (E3.out 4 _ rfl)
        have d5 : w.cell? ⟨g3, o3 + qb * 12 + 5, none⟩ = some (.int .i64 z.fin.yes.block) := bel_cell hW.1.bel (E3.out 5 _ rfl)
        have d6 : w.cell? ⟨g3, o3 + qb * 12 + 6, none⟩ = some (.slice b3.e.pYR z.fin.yes.regs.length b3.e.cYR) := bel_cell hW.1.bel (E3.out 6 _ rfl)
        have d7 : w.cell? ⟨g3, o3 + qb * 12 + 7, none⟩ = some (.slice b3.e.pYA z.fin.yes.args.length b3.e.cYA) := bel_cell hW.1.bel (E3.out 7 _ rfl)
        have d8 : w.cell? ⟨g3, o3 + qb * 12 + 8, none⟩ = some (.int .i64 z.fin.no.block) := bel_cell hW.1.bel (E3.out 8 _ rfl)
        have d9 : w.cell? ⟨g3, o3 + qb * 12 + 9, none⟩ = some (.slice b3.e.pNR z.fin.no.regs.length b3.e.cNR) := bel_cell hW.1.bel (E3.out 9 _ rfl)
        have d10 : w.cell? ⟨g3, o3 + qb * 12 + 10, none⟩ = some (.slice b3.e.pNA z.fin.no.args.length b3.e.cNA) := bel_cell hW.1.bel (E3.out 10 _ rfl)
        have d11 : w.cell? ⟨g3, o3 + qb * 12 + 11, none⟩ = some (.slice b3.e.pA z.fin.args.length b3.e.cA) := bel_cell hW.1.bel (E3.out 11 _ rfl)
        go_simp
        exact hK _ _ (Below.refl _ _) hW rfl
      refine ⟨fun a w hW hk K hK => ?_, ?_⟩
      · obtain ⟨k0, -⟩ := hk
        have k0 : a.tmps.getD 7 undef = .pointer (some ⟨BD7, 0, none⟩) := k0
        go_simp
        exact hK _ _ (Below.refl _ _) hW rfl
      refine ⟨fun a w hW hk K hK => ?_, ?_⟩
      · obtain ⟨k0, -⟩ := hk
        have k0 : a.tmps.getD 75 undef = .pointer (some ⟨BD7, 3, none⟩) := k0
        have c3 : w.cell? ⟨BD7, 3, none⟩ = some (.slice f2.pB y.blocks.length f2.cB) := cellOf (hW.1.get 1 rfl) 3 _ rfl
        go_simp
        exact hK _ _ (Below.refl _ _) hW rfl
      refine ⟨fun a w hW hk K hK => ?_, ?_⟩
      · obtain ⟨k0, -⟩ := hk
        have k0 : a.tmps.getD 8 undef = .int .i64 (qb : Int) := k0
        go_simp
        exact hK _ _ (Below.refl _ _) hW rfl
      refine ⟨fun a w hW hk K hK => ?_, ?_⟩
      · obtain ⟨k0, k1, -⟩ := hk
        have k0 : a.tmps.getD 76 undef = .slice f2.pB y.blocks.length f2.cB := k0
        have k1 : a.tmps.getD 77 undef = .int .i64 (qb : Int) := k1
        have hpq := hp4.out
        have hk0 : (0 : Int) ≤ qb := by omega
        have hk1 : (qb : Int) < (y.blocks.length : Int) := by omega
        go_simp
        exact hK _ _ (Below.refl _ _) hW rfl
      refine ⟨fun a w hW hk K hK => ?_, ?_⟩
      · obtain ⟨k0, -⟩ := hk
        have k0 : a.tmps.getD 78 undef = .pointer (some ⟨g4, o4 + qb * 12, none⟩) := k0
        have d0 : w.cell? ⟨g4, o4 + qb * 12, none⟩ = some (.int .i64 u.regs) := bel_cell hW.1.bel (E4.out 0 _ rfl)
        have d1 : w.cell? ⟨g4, o4 + qb * 12 + 1, none⟩ = some (.slice b4.pP u.params.length b4.cP) := bel_cell hW.1.bel (E4.out 1 _ rfl)
        have d2 : w.cell? ⟨g4, o4 + qb * 12 + 2, none⟩ = some (.slice b4.pC u.code.length b4.cC) := bel_cell hW.1.bel (E4.out 2 _ rfl)
        have d3 : w.cell? ⟨g4, o4 + qb * 12 + 3, none⟩ = some (.int .i64 u.fin.op) := bel_cell hW.1.bel (E4.out 3 _ rfl)
        have d4 : w.cell? ⟨g4, o4 + qb * 12 + 4, none⟩ = some (.int .i64 u.fin.a) := bel_cell hW.1.bel (E4.out 4 _ rfl)
        have d5 : w.cell? ⟨g4, o4 + qb * 12 + 5, none⟩ = some (.int .i64 u.fin.yes.block) := bel_cell hW.1.bel (E4.out 5 _ rfl)
        have d6 : w.cell? ⟨g4, o4 + qb * 12 + 6, none⟩ = some (.slice b4.e.pYR u.fin.yes.regs.length b4.e.cYR) := bel_cell hW.1.bel (E4.out 6 _ rfl)
        have d7 : w.cell? ⟨g4, o4 + qb * 12 + 7, none⟩ = some (.slice b4.e.pYA u.fin.yes.args.length b4.e.cYA) := bel_cell hW.1.bel (E4.out 7 _ rfl)
        have d8 : w.cell? ⟨g4, o4 + qb * 12 + 8, none⟩ = some (.int .i64 u.fin.no.block) := bel_cell hW.1.bel (E4.out 8 _ rfl)
        have d9 : w.cell? ⟨g4, o4 + qb * 12 + 9, none⟩ = some (.slice b4.e.pNR u.fin.no.regs.length b4.e.cNR) := bel_cell hW.1.bel (E4.out 9 _ rfl)
        have d10 : w.cell? ⟨g4, o4 + qb * 12 + 10, none⟩ = some (.slice b4.e.pNA u.fin.no.args.length b4.e.cNA) := bel_cell hW.1.bel (E4.out 10 _ rfl)
        have d11 : w.cell? ⟨g4, o4 + qb * 12 + 11, none⟩ = some (.slice b4.e.pA u.fin.args.length b4.e.cA) := bel_cell hW.1.bel (E4.out 11 _ rfl)
        go_simp
        exact hK _ _ (Below.refl _ _) hW rfl
      refine ⟨fun a w hW hk K hK => ?_, ?_⟩
      · obtain ⟨k0, k1, -⟩ := hk
        have k0 : a.tmps.getD 74 undef = .agg #[.int .i64 z.regs, .slice b3.pP z.params.length b3.cP, .slice b3.pC z.code.length b3.cC, .int .i64 z.fin.op, .int .i64 z.fin.a, .int .i64 z.fin.yes.block, .slice b3.e.pYR z.fin.yes.regs.length b3.e.cYR, .slice b3.e.pYA z.fin.yes.args.length b3.e.cYA, .int .i64 z.fin.no.block, .slice b3.e.pNR z.fin.no.regs.length b3.e.cNR, .slice b3.e.pNA z.fin.no.args.length b3.e.cNA, .slice b3.e.pA z.fin.args.length b3.e.cA] := k0
        have k1 : a.tmps.getD 79 undef = .agg #[.int .i64 u.regs, .slice b4.pP u.params.length b4.cP, .slice b4.pC u.code.length b4.cC, .int .i64 u.fin.op, .int .i64 u.fin.a, .int .i64 u.fin.yes.block, .slice b4.e.pYR u.fin.yes.regs.length b4.e.cYR, .slice b4.e.pYA u.fin.yes.args.length b4.e.cYA, .int .i64 u.fin.no.block, .slice b4.e.pNR u.fin.no.regs.length b4.e.cNR, .slice b4.e.pNA u.fin.no.args.length b4.e.cNA, .slice b4.e.pA u.fin.args.length b4.e.cA] := k1
        have hC : Rd Try.prog 52 #[.agg #[.int .i64 z.regs, .slice b3.pP z.params.length b3.cP, .slice b3.pC z.code.length b3.cC, .int .i64 z.fin.op, .int .i64 z.fin.a, .int .i64 z.fin.yes.block, .slice b3.e.pYR z.fin.yes.regs.length b3.e.cYR, .slice b3.e.pYA z.fin.yes.args.length b3.e.cYA, .int .i64 z.fin.no.block, .slice b3.e.pNR z.fin.no.regs.length b3.e.cNR, .slice b3.e.pNA z.fin.no.args.length b3.e.cNA, .slice b3.e.pA z.fin.args.length b3.e.cA], .agg #[.int .i64 u.regs, .slice b4.pP u.params.length b4.cP, .slice b4.pC u.code.length b4.cC, .int .i64 u.fin.op, .int .i64 u.fin.a, .int .i64 u.fin.yes.block, .slice b4.e.pYR u.fin.yes.regs.length b4.e.cYR, .slice b4.e.pYA u.fin.yes.args.length b4.e.cYA, .int .i64 u.fin.no.block, .slice b4.e.pNR u.fin.no.regs.length b4.e.cNR, .slice b4.e.pNA u.fin.no.args.length b4.e.cNA, .slice b4.e.pA u.fin.args.length b4.e.cA]] w (.bool (bdec (z = u))) := sameBlock_any (In3.out.below hW.1.bel) (In4.out.below hW.1.bel) (hs1.out.2.2.2 z (List.mem_of_getElem? hx3.out))
        go_simp
        refine hC.mono ?_
        rintro e w9 ⟨rfl, hb⟩
        exact hK _ _ hb ⟨hW.1.below hb, Below.andThen hW.2 hb⟩ rfl
      refine ⟨fun a w hW hk K hK => ?_, ?_⟩
      · obtain ⟨k0, -⟩ := hk
        have k0 : a.tmps.getD 80 undef = .bool (bdec (z = u)) := k0
        go_simp
        exact hK _ _ (Below.refl _ _) hW rfl
      trivial
     case hend =>
      intro ops a55 w55 hWD hE hFD
      have hd81 : a55.tmps.getD 81 undef = .bool (!(bdec (z = u))) := hE 81 rfl
      have hF55 : Fr 82 a55 [(81, .bool (!(bdec (z = u)))), (1, .agg #[.slice p2 k.length d]), (0, .agg #[.slice p m.length c]), (2, .pointer (some ⟨B2, 0, none⟩)), (3, .pointer (some ⟨B3, 0, none⟩)), (4, .bool false), (5, .int .i64 (q : Int)), (6, .pointer (some ⟨BD6, 0, none⟩)), (7, .pointer (some ⟨BD7, 0, none⟩)), (8, .int .i64 (qb : Int))] := (hFD.cons hd81)
      clear hd81
      have hW55 : Wd w w55 [(BD6, #[.int .i64 x.regs, .slice f1.pP x.params.length f1.cP, .slice f1.pR x.results.length f1.cR, .slice f1.pB x.blocks.length f1.cB], 50), (BD7, #[.int .i64 y.regs, .slice f2.pP y.params.length f2.cP, .slice f2.pR y.results.length f2.cR, .slice f2.pB y.blocks.length f2.cB], 50), (B3, #[.slice p2 k.length d], 39), (B2, #[.slice p m.length c], 39)] := hWD.1
      clear hFD hWD hE hF54 h51
      clear hW48
      refine wpList_nil ?_
      refine hK53 _ _ ?_
      refine fr_cond (t := 81) hF55 rfl (fun hb => ?_) (fun hb => ?_)
      ·have hb : (bdec (z = u)) = false := by simpa using hb
       have hel : ¬ (z = u) := fun h => by rw [bdec_true h] at hb; cases hb
       clear hb
       refine wp_seq_k fun K56 hK56 => ?_
       refine rg hF55 fun ops => ?_; clear hF55 a55
       refine sa trivial rfl rfl ?_
       refine St.nil fun a57 h57 => ?_
       refine hK56 _ _ ?_
       refine wp_ret ?_; with_reducible repeat first | refine of_then_ret ?_ | refine of_block_ret ?_
       have RX : ¬ x = y := by
         intro e
         have h1 := hx3.out
         rw [e, hx4.out] at h1
         exact hel (Option.some.inj h1).symm
       have R : ¬ m = k := by
         intro e
         have h1 := hx1.out
         rw [e, hx2.out] at h1
         exact RX (Option.some.inj h1).symm
       exact ret_tmp (t := 4) h57 rfl rfl ⟨by rw [bdec_false R], hW55.bel⟩
      have hb : (bdec (z = u)) = true := by simpa using hb
      have hel : (z = u) := bdec_iff.1 hb
      clear hb
      refine wp_skip ?_
      refine hK52 _ _ ?_
      refine rg hF55 fun ops => ?_; clear hF55 a55
      refine sm trivial rfl rfl ?_
      refine sad (by omega) trivial rfl rfl rfl ?_
      refine sa trivial rfl rfl ?_
      refine St.nil fun a58 h58 => ?_
      refine hKLb _ _ (x.blocks.length - (qb + 1)) (by omega) ⟨qb + 1, by omega, rfl, ?_, (h58.keep (h58.keep (h58.keep (h58.keep (h58.keep (h58.keep (h58.keep (h58.keep (h58.keep h58.nil (t := 8) rfl) (t := 7) rfl) (t := 6) rfl) (t := 5) rfl) (t := 4) rfl) (t := 3) rfl) (t := 2) rfl) (t := 0) rfl) (t := 1) rfl), hW55⟩
      ·intro j hj
       by_cases e : j = qb
       · subst e; rw [hx3.out, hx4.out, hel]
       · exact hal2 j (by omega)
    have hge2 : qb = x.blocks.length := by have := of_decide_eq_false hb; omega
    clear hb
    have RB : x.blocks = y.blocks := by
      have := hlb.out
      refine List.ext_getElem? fun i => ?_
      by_cases hi : i < qb
      · exact hal2 i hi
      · rw [List.getElem?_eq_none (by omega), List.getElem?_eq_none (by omega)]
    have RX : x = y := MFunc.eq_of hc28.out hc35 hc42 RB
    refine wp_exit ?_
    refine hK17 _ _ ?_
    refine rg h51 fun ops => ?_; clear h51 a51
    refine sm trivial rfl rfl ?_
    refine sad (by omega) trivial rfl rfl rfl ?_
    refine sa trivial rfl rfl ?_
    refine St.nil fun a59 h59 => ?_
    refine hKL _ _ (m.length - (q + 1)) (by omega) ⟨q + 1, by omega, rfl, ?_, (h59.keep (h59.keep (h59.keep (h59.keep (h59.keep (h59.keep h59.nil (t := 5) rfl) (t := 4) rfl) (t := 3) rfl) (t := 2) rfl) (t := 0) rfl) (t := 1) rfl), hW48.tail.tail⟩
    ·intro j hj
     by_cases e : j = q
     · subst e; rw [hx1.out, hx2.out, RX]
     · exact hall j (by omega)
  have hge : q = m.length := by have := of_decide_eq_false hb; omega
  clear hb
  refine wp_exit ?_
  refine hK10 _ _ ?_
  refine wp_seq_k fun K60 hK60 => ?_
  refine rg h16 fun ops => ?_; clear h16 a16
  refine sa trivial rfl rfl ?_
  refine St.nil fun a61 h61 => ?_
  refine hK60 _ _ ?_
  refine wp_ret ?_; with_reducible repeat first | refine of_then_ret ?_ | refine of_block_ret ?_
  have R : m = k := by
    have := hlen.out
    refine List.ext_getElem? fun i => ?_
    by_cases hi : i < q
    · exact hall i hi
    · rw [List.getElem?_eq_none (by omega), List.getElem?_eq_none (by omega)]
  exact ret_tmp (t := 4) h61 rfl rfl ⟨by rw [bdec_true R], hW13.bel⟩
end Go.Proofs.Ytmnmnokkojcodab
/-
  CodeFault: the reference's first fault of a module.
-/
namespace Go.Proofs.Ytmnmnokkojcodab
open Go.ChangeShapes Go.WideShapes Go.ChangeAt Go.RowKit
set_option linter.unusedVariables false
set_option linter.unusedSimpArgs false

set_option maxHeartbeats 4000000 in
set_option maxRecDepth 100000 in
theorem blockFault_any {n : Nat} {m : List (MFunc n)} {p : Option Addr} {c fi bi : Nat} {x : MFunc n} {y : MBlock n} {w : World} (hm0 : (modL n).In w All m [.slice p m.length c]) (hs0 : msmall m) (hx1 : m[fi]? = some x) (hx2 : x.blocks[bi]? = some y) :
    Rd Try.prog 50 #[.agg #[.slice p m.length c], .int .i64 (fi : Int), .int .i64 (bi : Int)] w (faultV (MBlock.fault m.length fi x bi y)) := by
  have hlt1 : fi < m.length := (List.getElem?_eq_some_iff.1 hx1).1
  have hlt2 : bi < x.blocks.length := (List.getElem?_eq_some_iff.1 hx2).1
  have hs1 : Hid x.small := hs0.2 _ (List.mem_of_getElem? hx1)
  have hs2 : Hid y.small := hs1.out.2.2.2 _ (List.mem_of_getElem? hx2)
  have hmb := hs0.1
  have hxb := hs1.out.1
  have hyb := hs2.out.1
  obtain ⟨g1, o1, f1, hp1, E1, In1⟩ := func_at hm0 hx1
  obtain ⟨g2, o2, b2, hp2, E2, In2⟩ := block_at In1.blocks hx2
  replace E1 : Hid _ := E1
  replace E2 : Hid _ := E2
  clear hm0 hs0
  replace In1 : Hid _ := In1
  replace In2 : Hid _ := In2
  replace hp1 : Hid _ := hp1
  replace hp2 : Hid _ := hp2
  replace hx1 : Hid _ := hx1
  replace hx2 : Hid _ := hx2
  refine fr_enter (n := 112) Try.func50 rfl rfl rfl ?_
  intro a hF
  have hW := Wd.start w
  replace hF : Fr 112 a [(0, .agg #[.slice p m.length c]), (1, .int .i64 (fi : Int)), (2, .int .i64 (bi : Int))] := hF
  refine wp_seq_k fun K1 hK1 => ?_
  refine rg hF fun ops => ?_; clear hF a
  refine sB hW trivial rfl rfl ?_
  clear hW; intro w2 B2 hW2 hN; clear hN
  refine sAFault hW2 trivial rfl ?_
  clear hW2; intro w3 B3 hW3 hN; clear hN
  refine St.nil fun a4 h4 => ?_
  refine hK1 _ _ ?_
  refine wp_seq_k fun K5 hK5 => ?_
  refine rg h4 fun ops => ?_; clear h4 a4
  refine sfModule0 trivial rfl rfl ?_
  refine sbFuncs 1 hW3 trivial rfl rfl rfl rfl ?_
  refine sm trivial rfl rfl ?_
  refine siFuncs hp1.out hlt1 trivial rfl rfl rfl ?_
  refine sSE Try.underlying50 rfl (rangeAt_bel E1.out hW3.bel) infFunc trivial rfl rfl ?_
  refine sAFunc hW3 trivial rfl ?_
  clear hW3; intro w6 B6 hW6 hN; clear hN
  refine sT 0 hW6 rfl rfl infFunc rfl rfl rfl ?_
  clear hW6; intro w7 hW7
  refine St.nil fun a8 h8 => ?_
  refine hK5 _ _ ?_
  refine wp_seq_k fun K9 hK9 => ?_
  refine rg h8 fun ops => ?_; clear h8 a8
  refine sfFunc3 trivial rfl rfl ?_
  refine sbBlocks 0 hW7 trivial rfl rfl rfl rfl ?_
  refine sm trivial rfl rfl ?_
  refine siBlocks hp2.out hlt2 trivial rfl rfl rfl ?_
  refine sSE Try.underlying77 rfl (rangeAt_bel E2.out hW7.bel) infBlock trivial rfl rfl ?_
  refine sABlock hW7 trivial rfl ?_
  clear hW7; intro w10 B10 hW10 hN; clear hN
  refine sT 0 hW10 rfl rfl infBlock rfl rfl rfl ?_
  clear hW10; intro w11 hW11
  refine St.nil fun a12 h12 => ?_
  refine hK9 _ _ ?_
  refine wp_seq_k fun K13 hK13 => ?_
  refine wp_seq_k fun K14 hK14 => ?_
  refine fr_region ?_
  intro ops hops
  have hg5 : (ops[5]?).bind (fun o : Oper => o.dst) = some 28 := hops 5
  clear hops
  refine St.go h12 ?_; clear h12 a12
  refine sfBlock0 trivial rfl rfl ?_
  refine sbInt 0 hW11 trivial rfl rfl rfl rfl ?_
  refine sfFunc0 trivial rfl rfl ?_
  refine sbInt 1 hW11 trivial rfl rfl rfl rfl ?_
  refine slt trivial rfl rfl rfl ?_
  refine sm trivial rfl rfl ?_
  intro a15 h15
  rcases Bool.eq_false_or_eq_true (decide (y.regs < x.regs)) with hb | hb
  ·rw [hb] at h15
   have hc16 : y.regs < x.regs := of_decide_eq_true hb
   clear hb
   refine St.go h15 ?_; clear h15 a15
   refine so hg5 rfl rfl rfl rfl ?_
   refine so hg5 rfl rfl rfl rfl ?_
   refine so hg5 rfl rfl rfl rfl ?_
   refine sp trivial rfl rfl rfl ?_
   refine St.nil fun a17 h17 => ?_
   refine hK14 _ _ ?_
   refine fr_true (t := 32) h17 rfl ?_
   refine wp_seq_k fun K18 hK18 => ?_
   refine rg h17 fun ops => ?_; clear h17 a17
   refine sm trivial rfl rfl ?_
   refine sm trivial rfl rfl ?_
   refine sc_2 cf27 hW11 (atBlock_any (f := fi) (b := bi) ⟨by omega, by omega⟩) trivial rfl rfl rfl ?_
   clear hW11; intro w19 hW19
   refine sc_2 cf48 hW19 (fF_any (xc := 1) (xp := 10000 * (fi : Int) + 100 * (bi : Int) + 90)) trivial rfl rfl rfl ?_
   clear hW19; intro w20 hW20
   refine sT 2 hW20 rfl rfl infFault rfl rfl rfl ?_
   clear hW20; intro w21 hW21
   refine St.nil fun a22 h22 => ?_
   refine hK18 _ _ ?_
   refine wp_ret ?_; with_reducible repeat first | refine of_then_ret ?_ | refine of_block_ret ?_
   have RC : y.code' x bi = 1 := if_pos (by omega)
   have EF := MBlock.fault_eq m.length fi x bi y
   rw [RC, if_neg (by omega)] at EF
   exact ret_box 2 h22 hW21 rfl rfl rfl Try.underlying26 rfl infFault ⟨by show Ending.returned (.agg #[.int .i64 1, .int .i64 (10000 * (fi : Int) + 100 * (bi : Int) + 90)]) = _; rw [EF], hW21.bel⟩
  rw [hb] at h15
  have hc23 : ¬ (y.regs < x.regs) := of_decide_eq_false hb
  clear hb
  refine St.go h15 ?_; clear h15 a15
  refine sfBlock0 ⟨_, hg5, rfl, rfl⟩ rfl rfl ?_
  refine sbInt 0 hW11 ⟨_, hg5, rfl, rfl⟩ rfl rfl rfl rfl ?_
  refine sgt ⟨_, hg5, rfl, rfl⟩ rfl rfl rfl ?_
  refine spf trivial rfl rfl rfl ?_
  refine St.nil fun a24 h24 => ?_
  refine hK14 _ _ ?_
  refine fr_cond (t := 32) h24 rfl (fun hb => ?_) (fun hb => ?_)
  ·have hc25 : 16 < y.regs := of_decide_eq_true hb
   clear hb
   refine wp_seq_k fun K26 hK26 => ?_
   refine rg h24 fun ops => ?_; clear h24 a24
   refine sm trivial rfl rfl ?_
   refine sm trivial rfl rfl ?_
   refine sc_2 cf27 hW11 (atBlock_any (f := fi) (b := bi) ⟨by omega, by omega⟩) trivial rfl rfl rfl ?_
   clear hW11; intro w27 hW27
   refine sc_2 cf48 hW27 (fF_any (xc := 1) (xp := 10000 * (fi : Int) + 100 * (bi : Int) + 90)) trivial rfl rfl rfl ?_
   clear hW27; intro w28 hW28
   refine sT 2 hW28 rfl rfl infFault rfl rfl rfl ?_
   clear hW28; intro w29 hW29
   refine St.nil fun a30 h30 => ?_
   refine hK26 _ _ ?_
   refine wp_ret ?_; with_reducible repeat first | refine of_then_ret ?_ | refine of_block_ret ?_
   have RC : y.code' x bi = 1 := if_pos (by omega)
   have EF := MBlock.fault_eq m.length fi x bi y
   rw [RC, if_neg (by omega)] at EF
   exact ret_box 2 h30 hW29 rfl rfl rfl Try.underlying26 rfl infFault ⟨by show Ending.returned (.agg #[.int .i64 1, .int .i64 (10000 * (fi : Int) + 100 * (bi : Int) + 90)]) = _; rw [EF], hW29.bel⟩
  have hc31 : ¬ (16 < y.regs) := of_decide_eq_false hb
  clear hb
  refine wp_skip ?_
  refine hK13 _ _ ?_
  refine wp_seq_k fun K32 hK32 => ?_
  refine wp_seq_k fun K33 hK33 => ?_
  refine rg h24 fun ops => ?_; clear h24 a24
  refine sfBlock1 trivial rfl rfl ?_
  refine sbTypes 0 hW11 trivial rfl rfl rfl rfl ?_
  refine sfBlock0 trivial rfl rfl ?_
  refine sbInt 0 hW11 trivial rfl rfl rfl rfl ?_
  refine sc_2 cf49 hW11 (listForm_any (regs := y.regs) (Lay.below In2.out.params hW11.bel) hs2.out.2.1) trivial rfl rfl rfl ?_
  clear hW11; intro w34 hW34
  refine sa trivial rfl rfl ?_
  refine St.nil fun a35 h35 => ?_
  refine hK33 _ _ ?_
  refine wp_seq_k fun K36 hK36 => ?_
  refine rg h35 fun ops => ?_; clear h35 a35
  refine sm trivial rfl rfl ?_
  refine sne trivial rfl rfl rfl ?_
  refine St.nil fun a37 h37 => ?_
  refine hK36 _ _ ?_
  refine fr_cond (t := 43) h37 rfl (fun hb => ?_) (fun hb => ?_)
  ·have h9 : ¬ (listC y.regs y.params) = 0 := bne_iff_ne.1 hb
   have hc38 : ¬ (listC y.regs y.params) = 0 := h9
   clear h9
   clear hb
   refine wp_seq_k fun K39 hK39 => ?_
   refine rg h37 fun ops => ?_; clear h37 a37
   refine sm trivial rfl rfl ?_
   refine sm trivial rfl rfl ?_
   refine sm trivial rfl rfl ?_
   refine sc_2 cf27 hW34 (atBlock_any (f := fi) (b := bi) ⟨by omega, by omega⟩) trivial rfl rfl rfl ?_
   clear hW34; intro w40 hW40
   refine sc_2 cf48 hW40 (fF_any (xc := listC y.regs y.params) (xp := 10000 * (fi : Int) + 100 * (bi : Int) + 90)) trivial rfl rfl rfl ?_
   clear hW40; intro w41 hW41
   refine sT 2 hW41 rfl rfl infFault rfl rfl rfl ?_
   clear hW41; intro w42 hW42
   refine St.nil fun a43 h43 => ?_
   refine hK39 _ _ ?_
   refine wp_ret ?_; with_reducible repeat first | refine of_then_ret ?_ | refine of_block_ret ?_
   have RC : y.code' x bi = listC y.regs y.params := (if_neg (by omega)).trans (if_pos (by omega))
   have EF := MBlock.fault_eq m.length fi x bi y
   rw [RC, if_neg (by omega)] at EF
   exact ret_box 2 h43 hW42 rfl rfl rfl Try.underlying26 rfl infFault ⟨by show Ending.returned (.agg #[.int .i64 (listC y.regs y.params), .int .i64 (10000 * (fi : Int) + 100 * (bi : Int) + 90)]) = _; rw [EF], hW42.bel⟩
  have h9 : (listC y.regs y.params) = 0 := bne_eq_false_iff_eq.1 hb
  have hc44 : Hid ((listC y.regs y.params) = 0) := h9
  clear h9
  clear hb
  refine wp_skip ?_
  refine hK32 _ _ ?_
  refine wp_seq_k fun K45 hK45 => ?_
  refine wp_seq_k fun K46 hK46 => ?_
  refine fr_region ?_
  intro ops hops
  have hg2 : (ops[2]?).bind (fun o : Oper => o.dst) = some 51 := hops 2
  have hg8 : (ops[8]?).bind (fun o : Oper => o.dst) = some 57 := hops 8
  clear hops
  refine St.go h37 ?_; clear h37 a37
  refine sm trivial rfl rfl ?_
  refine seq trivial rfl rfl rfl ?_
  refine sm trivial rfl rfl ?_
  intro a47 h47
  rcases Bool.eq_false_or_eq_true ((bi : Int) == 0) with hb | hb
  ·rw [hb] at h47
   have h9 : bi = 0 := by have h8 := eq_of_beq hb; omega
   have hc48 : Hid (bi = 0) := h9
   clear h9
   clear hb
   refine St.go h47 ?_; clear h47 a47
   refine sfBlock0 ⟨_, hg2, rfl, rfl⟩ rfl rfl ?_
   refine sbInt 0 hW34 ⟨_, hg2, rfl, rfl⟩ rfl rfl rfl rfl ?_
   refine sfFunc0 ⟨_, hg2, rfl, rfl⟩ rfl rfl ?_
   refine sbInt 1 hW34 ⟨_, hg2, rfl, rfl⟩ rfl rfl rfl rfl ?_
   refine sne ⟨_, hg2, rfl, rfl⟩ rfl rfl rfl ?_
   refine sm ⟨_, hg2, rfl, rfl⟩ rfl rfl ?_
   intro a49 h49
   rcases Bool.eq_false_or_eq_true (y.regs != x.regs) with hb | hb
   ·rw [hb] at h49
    have h9 : ¬ y.regs = x.regs := bne_iff_ne.1 hb
    have hc50 : ¬ y.regs = x.regs := h9
    clear h9
    clear hb
    refine St.go h49 ?_; clear h49 a49
    refine so hg8 rfl rfl rfl rfl ?_
    refine so hg8 rfl rfl rfl rfl ?_
    refine so hg8 rfl rfl rfl rfl ?_
    refine so hg8 rfl rfl rfl rfl ?_
    refine so hg8 rfl rfl rfl rfl ?_
    refine so hg8 rfl rfl rfl rfl ?_
    refine sp ⟨_, hg2, rfl, rfl⟩ rfl rfl rfl ?_
    refine sp trivial rfl rfl rfl ?_
    refine St.nil fun a51 h51 => ?_
    refine hK46 _ _ ?_
    refine fr_true (t := 65) h51 rfl ?_
    refine wp_seq_k fun K52 hK52 => ?_
    refine rg h51 fun ops => ?_; clear h51 a51
    refine sm trivial rfl rfl ?_
    refine sm trivial rfl rfl ?_
    refine sc_2 cf27 hW34 (atBlock_any (f := fi) (b := bi) ⟨by omega, by omega⟩) trivial rfl rfl rfl ?_
    clear hW34; intro w53 hW53
    refine sc_2 cf48 hW53 (fF_any (xc := 9) (xp := 10000 * (fi : Int) + 100 * (bi : Int) + 90)) trivial rfl rfl rfl ?_
    clear hW53; intro w54 hW54
    refine sT 2 hW54 rfl rfl infFault rfl rfl rfl ?_
    clear hW54; intro w55 hW55
    refine St.nil fun a56 h56 => ?_
    refine hK52 _ _ ?_
    refine wp_ret ?_; with_reducible repeat first | refine of_then_ret ?_ | refine of_block_ret ?_
    have := hc44.out
    have := hc48.out
    have RC : y.code' x bi = 9 := (if_neg (by omega)).trans ((if_neg (by omega)).trans (if_pos (⟨by omega, .inl (by omega)⟩)))
    have EF := MBlock.fault_eq m.length fi x bi y
    rw [RC, if_neg (by omega)] at EF
    exact ret_box 2 h56 hW55 rfl rfl rfl Try.underlying26 rfl infFault ⟨by show Ending.returned (.agg #[.int .i64 9, .int .i64 (10000 * (fi : Int) + 100 * (bi : Int) + 90)]) = _; rw [EF], hW55.bel⟩
   rw [hb] at h49
   have h9 : y.regs = x.regs := bne_eq_false_iff_eq.1 hb
   have hc57 : Hid (y.regs = x.regs) := h9
   clear h9
   clear hb
   refine St.go h49 ?_; clear h49 a49
   refine sfBlock1 ⟨_, hg8, rfl, rfl⟩ rfl rfl ?_
   refine sbTypes 0 hW34 ⟨_, hg8, rfl, rfl⟩ rfl rfl rfl rfl ?_
   refine sfFunc1 ⟨_, hg8, rfl, rfl⟩ rfl rfl ?_
   refine sbTypes 1 hW34 ⟨_, hg8, rfl, rfl⟩ rfl rfl rfl rfl ?_
   refine sc_2 cf51 hW34 (sameTypes_any (Lay.below In2.out.params hW34.bel) (Lay.below In1.out.params hW34.bel) hs2.out.2.1) ⟨_, hg8, rfl, rfl⟩ rfl rfl rfl ?_
   clear hW34; intro w58 hW58
   refine sn ⟨_, hg8, rfl, rfl⟩ rfl rfl ?_
   refine spf ⟨_, hg2, rfl, rfl⟩ rfl rfl rfl ?_
   refine sp trivial rfl rfl rfl ?_
   refine St.nil fun a59 h59 => ?_
   refine hK46 _ _ ?_
   refine fr_cond (t := 65) h59 rfl (fun hb => ?_) (fun hb => ?_)
   ·have hb : (bdec (y.params = x.params)) = false := by simpa using hb
    have hc60 : ¬ (y.params = x.params) := fun h => by rw [bdec_true h] at hb; cases hb
    clear hb
    refine wp_seq_k fun K61 hK61 => ?_
    refine rg h59 fun ops => ?_; clear h59 a59
    refine sm trivial rfl rfl ?_
    refine sm trivial rfl rfl ?_
    refine sc_2 cf27 hW58 (atBlock_any (f := fi) (b := bi) ⟨by omega, by omega⟩) trivial rfl rfl rfl ?_
    clear hW58; intro w62 hW62
    refine sc_2 cf48 hW62 (fF_any (xc := 9) (xp := 10000 * (fi : Int) + 100 * (bi : Int) + 90)) trivial rfl rfl rfl ?_
    clear hW62; intro w63 hW63
    refine sT 2 hW63 rfl rfl infFault rfl rfl rfl ?_
    clear hW63; intro w64 hW64
    refine St.nil fun a65 h65 => ?_
    refine hK61 _ _ ?_
    refine wp_ret ?_; with_reducible repeat first | refine of_then_ret ?_ | refine of_block_ret ?_
    have := hc44.out
    have := hc48.out
    have := hc57.out
    have RC : y.code' x bi = 9 := (if_neg (by omega)).trans ((if_neg (by omega)).trans (if_pos (⟨by omega, takes_no (fun h9 => hc60 h9.2)⟩)))
    have EF := MBlock.fault_eq m.length fi x bi y
    rw [RC, if_neg (by omega)] at EF
    exact ret_box 2 h65 hW64 rfl rfl rfl Try.underlying26 rfl infFault ⟨by show Ending.returned (.agg #[.int .i64 9, .int .i64 (10000 * (fi : Int) + 100 * (bi : Int) + 90)]) = _; rw [EF], hW64.bel⟩
   have hb : (bdec (y.params = x.params)) = true := by simpa using hb
   have hc66 : (y.params = x.params) := bdec_iff.1 hb
   clear hb
   refine wp_skip ?_
   refine hK45 _ _ ?_
   refine wp_seq_k fun K67 hK67 => ?_
   refine wp_seq_k fun K68 hK68 => ?_
   refine rg h59 fun ops => ?_; clear h59 a59
   refine sfBlock2 trivial rfl rfl ?_
   refine sbInss 0 hW58 trivial rfl rfl rfl rfl ?_
   refine slInss trivial rfl rfl ?_
   refine sgt trivial rfl rfl rfl ?_
   refine St.nil fun a69 h69 => ?_
   refine hK68 _ _ ?_
   refine fr_cond (t := 73) h69 rfl (fun hb => ?_) (fun hb => ?_)
   ·have hc70 : 40 < y.code.length := by have := of_decide_eq_true hb; omega
    clear hb
    refine wp_seq_k fun K71 hK71 => ?_
    refine rg h69 fun ops => ?_; clear h69 a69
    refine sm trivial rfl rfl ?_
    refine sm trivial rfl rfl ?_
    refine sc_2 cf27 hW58 (atBlock_any (f := fi) (b := bi) ⟨by omega, by omega⟩) trivial rfl rfl rfl ?_
    clear hW58; intro w72 hW72
    refine sc_2 cf48 hW72 (fF_any (xc := 2) (xp := 10000 * (fi : Int) + 100 * (bi : Int) + 90)) trivial rfl rfl rfl ?_
    clear hW72; intro w73 hW73
    refine sT 2 hW73 rfl rfl infFault rfl rfl rfl ?_
    clear hW73; intro w74 hW74
    refine St.nil fun a75 h75 => ?_
    refine hK71 _ _ ?_
    refine wp_ret ?_; with_reducible repeat first | refine of_then_ret ?_ | refine of_block_ret ?_
    have := hc44.out
    have := hc48.out
    have := hc57.out
    have RC : y.code' x bi = 2 := (if_neg (by omega)).trans ((if_neg (by omega)).trans ((if_neg (fun h9 => takes_yes ⟨by omega, hc66⟩ h9.2)).trans (if_pos (by omega))))
    have EF := MBlock.fault_eq m.length fi x bi y
    rw [RC, if_neg (by omega)] at EF
    exact ret_box 2 h75 hW74 rfl rfl rfl Try.underlying26 rfl infFault ⟨by show Ending.returned (.agg #[.int .i64 2, .int .i64 (10000 * (fi : Int) + 100 * (bi : Int) + 90)]) = _; rw [EF], hW74.bel⟩
   have hc76 : ¬ (40 < y.code.length) := by have := of_decide_eq_false hb; omega
   clear hb
   refine wp_skip ?_
   refine hK67 _ _ ?_
   refine wp_seq_k fun K77 hK77 => ?_
   refine wp_seq_k fun K78 hK78 => ?_
   refine rg h69 fun ops => ?_; clear h69 a69
   refine sa trivial rfl rfl ?_
   refine St.nil fun a79 h79 => ?_
   refine hK78 _ _ ?_
   refine wp_block ?_
   refine fr_loop (fun r a w' => ∃ q : Nat, q ≤ y.code.length ∧ r = y.code.length - q ∧ (∀ (j : Nat) z, j < q → y.code[j]? = some z → MIns.form m.length z = 0) ∧ Fr 112 a [(2, .int .i64 (bi : Int)), (1, .int .i64 (fi : Int)), (0, .agg #[.slice p m.length c]), (3, .pointer (some ⟨B2, 0, none⟩)), (6, .pointer (some ⟨B3, 0, none⟩)), (7, .pointer (some ⟨B6, 0, none⟩)), (8, .pointer (some ⟨B10, 0, none⟩)), (9, .int .i64 (listC y.regs y.params)), (10, .int .i64 (q : Int))] ∧ Wd w w' [(B10, #[.int .i64 y.regs, .slice b2.pP y.params.length b2.cP, .slice b2.pC y.code.length b2.cC, .int .i64 y.fin.op, .int .i64 y.fin.a, .int .i64 y.fin.yes.block, .slice b2.e.pYR y.fin.yes.regs.length b2.e.cYR, .slice b2.e.pYA y.fin.yes.args.length b2.e.cYA, .int .i64 y.fin.no.block, .slice b2.e.pNR y.fin.no.regs.length b2.e.cNR, .slice b2.e.pNA y.fin.no.args.length b2.e.cNA, .slice b2.e.pA y.fin.args.length b2.e.cA], 77), (B6, #[.int .i64 x.regs, .slice f1.pP x.params.length f1.cP, .slice f1.pR x.results.length f1.cR, .slice f1.pB x.blocks.length f1.cB], 50), (B3, #[.int .i64 0, .int .i64 0], 26), (B2, #[.slice p m.length c], 39)]) (y.code.length) ⟨0, Nat.zero_le _, rfl, (fun j z hj => by omega), (h79.keep (h79.keep (h79.keep (h79.keep (h79.keep (h79.keep (h79.keep (h79.keep (h79.keep h79.nil (t := 10) rfl) (t := 9) rfl) (t := 8) rfl) (t := 7) rfl) (t := 6) rfl) (t := 3) rfl) (t := 0) rfl) (t := 1) rfl) (t := 2) rfl), hW58⟩ ?_
   clear h79 hW58
   rintro r3 a80 w80 ⟨q, hq3, hr3, hall3, hF80, hW80⟩ KL3 hKL3
   refine wp_seq_k fun K81 hK81 => ?_
   refine wp_seq_k fun K82 hK82 => ?_
   refine rg hF80 fun ops => ?_; clear hF80 a80
   refine sm trivial rfl rfl ?_
   refine sfBlock2 trivial rfl rfl ?_
   refine sbInss 0 hW80 trivial rfl rfl rfl rfl ?_
   refine slInss trivial rfl rfl ?_
   refine slt trivial rfl rfl rfl ?_
   refine St.nil fun a83 h83 => ?_
   refine hK82 _ _ ?_
   refine fr_cond (t := 82) h83 rfl (fun hb => ?_) (fun hb => ?_)
   ·have hlt3 : q < y.code.length := by have := of_decide_eq_true hb; omega
    clear hb
    obtain ⟨z, hx3⟩ : ∃ v9, (y.code)[q]? = some v9 := ⟨_, List.getElem?_eq_getElem hlt3⟩
    obtain ⟨g3, o3, i3, hp3, E3, In3⟩ := ins_at In2.out.code hx3
    replace In3 : Hid _ := In3
    replace hp3 : Hid _ := hp3
    replace hx3 : Hid _ := hx3
    replace E3 : Hid _ := E3
    refine wp_skip ?_
    refine hK81 _ _ ?_
    refine wp_seq_k fun K84 hK84 => ?_
    refine wp_block ?_
    refine wp_seq_k fun K85 hK85 => ?_
    have hF86 : Fr 112 a83 [(2, .int .i64 (bi : Int)), (1, .int .i64 (fi : Int)), (0, .agg #[.slice p m.length c]), (3, .pointer (some ⟨B2, 0, none⟩)), (6, .pointer (some ⟨B3, 0, none⟩)), (7, .pointer (some ⟨B6, 0, none⟩)), (8, .pointer (some ⟨B10, 0, none⟩)), (9, .int .i64 (listC y.regs y.params)), (10, .int .i64 (q : Int))] := (h83.keep (h83.keep (h83.keep (h83.keep (h83.keep (h83.keep (h83.keep (h83.keep (h83.keep h83.nil (t := 10) rfl) (t := 9) rfl) (t := 8) rfl) (t := 7) rfl) (t := 6) rfl) (t := 3) rfl) (t := 0) rfl) (t := 1) rfl) (t := 2) rfl)
    have ho3 : a83.tmps.getD 3 undef = .pointer (some ⟨B2, 0, none⟩) := h83.sl 3 _ rfl
    have ho8 : a83.tmps.getD 8 undef = .pointer (some ⟨B10, 0, none⟩) := h83.sl 8 _ rfl
    have ho10 : a83.tmps.getD 10 undef = .int .i64 (q : Int) := h83.sl 10 _ rfl
    refine fr_draw_k 8 ([(3, fun v _ => v = .pointer (some ⟨B2, 0, none⟩)), (8, fun v _ => v = .pointer (some ⟨B10, 0, none⟩)), (10, fun v _ => v = .int .i64 (q : Int)), (85, fun v _ => v = .agg #[.slice p m.length c]), (86, fun v _ => v = .pointer (some ⟨B10, 2, none⟩)), (87, fun v _ => v = .slice b2.pC y.code.length b2.cC), (88, fun v _ => v = .int .i64 (q : Int)), (89, fun v _ => v = .pointer (some ⟨g3, o3 + q * 8, none⟩)), (90, fun v _ => v = .agg #[.int .i64 z.op, .int .i64 z.a, .int .i64 z.b, .int .i64 z.c, .int .i64 z.k, .int .i64 z.n, .slice i3.pR z.regs.length i3.cR, .slice i3.pA z.args.length i3.cA]), (91, fun v _ => v = .int .i64 (MIns.form m.length z)), (11, fun v _ => v = .int .i64 (MIns.form m.length z))] : PTab) (fun w' => Wd w w' [(B10, #[.int .i64 y.regs, .slice b2.pP y.params.length b2.cP, .slice b2.pC y.code.length b2.cC, .int .i64 y.fin.op, .int .i64 y.fin.a, .int .i64 y.fin.yes.block, .slice b2.e.pYR y.fin.yes.regs.length b2.e.cYR, .slice b2.e.pYA y.fin.yes.args.length b2.e.cYA, .int .i64 y.fin.no.block, .slice b2.e.pNR y.fin.no.regs.length b2.e.cNR, .slice b2.e.pNA y.fin.no.args.length b2.e.cNA, .slice b2.e.pA y.fin.args.length b2.e.cA], 77), (B6, #[.int .i64 x.regs, .slice f1.pP x.params.length f1.cP, .slice f1.pR x.results.length f1.cR, .slice f1.pB x.blocks.length f1.cB], 50), (B3, #[.int .i64 0, .int .i64 0], 26), (B2, #[.slice p m.length c], 39)] ∧ Below w80.heap.size w80 w') (fun w w' => Below w.heap.size w w') (outs := [3, 8, 10]) (gs := []) (bs := [true, true, true, true, true, true, true, true]) (by kernel_rfl) hF86 rfl (by kernel_rfl) (by kernel_rfl) ?hR ?hG ⟨hW80.drewN 1, drewN_below (m := 1) (Below.refl _ _)⟩ ⟨ho3, ho8, ho10, trivial⟩ ?hA ?hend
    case hR => exact ⟨fun _ _ _ _ h => h, fun _ _ _ _ h => h, fun _ _ _ _ h => h, fun _ _ _ _ h => h, fun _ _ _ _ h => h, fun _ _ _ _ h => h, fun _ _ _ _ h => h, fun _ _ _ _ h => h, fun _ _ _ _ h => h, fun _ _ _ _ h => h, fun _ _ _ _ h => h, trivial⟩
    case hG => exact trivial
    case hA =>
     refine ⟨fun a w hW hk K hK => ?_, ?_⟩
     · obtain ⟨k0, -⟩ := hk
       have k0 : a.tmps.getD 3 undef = .pointer (some ⟨B2, 0, none⟩) := k0
       have c0 : w.cell? ⟨B2, 0, none⟩ = some (.slice p m.length c) := cellOf (hW.1.get 3 rfl) 0 _ rfl
       go_simp
       exact hK _ _ (Below.refl _ _) hW rfl
     refine ⟨fun a w hW hk K hK => ?_, ?_⟩
     · obtain ⟨k0, -⟩ := hk
       have k0 : a.tmps.getD 8 undef = .pointer (some ⟨B10, 0, none⟩) := k0
       go_simp
       exact hK _ _ (Below.refl _ _) hW rfl
     refine ⟨fun a w hW hk K hK => ?_, ?_⟩
     · obtain ⟨k0, -⟩ := hk
       have k0 : a.tmps.getD 86 undef = .pointer (some ⟨B10, 2, none⟩) := k0
       have c2 : w.cell? ⟨B10, 2, none⟩ = some (.slice b2.pC y.code.length b2.cC) := cellOf (hW.1.get 0 rfl) 2 _ rfl
       go_simp
       exact hK _ _ (Below.refl _ _) hW rfl
     refine ⟨fun a w hW hk K hK => ?_, ?_⟩
     · obtain ⟨k0, -⟩ := hk
       have k0 : a.tmps.getD 10 undef = .int .i64 (q : Int) := k0
       go_simp
       exact hK _ _ (Below.refl _ _) hW rfl
     refine ⟨fun a w hW hk K hK => ?_, ?_⟩
     · obtain ⟨k0, k1, -⟩ := hk
       have k0 : a.tmps.getD 87 undef = .slice b2.pC y.code.length b2.cC := k0
       have k1 : a.tmps.getD 88 undef = .int .i64 (q : Int) := k1
       have hpq := hp3.out
       have hk0 : (0 : Int) ≤ q := by omega
       have hk1 : (q : Int) < (y.code.length : Int) := by omega
       go_simp
       exact hK _ _ (Below.refl _ _) hW rfl
     refine ⟨fun a w hW hk K hK => ?_, ?_⟩
     · obtain ⟨k0, -⟩ := hk
       have k0 : a.tmps.getD 89 undef = .pointer (some ⟨g3, o3 + q * 8, none⟩) := k0
       have d0 : w.cell? ⟨g3, o3 + q * 8, none⟩ = some (.int .i64 z.op) := bel_cell hW.1.bel (E3.out 0 _ rfl)
       have d1 : w.cell? ⟨g3, o3 + q * 8 + 1, none⟩ = some (.int .i64 z.a) := bel_cell hW.1.bel (E3.out 1 _ rfl)
       have d2 : w.cell? ⟨g3, o3 + q * 8 + 2, none⟩ = some (.int .i64 z.b) := bel_cell hW.1.bel (E3.out 2 _ rfl)
       have d3 : w.cell? ⟨g3, o3 + q * 8 + 3, none⟩ = some (.int .i64 z.c) := bel_cell hW.1.bel (E3.out 3 _ rfl)
       have d4 : w.cell? ⟨g3, o3 + q * 8 + 4, none⟩ = some (.int .i64 z.k) := bel_cell hW.1.bel (E3.out 4 _ rfl)
       have d5 : w.cell? ⟨g3, o3 + q * 8 + 5, none⟩ = some (.int .i64 z.n) := bel_cell hW.1.bel (E3.out 5 _ rfl)
       have d6 : w.cell? ⟨g3, o3 + q * 8 + 6, none⟩ = some (.slice i3.pR z.regs.length i3.cR) := bel_cell hW.1.bel (E3.out 6 _ rfl)
       have d7 : w.cell? ⟨g3, o3 + q * 8 + 7, none⟩ = some (.slice i3.pA z.args.length i3.cA) := bel_cell hW.1.bel (E3.out 7 _ rfl)
       go_simp
       exact hK _ _ (Below.refl _ _) hW rfl
     refine ⟨fun a w hW hk K hK => ?_, ?_⟩
     · obtain ⟨k0, k1, -⟩ := hk
       have k0 : a.tmps.getD 85 undef = .agg #[.slice p m.length c] := k0
       have k1 : a.tmps.getD 90 undef = .agg #[.int .i64 z.op, .int .i64 z.a, .int .i64 z.b, .int .i64 z.c, .int .i64 z.k, .int .i64 z.n, .slice i3.pR z.regs.length i3.cR, .slice i3.pA z.args.length i3.cA] := k1
       have hC : Rd Try.prog 21 #[.agg #[.slice p m.length c], .agg #[.int .i64 z.op, .int .i64 z.a, .int .i64 z.b, .int .i64 z.c, .int .i64 z.k, .int .i64 z.n, .slice i3.pR z.regs.length i3.cR, .slice i3.pA z.args.length i3.cA]] w (.int .i64 (MIns.form m.length z)) := insForm_any m.length z i3 p c w
       go_simp
       refine hC.mono ?_
       rintro e w9 ⟨rfl, hb⟩
       exact hK _ _ hb ⟨hW.1.below hb, Below.andThen hW.2 hb⟩ rfl
     refine ⟨fun a w hW hk K hK => ?_, ?_⟩
     · obtain ⟨k0, -⟩ := hk
       have k0 : a.tmps.getD 91 undef = .int .i64 (MIns.form m.length z) := k0
       go_simp
       exact hK _ _ (Below.refl _ _) hW rfl
     trivial
    case hend =>
     intro ops a87 w87 hWD hE hFD
     have hd11 : a87.tmps.getD 11 undef = .int .i64 (MIns.form m.length z) := hE 11 rfl
     have hF87 : Fr 112 a87 [(11, .int .i64 (MIns.form m.length z)), (2, .int .i64 (bi : Int)), (1, .int .i64 (fi : Int)), (0, .agg #[.slice p m.length c]), (3, .pointer (some ⟨B2, 0, none⟩)), (6, .pointer (some ⟨B3, 0, none⟩)), (7, .pointer (some ⟨B6, 0, none⟩)), (8, .pointer (some ⟨B10, 0, none⟩)), (9, .int .i64 (listC y.regs y.params)), (10, .int .i64 (q : Int))] := (hFD.cons hd11)
     clear hd11
     have hW87 : Wd w w87 [(B10, #[.int .i64 y.regs, .slice b2.pP y.params.length b2.cP, .slice b2.pC y.code.length b2.cC, .int .i64 y.fin.op, .int .i64 y.fin.a, .int .i64 y.fin.yes.block, .slice b2.e.pYR y.fin.yes.regs.length b2.e.cYR, .slice b2.e.pYA y.fin.yes.args.length b2.e.cYA, .int .i64 y.fin.no.block, .slice b2.e.pNR y.fin.no.regs.length b2.e.cNR, .slice b2.e.pNA y.fin.no.args.length b2.e.cNA, .slice b2.e.pA y.fin.args.length b2.e.cA], 77), (B6, #[.int .i64 x.regs, .slice f1.pP x.params.length f1.cP, .slice f1.pR x.results.length f1.cR, .slice f1.pB x.blocks.length f1.cB], 50), (B3, #[.int .i64 0, .int .i64 0], 26), (B2, #[.slice p m.length c], 39)] := hWD.1
     clear hFD hWD hE hF86 h83
     clear hW80
     refine wpList_nil ?_
     refine hK85 _ _ ?_
     refine wp_seq_k fun K88 hK88 => ?_
     refine rg hF87 fun ops => ?_; clear hF87 a87
     refine sm trivial rfl rfl ?_
     refine sne trivial rfl rfl rfl ?_
     refine St.nil fun a89 h89 => ?_
     refine hK88 _ _ ?_
     refine fr_cond (t := 93) h89 rfl (fun hb => ?_) (fun hb => ?_)
     ·have h9 : ¬ (MIns.form m.length z) = 0 := bne_iff_ne.1 hb
      have hc90 : ¬ (MIns.form m.length z) = 0 := h9
      clear h9
      clear hb
      refine wp_seq_k fun K91 hK91 => ?_
      refine rg h89 fun ops => ?_; clear h89 a89
      refine sm trivial rfl rfl ?_
      refine sm trivial rfl rfl ?_
      refine sm trivial rfl rfl ?_
      refine sm trivial rfl rfl ?_
      refine sc_3 cf31 hW87 (atIns_any (f := fi) (b := bi) (i := q) ⟨by omega, by omega, by omega⟩) trivial rfl rfl rfl rfl ?_
      clear hW87; intro w92 hW92
      refine sc_2 cf48 hW92 (fF_any (xc := MIns.form m.length z) (xp := 10000 * (fi : Int) + 100 * (bi : Int) + (q : Int))) trivial rfl rfl rfl ?_
      clear hW92; intro w93 hW93
      refine sT 2 hW93 rfl rfl infFault rfl rfl rfl ?_
      clear hW93; intro w94 hW94
      refine St.nil fun a95 h95 => ?_
      refine hK91 _ _ ?_
      refine wp_ret ?_; with_reducible repeat first | refine of_then_ret ?_ | refine of_block_ret ?_
      have := hc44.out
      have := hc48.out
      have := hc57.out
      have RC : y.code' x bi = 0 := (if_neg (by omega)).trans ((if_neg (by omega)).trans ((if_neg (fun h9 => takes_yes ⟨by omega, hc66⟩ h9.2)).trans ((if_neg (by omega)).trans (rfl))))
      have EF := MBlock.fault_eq m.length fi x bi y
      rw [if_pos RC] at EF
      have RI : firstF (fun i z => (MIns.form m.length z, (10000 * fi + 100 * bi + i : Int))) 0 y.code = (MIns.form m.length z, (10000 * fi + 100 * bi + q : Int)) := by
        have h9 := firstF_eq (f := fun i z => (MIns.form m.length z, (10000 * fi + 100 * bi + i : Int))) (j := 0) hx3.out (fun k z hk hz => hall3 k z hk hz) hc90
        rwa [Nat.zero_add] at h9
      rw [RI, if_neg hc90] at EF
      exact ret_box 2 h95 hW94 rfl rfl rfl Try.underlying26 rfl infFault ⟨by show Ending.returned (.agg #[.int .i64 (MIns.form m.length z), .int .i64 (10000 * (fi : Int) + 100 * (bi : Int) + (q : Int))]) = _; rw [EF], hW94.bel⟩
     have h9 : (MIns.form m.length z) = 0 := bne_eq_false_iff_eq.1 hb
     have hc96 : Hid ((MIns.form m.length z) = 0) := h9
     clear h9
     clear hb
     refine wp_skip ?_
     refine hK84 _ _ ?_
     refine rg h89 fun ops => ?_; clear h89 a89
     refine sm trivial rfl rfl ?_
     refine sad (by omega) trivial rfl rfl rfl ?_
     refine sa trivial rfl rfl ?_
     refine St.nil fun a97 h97 => ?_
     refine hKL3 _ _ (y.code.length - (q + 1)) (by omega) ⟨q + 1, by omega, rfl, ?_, (h97.keep (h97.keep (h97.keep (h97.keep (h97.keep (h97.keep (h97.keep (h97.keep (h97.keep h97.nil (t := 10) rfl) (t := 9) rfl) (t := 8) rfl) (t := 7) rfl) (t := 6) rfl) (t := 3) rfl) (t := 0) rfl) (t := 1) rfl) (t := 2) rfl), hW87⟩
     ·intro j z hj hz
      by_cases e : j = q
      · subst e; rw [hx3.out] at hz; cases hz; exact hc96.out
      · exact hall3 j z (by omega) hz
   have hge3 : q = y.code.length := by have := of_decide_eq_false hb; omega
   clear hb
   refine wp_exit ?_
   refine hK77 _ _ ?_
   refine wp_seq_k fun K98 hK98 => ?_
   refine wp_seq_k fun K99 hK99 => ?_
   refine rg h83 fun ops => ?_; clear h83 a83
   refine sS 1 4 Try.underlying50 rfl infFunc hW80 trivial rfl rfl rfl rfl ?_
   refine sfBlock3 trivial rfl rfl ?_
   refine sS 0 9 Try.underlying54 rfl infEnd hW80 trivial rfl rfl rfl rfl ?_
   refine sc_2 cf23 hW80 (endForm_any (x := y.fin) (e := b2.e) (fr := x.regs) (fp := f1.pP) (fl := x.params.length) (fc := f1.cP) (fq := f1.pR) (fm := x.results.length) (fd := f1.cR) (fb := f1.pB) (bl := x.blocks.length) (fe := f1.cB) (by have := hs2.out.2.2.1; exact ⟨by have := this.1.1; omega, by have := this.1.2; omega, by have := this.2.1.1; omega, by have := this.2.1.2; omega⟩) (by have := hs1.out.1; omega)) trivial rfl rfl rfl ?_
   clear hW80; intro w100 hW100
   refine sa trivial rfl rfl ?_
   refine St.nil fun a101 h101 => ?_
   refine hK99 _ _ ?_
   refine wp_seq_k fun K102 hK102 => ?_
   refine rg h101 fun ops => ?_; clear h101 a101
   refine sm trivial rfl rfl ?_
   refine sne trivial rfl rfl rfl ?_
   refine St.nil fun a103 h103 => ?_
   refine hK102 _ _ ?_
   refine fr_cond (t := 105) h103 rfl (fun hb => ?_) (fun hb => ?_)
   ·have h9 : ¬ (y.fin.form x.blocks.length) = 0 := bne_iff_ne.1 hb
    have hc104 : ¬ (y.fin.form x.blocks.length) = 0 := h9
    clear h9
    clear hb
    refine wp_seq_k fun K105 hK105 => ?_
    refine rg h103 fun ops => ?_; clear h103 a103
    refine sm trivial rfl rfl ?_
    refine sm trivial rfl rfl ?_
    refine sm trivial rfl rfl ?_
    refine sc_2 cf29 hW100 (atEnd_any (f := fi) (b := bi) ⟨by omega, by omega⟩) trivial rfl rfl rfl ?_
    clear hW100; intro w106 hW106
    refine sc_2 cf48 hW106 (fF_any (xc := y.fin.form x.blocks.length) (xp := 10000 * (fi : Int) + 100 * (bi : Int) + 91)) trivial rfl rfl rfl ?_
    clear hW106; intro w107 hW107
    refine sT 2 hW107 rfl rfl infFault rfl rfl rfl ?_
    clear hW107; intro w108 hW108
    refine St.nil fun a109 h109 => ?_
    refine hK105 _ _ ?_
    refine wp_ret ?_; with_reducible repeat first | refine of_then_ret ?_ | refine of_block_ret ?_
    have := hc44.out
    have := hc48.out
    have := hc57.out
    have RC : y.code' x bi = 0 := (if_neg (by omega)).trans ((if_neg (by omega)).trans ((if_neg (fun h9 => takes_yes ⟨by omega, hc66⟩ h9.2)).trans ((if_neg (by omega)).trans (rfl))))
    have EF := MBlock.fault_eq m.length fi x bi y
    rw [if_pos RC] at EF
    have RI : firstF (fun i z => (MIns.form m.length z, (10000 * fi + 100 * bi + i : Int))) 0 y.code = (0, 0) := firstF_zero (fun k z hz => hall3 k z (by have := (List.getElem?_eq_some_iff.1 hz).1; omega) hz)
    rw [RI, if_pos rfl] at EF
    exact ret_box 2 h109 hW108 rfl rfl rfl Try.underlying26 rfl infFault ⟨by show Ending.returned (.agg #[.int .i64 (y.fin.form x.blocks.length), .int .i64 (10000 * (fi : Int) + 100 * (bi : Int) + 91)]) = _; rw [EF]; simp [atF, hc104], hW108.bel⟩
   have h9 : (y.fin.form x.blocks.length) = 0 := bne_eq_false_iff_eq.1 hb
   have hc110 : Hid ((y.fin.form x.blocks.length) = 0) := h9
   clear h9
   clear hb
   refine wp_skip ?_
   refine hK98 _ _ ?_
   refine wp_seq_k fun K111 hK111 => ?_
   refine rg h103 fun ops => ?_; clear h103 a103
   intro a112 h112
   refine fr_pure (t := 111) (v := .agg #[.int .i64 0, .int .i64 0]) (w' := w100) h112 rfl rfl rfl (fun K hK => ?_) ?_
   ·go_simp
    exact hK
   clear h112; intro a113 hF113
   refine St.go hF113 ?_; clear hF113 a113
   refine sT 2 hW100 rfl rfl infFault rfl rfl rfl ?_
   clear hW100; intro w114 hW114
   refine St.nil fun a115 h115 => ?_
   refine hK111 _ _ ?_
   refine wp_ret ?_; with_reducible repeat first | refine of_then_ret ?_ | refine of_block_ret ?_
   have := hc44.out
   have := hc48.out
   have := hc57.out
   have := hc110.out
   have RC : y.code' x bi = 0 := (if_neg (by omega)).trans ((if_neg (by omega)).trans ((if_neg (fun h9 => takes_yes ⟨by omega, hc66⟩ h9.2)).trans ((if_neg (by omega)).trans (rfl))))
   have EF := MBlock.fault_eq m.length fi x bi y
   rw [if_pos RC] at EF
   have RI : firstF (fun i z => (MIns.form m.length z, (10000 * fi + 100 * bi + i : Int))) 0 y.code = (0, 0) := firstF_zero (fun k z hz => hall3 k z (by have := (List.getElem?_eq_some_iff.1 hz).1; omega) hz)
   rw [RI, if_pos rfl] at EF
   exact ret_box 2 h115 hW114 rfl rfl rfl Try.underlying26 rfl infFault ⟨by show Ending.returned (.agg #[.int .i64 0, .int .i64 0]) = _; rw [EF]; simp [atF, hc110.out], hW114.bel⟩
  rw [hb] at h47
  have h9 : ¬ bi = 0 := by have h8 := ne_of_beq_false hb; omega
  have hc116 : ¬ bi = 0 := h9
  clear h9
  clear hb
  refine St.go h47 ?_; clear h47 a47
  refine so hg2 rfl rfl rfl rfl ?_
  refine so hg2 rfl rfl rfl rfl ?_
  refine so hg2 rfl rfl rfl rfl ?_
  refine so hg2 rfl rfl rfl rfl ?_
  refine so hg2 rfl rfl rfl rfl ?_
  refine so hg2 rfl rfl rfl rfl ?_
  refine so hg8 rfl rfl rfl rfl ?_
  refine so hg8 rfl rfl rfl rfl ?_
  refine so hg8 rfl rfl rfl rfl ?_
  refine so hg8 rfl rfl rfl rfl ?_
  refine so hg8 rfl rfl rfl rfl ?_
  refine so hg8 rfl rfl rfl rfl ?_
  refine so hg2 rfl rfl rfl rfl ?_
  refine spf trivial rfl rfl rfl ?_
  refine St.nil fun a117 h117 => ?_
  refine hK46 _ _ ?_
  refine fr_false (t := 65) h117 rfl ?_
  refine wp_skip ?_
  refine hK45 _ _ ?_
  refine wp_seq_k fun K118 hK118 => ?_
  refine wp_seq_k fun K119 hK119 => ?_
  refine rg h117 fun ops => ?_; clear h117 a117
  refine sfBlock2 trivial rfl rfl ?_
  refine sbInss 0 hW34 trivial rfl rfl rfl rfl ?_
  refine slInss trivial rfl rfl ?_
  refine sgt trivial rfl rfl rfl ?_
  refine St.nil fun a120 h120 => ?_
  refine hK119 _ _ ?_
  refine fr_cond (t := 73) h120 rfl (fun hb => ?_) (fun hb => ?_)
  ·have hc121 : 40 < y.code.length := by have := of_decide_eq_true hb; omega
   clear hb
   refine wp_seq_k fun K122 hK122 => ?_
   refine rg h120 fun ops => ?_; clear h120 a120
   refine sm trivial rfl rfl ?_
   refine sm trivial rfl rfl ?_
   refine sc_2 cf27 hW34 (atBlock_any (f := fi) (b := bi) ⟨by omega, by omega⟩) trivial rfl rfl rfl ?_
   clear hW34; intro w123 hW123
   refine sc_2 cf48 hW123 (fF_any (xc := 2) (xp := 10000 * (fi : Int) + 100 * (bi : Int) + 90)) trivial rfl rfl rfl ?_
   clear hW123; intro w124 hW124
   refine sT 2 hW124 rfl rfl infFault rfl rfl rfl ?_
   clear hW124; intro w125 hW125
   refine St.nil fun a126 h126 => ?_
   refine hK122 _ _ ?_
   refine wp_ret ?_; with_reducible repeat first | refine of_then_ret ?_ | refine of_block_ret ?_
   have := hc44.out
   have RC : y.code' x bi = 2 := (if_neg (by omega)).trans ((if_neg (by omega)).trans ((if_neg (by omega)).trans (if_pos (by omega))))
   have EF := MBlock.fault_eq m.length fi x bi y
   rw [RC, if_neg (by omega)] at EF
   exact ret_box 2 h126 hW125 rfl rfl rfl Try.underlying26 rfl infFault ⟨by show Ending.returned (.agg #[.int .i64 2, .int .i64 (10000 * (fi : Int) + 100 * (bi : Int) + 90)]) = _; rw [EF], hW125.bel⟩
  have hc127 : ¬ (40 < y.code.length) := by have := of_decide_eq_false hb; omega
  clear hb
  refine wp_skip ?_
  refine hK118 _ _ ?_
  refine wp_seq_k fun K128 hK128 => ?_
  refine wp_seq_k fun K129 hK129 => ?_
  refine rg h120 fun ops => ?_; clear h120 a120
  refine sa trivial rfl rfl ?_
  refine St.nil fun a130 h130 => ?_
  refine hK129 _ _ ?_
  refine wp_block ?_
  refine fr_loop (fun r a w' => ∃ q : Nat, q ≤ y.code.length ∧ r = y.code.length - q ∧ (∀ (j : Nat) z, j < q → y.code[j]? = some z → MIns.form m.length z = 0) ∧ Fr 112 a [(2, .int .i64 (bi : Int)), (1, .int .i64 (fi : Int)), (0, .agg #[.slice p m.length c]), (3, .pointer (some ⟨B2, 0, none⟩)), (6, .pointer (some ⟨B3, 0, none⟩)), (7, .pointer (some ⟨B6, 0, none⟩)), (8, .pointer (some ⟨B10, 0, none⟩)), (9, .int .i64 (listC y.regs y.params)), (10, .int .i64 (q : Int))] ∧ Wd w w' [(B10, #[.int .i64 y.regs, .slice b2.pP y.params.length b2.cP, .slice b2.pC y.code.length b2.cC, .int .i64 y.fin.op, .int .i64 y.fin.a, .int .i64 y.fin.yes.block, .slice b2.e.pYR y.fin.yes.regs.length b2.e.cYR, .slice b2.e.pYA y.fin.yes.args.length b2.e.cYA, .int .i64 y.fin.no.block, .slice b2.e.pNR y.fin.no.regs.length b2.e.cNR, .slice b2.e.pNA y.fin.no.args.length b2.e.cNA, .slice b2.e.pA y.fin.args.length b2.e.cA], 77), (B6, #[.int .i64 x.regs, .slice f1.pP x.params.length f1.cP, .slice f1.pR x.results.length f1.cR, .slice f1.pB x.blocks.length f1.cB], 50), (B3, #[.int .i64 0, .int .i64 0], 26), (B2, #[.slice p m.length c], 39)]) (y.code.length) ⟨0, Nat.zero_le _, rfl, (fun j z hj => by omega), (h130.keep (h130.keep (h130.keep (h130.keep (h130.keep (h130.keep (h130.keep (h130.keep (h130.keep h130.nil (t := 10) rfl) (t := 9) rfl) (t := 8) rfl) (t := 7) rfl) (t := 6) rfl) (t := 3) rfl) (t := 0) rfl) (t := 1) rfl) (t := 2) rfl), hW34⟩ ?_
  clear h130 hW34
  rintro r3 a131 w131 ⟨q, hq3, hr3, hall3, hF131, hW131⟩ KL3 hKL3
  refine wp_seq_k fun K132 hK132 => ?_
  refine wp_seq_k fun K133 hK133 => ?_
  refine rg hF131 fun ops => ?_; clear hF131 a131
  refine sm trivial rfl rfl ?_
  refine sfBlock2 trivial rfl rfl ?_
  refine sbInss 0 hW131 trivial rfl rfl rfl rfl ?_
  refine slInss trivial rfl rfl ?_
  refine slt trivial rfl rfl rfl ?_
  refine St.nil fun a134 h134 => ?_
  refine hK133 _ _ ?_
  refine fr_cond (t := 82) h134 rfl (fun hb => ?_) (fun hb => ?_)
  ·have hlt3 : q < y.code.length := by have := of_decide_eq_true hb; omega
   clear hb
   obtain ⟨z, hx3⟩ : ∃ v9, (y.code)[q]? = some v9 := ⟨_, List.getElem?_eq_getElem hlt3⟩
   obtain ⟨g3, o3, i3, hp3, E3, In3⟩ := ins_at In2.out.code hx3
   replace In3 : Hid _ := In3
   replace hp3 : Hid _ := hp3
   replace hx3 : Hid _ := hx3
   replace E3 : Hid _ := E3
   refine wp_skip ?_
   refine hK132 _ _ ?_
   refine wp_seq_k fun K135 hK135 => ?_
   refine wp_block ?_
   refine wp_seq_k fun K136 hK136 => ?_
   have hF137 : Fr 112 a134 [(2, .int .i64 (bi : Int)), (1, .int .i64 (fi : Int)), (0, .agg #[.slice p m.length c]), (3, .pointer (some ⟨B2, 0, none⟩)), (6, .pointer (some ⟨B3, 0, none⟩)), (7, .pointer (some ⟨B6, 0, none⟩)), (8, .pointer (some ⟨B10, 0, none⟩)), (9, .int .i64 (listC y.regs y.params)), (10, .int .i64 (q : Int))] := (h134.keep (h134.keep (h134.keep (h134.keep (h134.keep (h134.keep (h134.keep (h134.keep (h134.keep h134.nil (t := 10) rfl) (t := 9) rfl) (t := 8) rfl) (t := 7) rfl) (t := 6) rfl) (t := 3) rfl) (t := 0) rfl) (t := 1) rfl) (t := 2) rfl)
   have ho3 : a134.tmps.getD 3 undef = .pointer (some ⟨B2, 0, none⟩) := h134.sl 3 _ rfl
   have ho8 : a134.tmps.getD 8 undef = .pointer (some ⟨B10, 0, none⟩) := h134.sl 8 _ rfl
   have ho10 : a134.tmps.getD 10 undef = .int .i64 (q : Int) := h134.sl 10 _ rfl
   refine fr_draw_k 8 ([(3, fun v _ => v = .pointer (some ⟨B2, 0, none⟩)), (8, fun v _ => v = .pointer (some ⟨B10, 0, none⟩)), (10, fun v _ => v = .int .i64 (q : Int)), (85, fun v _ => v = .agg #[.slice p m.length c]), (86, fun v _ => v = .pointer (some ⟨B10, 2, none⟩)), (87, fun v _ => v = .slice b2.pC y.code.length b2.cC), (88, fun v _ => v = .int .i64 (q : Int)), (89, fun v _ => v = .pointer (some ⟨g3, o3 + q * 8, none⟩)), (90, fun v _ => v = .agg #[.int .i64 z.op, .int .i64 z.a, .int .i64 z.b, .int .i64 z.c, .int .i64 z.k, .int .i64 z.n, .slice i3.pR z.regs.length i3.cR, .slice i3.pA z.args.length i3.cA]), (91, fun v _ => v = .int .i64 (MIns.form m.length z)), (11, fun v _ => v = .int .i64 (MIns.form m.length z))] : PTab) (fun w' => Wd w w' [(B10, #[.int .i64 y.regs, .slice b2.pP y.params.length b2.cP, .slice b2.pC y.code.length b2.cC, .int .i64 y.fin.op, .int .i64 y.fin.a, .int .i64 y.fin.yes.block, .slice b2.e.pYR y.fin.yes.regs.length b2.e.cYR, .slice b2.e.pYA y.fin.yes.args.length b2.e.cYA, .int .i64 y.fin.no.block, .slice b2.e.pNR y.fin.no.regs.length b2.e.cNR, .slice b2.e.pNA y.fin.no.args.length b2.e.cNA, .slice b2.e.pA y.fin.args.length b2.e.cA], 77), (B6, #[.int .i64 x.regs, .slice f1.pP x.params.length f1.cP, .slice f1.pR x.results.length f1.cR, .slice f1.pB x.blocks.length f1.cB], 50), (B3, #[.int .i64 0, .int .i64 0], 26), (B2, #[.slice p m.length c], 39)] ∧ Below w131.heap.size w131 w') (fun w w' => Below w.heap.size w w') (outs := [3, 8, 10]) (gs := []) (bs := [true, true, true, true, true, true, true, true]) (by kernel_rfl) hF137 rfl (by kernel_rfl) (by kernel_rfl) ?hR ?hG ⟨hW131.drewN 1, drewN_below (m := 1) (Below.refl _ _)⟩ ⟨ho3, ho8, ho10, trivial⟩ ?hA ?hend
   case hR => exact ⟨fun _ _ _ _ h => h, fun _ _ _ _ h => h, fun _ _ _ _ h => h, fun _ _ _ _ h => h, fun _ _ _ _ h => h, fun _ _ _ _ h => h, fun _ _ _ _ h => h, fun _ _ _ _ h => h, fun _ _ _ _ h => h, fun _ _ _ _ h => h, fun _ _ _ _ h => h, trivial⟩
   case hG => exact trivial
   case hA =>
    refine ⟨fun a w hW hk K hK => ?_, ?_⟩
    · obtain ⟨k0, -⟩ := hk
      have k0 : a.tmps.getD 3 undef = .pointer (some ⟨B2, 0, none⟩) := k0
      have c0 : w.cell? ⟨B2, 0, none⟩ = some (.slice p m.length c) := cellOf (hW.1.get 3 rfl) 0 _ rfl
      go_simp
      exact hK _ _ (Below.refl _ _) hW rfl
    refine ⟨fun a w hW hk K hK => ?_, ?_⟩
    · obtain ⟨k0, -⟩ := hk
      have k0 : a.tmps.getD 8 undef = .pointer (some ⟨B10, 0, none⟩) := k0
      go_simp
      exact hK _ _ (Below.refl _ _) hW rfl
    refine ⟨fun a w hW hk K hK => ?_, ?_⟩
    · obtain ⟨k0, -⟩ := hk
      have k0 : a.tmps.getD 86 undef = .pointer (some ⟨B10, 2, none⟩) := k0
      have c2 : w.cell? ⟨B10, 2, none⟩ = some (.slice b2.pC y.code.length b2.cC) := cellOf (hW.1.get 0 rfl) 2 _ rfl
      go_simp
      exact hK _ _ (Below.refl _ _) hW rfl
    refine ⟨fun a w hW hk K hK => ?_, ?_⟩
    · obtain ⟨k0, -⟩ := hk
      have k0 : a.tmps.getD 10 undef = .int .i64 (q : Int) := k0
      go_simp
      exact hK _ _ (Below.refl _ _) hW rfl
    refine ⟨fun a w hW hk K hK => ?_, ?_⟩
    · obtain ⟨k0, k1, -⟩ := hk
      have k0 : a.tmps.getD 87 undef = .slice b2.pC y.code.length b2.cC := k0
      have k1 : a.tmps.getD 88 undef = .int .i64 (q : Int) := k1
      have hpq := hp3.out
      have hk0 : (0 : Int) ≤ q := by omega
      have hk1 : (q : Int) < (y.code.length : Int) := by omega
      go_simp
      exact hK _ _ (Below.refl _ _) hW rfl
    refine ⟨fun a w hW hk K hK => ?_, ?_⟩
    · obtain ⟨k0, -⟩ := hk
      have k0 : a.tmps.getD 89 undef = .pointer (some ⟨g3, o3 + q * 8, none⟩) := k0
      have d0 : w.cell? ⟨g3, o3 + q * 8, none⟩ = some (.int .i64 z.op) := bel_cell hW.1.bel (E3.out 0 _ rfl)
      have d1 : w.cell? ⟨g3, o3 + q * 8 + 1, none⟩ = some (.int .i64 z.a) := bel_cell hW.1.bel (E3.out 1 _ rfl)
      have d2 : w.cell? ⟨g3, o3 + q * 8 + 2, none⟩ = some (.int .i64 z.b) := bel_cell hW.1.bel (E3.out 2 _ rfl)
      have d3 : w.cell? ⟨g3, o3 + q * 8 + 3, none⟩ = some (.int .i64 z.c) := bel_cell hW.1.bel (E3.out 3 _ rfl)
      have d4 : w.cell? ⟨g3, o3 + q * 8 + 4, none⟩ = some (.int .i64 z.k) := bel_cell hW.1.bel (E3.out 4 _ rfl)
      have d5 : w.cell? ⟨g3, o3 + q * 8 + 5, none⟩ = some (.int .i64 z.n) := bel_cell hW.1.bel (E3.out 5 _ rfl)
      have d6 : w.cell? ⟨g3, o3 + q * 8 + 6, none⟩ = some (.slice i3.pR z.regs.length i3.cR) := bel_cell hW.1.bel (E3.out 6 _ rfl)
      have d7 : w.cell? ⟨g3, o3 + q * 8 + 7, none⟩ = some (.slice i3.pA z.args.length i3.cA) := bel_cell hW.1.bel (E3.out 7 _ rfl)
      go_simp
      exact hK _ _ (Below.refl _ _) hW rfl
    refine ⟨fun a w hW hk K hK => ?_, ?_⟩
    · obtain ⟨k0, k1, -⟩ := hk
      have k0 : a.tmps.getD 85 undef = .agg #[.slice p m.length c] := k0
      have k1 : a.tmps.getD 90 undef = .agg #[.int .i64 z.op, .int .i64 z.a, .int .i64 z.b, .int .i64 z.c, .int .i64 z.k, .int .i64 z.n, .slice i3.pR z.regs.length i3.cR, .slice i3.pA z.args.length i3.cA] := k1
      have hC : Rd Try.prog 21 #[.agg #[.slice p m.length c], .agg #[.int .i64 z.op, .int .i64 z.a, .int .i64 z.b, .int .i64 z.c, .int .i64 z.k, .int .i64 z.n, .slice i3.pR z.regs.length i3.cR, .slice i3.pA z.args.length i3.cA]] w (.int .i64 (MIns.form m.length z)) := insForm_any m.length z i3 p c w
      go_simp
      refine hC.mono ?_
      rintro e w9 ⟨rfl, hb⟩
      exact hK _ _ hb ⟨hW.1.below hb, Below.andThen hW.2 hb⟩ rfl
    refine ⟨fun a w hW hk K hK => ?_, ?_⟩
    · obtain ⟨k0, -⟩ := hk
      have k0 : a.tmps.getD 91 undef = .int .i64 (MIns.form m.length z) := k0
      go_simp
      exact hK _ _ (Below.refl _ _) hW rfl
    trivial
   case hend =>
    intro ops a138 w138 hWD hE hFD
    have hd11 : a138.tmps.getD 11 undef = .int .i64 (MIns.form m.length z) := hE 11 rfl
    have hF138 : Fr 112 a138 [(11, .int .i64 (MIns.form m.length z)), (2, .int .i64 (bi : Int)), (1, .int .i64 (fi : Int)), (0, .agg #[.slice p m.length c]), (3, .pointer (some ⟨B2, 0, none⟩)), (6, .pointer (some ⟨B3, 0, none⟩)), (7, .pointer (some ⟨B6, 0, none⟩)), (8, .pointer (some ⟨B10, 0, none⟩)), (9, .int .i64 (listC y.regs y.params)), (10, .int .i64 (q : Int))] := (hFD.cons hd11)
    clear hd11
    have hW138 : Wd w w138 [(B10, #[.int .i64 y.regs, .slice b2.pP y.params.length b2.cP, .slice b2.pC y.code.length b2.cC, .int .i64 y.fin.op, .int .i64 y.fin.a, .int .i64 y.fin.yes.block, .slice b2.e.pYR y.fin.yes.regs.length b2.e.cYR, .slice b2.e.pYA y.fin.yes.args.length b2.e.cYA, .int .i64 y.fin.no.block, .slice b2.e.pNR y.fin.no.regs.length b2.e.cNR, .slice b2.e.pNA y.fin.no.args.length b2.e.cNA, .slice b2.e.pA y.fin.args.length b2.e.cA], 77), (B6, #[.int .i64 x.regs, .slice f1.pP x.params.length f1.cP, .slice f1.pR x.results.length f1.cR, .slice f1.pB x.blocks.length f1.cB], 50), (B3, #[.int .i64 0, .int .i64 0], 26), (B2, #[.slice p m.length c], 39)] := hWD.1
    clear hFD hWD hE hF137 h134
    clear hW131
    refine wpList_nil ?_
    refine hK136 _ _ ?_
    refine wp_seq_k fun K139 hK139 => ?_
    refine rg hF138 fun ops => ?_; clear hF138 a138
    refine sm trivial rfl rfl ?_
    refine sne trivial rfl rfl rfl ?_
    refine St.nil fun a140 h140 => ?_
    refine hK139 _ _ ?_
    refine fr_cond (t := 93) h140 rfl (fun hb => ?_) (fun hb => ?_)
    ·have h9 : ¬ (MIns.form m.length z) = 0 := bne_iff_ne.1 hb
     have hc141 : ¬ (MIns.form m.length z) = 0 := h9
     clear h9
     clear hb
     refine wp_seq_k fun K142 hK142 => ?_
     refine rg h140 fun ops => ?_; clear h140 a140
     refine sm trivial rfl rfl ?_
     refine sm trivial rfl rfl ?_
     refine sm trivial rfl rfl ?_
     refine sm trivial rfl rfl ?_
     refine sc_3 cf31 hW138 (atIns_any (f := fi) (b := bi) (i := q) ⟨by omega, by omega, by omega⟩) trivial rfl rfl rfl rfl ?_
     clear hW138; intro w143 hW143
     refine sc_2 cf48 hW143 (fF_any (xc := MIns.form m.length z) (xp := 10000 * (fi : Int) + 100 * (bi : Int) + (q : Int))) trivial rfl rfl rfl ?_
     clear hW143; intro w144 hW144
     refine sT 2 hW144 rfl rfl infFault rfl rfl rfl ?_
     clear hW144; intro w145 hW145
     refine St.nil fun a146 h146 => ?_
     refine hK142 _ _ ?_
     refine wp_ret ?_; with_reducible repeat first | refine of_then_ret ?_ | refine of_block_ret ?_
     have := hc44.out
     have RC : y.code' x bi = 0 := (if_neg (by omega)).trans ((if_neg (by omega)).trans ((if_neg (by omega)).trans ((if_neg (by omega)).trans (rfl))))
     have EF := MBlock.fault_eq m.length fi x bi y
     rw [if_pos RC] at EF
     have RI : firstF (fun i z => (MIns.form m.length z, (10000 * fi + 100 * bi + i : Int))) 0 y.code = (MIns.form m.length z, (10000 * fi + 100 * bi + q : Int)) := by
       have h9 := firstF_eq (f := fun i z => (MIns.form m.length z, (10000 * fi + 100 * bi + i : Int))) (j := 0) hx3.out (fun k z hk hz => hall3 k z hk hz) hc141
       rwa [Nat.zero_add] at h9
     rw [RI, if_neg hc141] at EF
     exact ret_box 2 h146 hW145 rfl rfl rfl Try.underlying26 rfl infFault ⟨by show Ending.returned (.agg #[.int .i64 (MIns.form m.length z), .int .i64 (10000 * (fi : Int) + 100 * (bi : Int) + (q : Int))]) = _; rw [EF], hW145.bel⟩
    have h9 : (MIns.form m.length z) = 0 := bne_eq_false_iff_eq.1 hb
    have hc147 : Hid ((MIns.form m.length z) = 0) := h9
    clear h9
    clear hb
    refine wp_skip ?_
    refine hK135 _ _ ?_
    refine rg h140 fun ops => ?_; clear h140 a140
    refine sm trivial rfl rfl ?_
    refine sad (by omega) trivial rfl rfl rfl ?_
    refine sa trivial rfl rfl ?_
    refine St.nil fun a148 h148 => ?_
    refine hKL3 _ _ (y.code.length - (q + 1)) (by omega) ⟨q + 1, by omega, rfl, ?_, (h148.keep (h148.keep (h148.keep (h148.keep (h148.keep (h148.keep (h148.keep (h148.keep (h148.keep h148.nil (t := 10) rfl) (t := 9) rfl) (t := 8) rfl) (t := 7) rfl) (t := 6) rfl) (t := 3) rfl) (t := 0) rfl) (t := 1) rfl) (t := 2) rfl), hW138⟩
    ·intro j z hj hz
     by_cases e : j = q
     · subst e; rw [hx3.out] at hz; cases hz; exact hc147.out
     · exact hall3 j z (by omega) hz
  have hge3 : q = y.code.length := by have := of_decide_eq_false hb; omega
  clear hb
  refine wp_exit ?_
  refine hK128 _ _ ?_
  refine wp_seq_k fun K149 hK149 => ?_
  refine wp_seq_k fun K150 hK150 => ?_
  refine rg h134 fun ops => ?_; clear h134 a134
  refine sS 1 4 Try.underlying50 rfl infFunc hW131 trivial rfl rfl rfl rfl ?_
  refine sfBlock3 trivial rfl rfl ?_
  refine sS 0 9 Try.underlying54 rfl infEnd hW131 trivial rfl rfl rfl rfl ?_
  refine sc_2 cf23 hW131 (endForm_any (x := y.fin) (e := b2.e) (fr := x.regs) (fp := f1.pP) (fl := x.params.length) (fc := f1.cP) (fq := f1.pR) (fm := x.results.length) (fd := f1.cR) (fb := f1.pB) (bl := x.blocks.length) (fe := f1.cB) (by have := hs2.out.2.2.1; exact ⟨by have := this.1.1; omega, by have := this.1.2; omega, by have := this.2.1.1; omega, by have := this.2.1.2; omega⟩) (by have := hs1.out.1; omega)) trivial rfl rfl rfl ?_
  clear hW131; intro w151 hW151
  refine sa trivial rfl rfl ?_
  refine St.nil fun a152 h152 => ?_
  refine hK150 _ _ ?_
  refine wp_seq_k fun K153 hK153 => ?_
  refine rg h152 fun ops => ?_; clear h152 a152
  refine sm trivial rfl rfl ?_
  refine sne trivial rfl rfl rfl ?_
  refine St.nil fun a154 h154 => ?_
  refine hK153 _ _ ?_
  refine fr_cond (t := 105) h154 rfl (fun hb => ?_) (fun hb => ?_)
  ·have h9 : ¬ (y.fin.form x.blocks.length) = 0 := bne_iff_ne.1 hb
   have hc155 : ¬ (y.fin.form x.blocks.length) = 0 := h9
   clear h9
   clear hb
   refine wp_seq_k fun K156 hK156 => ?_
   refine rg h154 fun ops => ?_; clear h154 a154
   refine sm trivial rfl rfl ?_
   refine sm trivial rfl rfl ?_
   refine sm trivial rfl rfl ?_
   refine sc_2 cf29 hW151 (atEnd_any (f := fi) (b := bi) ⟨by omega, by omega⟩) trivial rfl rfl rfl ?_
   clear hW151; intro w157 hW157
   refine sc_2 cf48 hW157 (fF_any (xc := y.fin.form x.blocks.length) (xp := 10000 * (fi : Int) + 100 * (bi : Int) + 91)) trivial rfl rfl rfl ?_
   clear hW157; intro w158 hW158
   refine sT 2 hW158 rfl rfl infFault rfl rfl rfl ?_
   clear hW158; intro w159 hW159
   refine St.nil fun a160 h160 => ?_
   refine hK156 _ _ ?_
   refine wp_ret ?_; with_reducible repeat first | refine of_then_ret ?_ | refine of_block_ret ?_
   have := hc44.out
   have RC : y.code' x bi = 0 := (if_neg (by omega)).trans ((if_neg (by omega)).trans ((if_neg (by omega)).trans ((if_neg (by omega)).trans (rfl))))
   have EF := MBlock.fault_eq m.length fi x bi y
   rw [if_pos RC] at EF
   have RI : firstF (fun i z => (MIns.form m.length z, (10000 * fi + 100 * bi + i : Int))) 0 y.code = (0, 0) := firstF_zero (fun k z hz => hall3 k z (by have := (List.getElem?_eq_some_iff.1 hz).1; omega) hz)
   rw [RI, if_pos rfl] at EF
   exact ret_box 2 h160 hW159 rfl rfl rfl Try.underlying26 rfl infFault ⟨by show Ending.returned (.agg #[.int .i64 (y.fin.form x.blocks.length), .int .i64 (10000 * (fi : Int) + 100 * (bi : Int) + 91)]) = _; rw [EF]; simp [atF, hc155], hW159.bel⟩
  have h9 : (y.fin.form x.blocks.length) = 0 := bne_eq_false_iff_eq.1 hb
  have hc161 : Hid ((y.fin.form x.blocks.length) = 0) := h9
  clear h9
  clear hb
  refine wp_skip ?_
  refine hK149 _ _ ?_
  refine wp_seq_k fun K162 hK162 => ?_
  refine rg h154 fun ops => ?_; clear h154 a154
  intro a163 h163
  refine fr_pure (t := 111) (v := .agg #[.int .i64 0, .int .i64 0]) (w' := w151) h163 rfl rfl rfl (fun K hK => ?_) ?_
  ·go_simp
   exact hK
  clear h163; intro a164 hF164
  refine St.go hF164 ?_; clear hF164 a164
  refine sT 2 hW151 rfl rfl infFault rfl rfl rfl ?_
  clear hW151; intro w165 hW165
  refine St.nil fun a166 h166 => ?_
  refine hK162 _ _ ?_
  refine wp_ret ?_; with_reducible repeat first | refine of_then_ret ?_ | refine of_block_ret ?_
  have := hc44.out
  have := hc161.out
  have RC : y.code' x bi = 0 := (if_neg (by omega)).trans ((if_neg (by omega)).trans ((if_neg (by omega)).trans ((if_neg (by omega)).trans (rfl))))
  have EF := MBlock.fault_eq m.length fi x bi y
  rw [if_pos RC] at EF
  have RI : firstF (fun i z => (MIns.form m.length z, (10000 * fi + 100 * bi + i : Int))) 0 y.code = (0, 0) := firstF_zero (fun k z hz => hall3 k z (by have := (List.getElem?_eq_some_iff.1 hz).1; omega) hz)
  rw [RI, if_pos rfl] at EF
  exact ret_box 2 h166 hW165 rfl rfl rfl Try.underlying26 rfl infFault ⟨by show Ending.returned (.agg #[.int .i64 0, .int .i64 0]) = _; rw [EF]; simp [atF, hc161.out], hW165.bel⟩
end Go.Proofs.Ytmnmnokkojcodab
/-
  CodeFault: the reference's first fault of a module, at last.
-/
namespace Go.Proofs.Ytmnmnokkojcodab
open Go.ChangeShapes Go.WideShapes Go.ChangeAt Go.RowKit
set_option linter.unusedVariables false
set_option linter.unusedSimpArgs false

/-- As far as q results: may it be where a module begins? -/
def plB {n : Nat} (x : MFunc n) (q : Nat) : Bool := (x.regs == 0 && ((x.params.length : Int) == 0)) && (x.results.take q).all (fun t => t.kind == 1)
theorem plB_zero {n : Nat} (x : MFunc n) : plB x 0 = (x.regs == 0 && ((x.params.length : Int) == 0)) := by simp [plB]
theorem plB_succ {n : Nat} {x : MFunc n} {q : Nat} {t : TT n} (h : x.results[q]? = some t) : plB x (q + 1) = (plB x q && t.kind == 1) := by
  unfold plB
  rw [List.take_add_one, h, List.all_append]
  simp [Bool.and_assoc]
theorem plB_iff {n : Nat} (x : MFunc n) : plB x x.results.length = true ↔ x.begins := by
  unfold plB MFunc.begins
  rw [List.take_length]
  simp only [Bool.and_eq_true, beq_iff_eq]
  constructor
  · rintro ⟨⟨h1, h2⟩, h3⟩; exact ⟨h1, by omega, h3⟩
  · rintro ⟨h1, h2, h3⟩; exact ⟨⟨h1, by omega⟩, h3⟩

set_option maxHeartbeats 4000000 in
set_option maxRecDepth 100000 in
theorem codeFault_any {n : Nat} {m : List (MFunc n)} {p : Option Addr} {c : Nat} {w : World} (hm0 : (modL n).In w All m [.slice p m.length c]) (hs0 : msmall m) :
    Rd Try.prog 16 #[.agg #[.slice p m.length c]] w (faultV (modFault m)) := by
  have hm : Hid _ := hm0
  have hms : Hid _ := hs0
  have hmb := hs0.1
  clear hm0 hs0
  refine fr_enter (n := 129) Try.func16 rfl rfl rfl ?_
  intro a hF
  have hW := Wd.start w
  replace hF : Fr 129 a [(0, .agg #[.slice p m.length c])] := hF
  refine wp_seq_k fun K1 hK1 => ?_
  refine rg hF fun ops => ?_; clear hF a
  refine sB hW trivial rfl rfl ?_
  clear hW; intro w2 B2 hW2 hN; clear hN
  refine sAFault hW2 trivial rfl ?_
  clear hW2; intro w3 B3 hW3 hN; clear hN
  refine St.nil fun a4 h4 => ?_
  refine hK1 _ _ ?_
  refine wp_seq_k fun K5 hK5 => ?_
  refine wp_seq_k fun K6 hK6 => ?_
  refine fr_region ?_
  intro ops hops
  have hg4 : (ops[4]?).bind (fun o : Oper => o.dst) = some 15 := hops 4
  clear hops
  refine St.go h4 ?_; clear h4 a4
  refine sfModule0 trivial rfl rfl ?_
  refine sbFuncs 1 hW3 trivial rfl rfl rfl rfl ?_
  refine slFuncs trivial rfl rfl ?_
  refine slt trivial rfl rfl rfl ?_
  refine sm trivial rfl rfl ?_
  intro a7 h7
  rcases Bool.eq_false_or_eq_true (decide ((m.length : Int) < 1)) with hb | hb
  ·rw [hb] at h7
   have hc8 : m.length < 1 := by have := of_decide_eq_true hb; omega
   clear hb
   refine St.go h7 ?_; clear h7 a7
   refine so hg4 rfl rfl rfl rfl ?_
   refine so hg4 rfl rfl rfl rfl ?_
   refine so hg4 rfl rfl rfl rfl ?_
   refine so hg4 rfl rfl rfl rfl ?_
   refine sp trivial rfl rfl rfl ?_
   refine St.nil fun a9 h9 => ?_
   refine hK6 _ _ ?_
   refine fr_true (t := 20) h9 rfl ?_
   refine wp_seq_k fun K10 hK10 => ?_
   refine rg h9 fun ops => ?_; clear h9 a9
   refine sc_2 cf48 hW3 (fF_any (xc := 2) (xp := -1)) trivial rfl rfl rfl ?_
   clear hW3; intro w11 hW11
   refine sT 0 hW11 rfl rfl infFault rfl rfl rfl ?_
   clear hW11; intro w12 hW12
   refine St.nil fun a13 h13 => ?_
   refine hK10 _ _ ?_
   refine wp_ret ?_; with_reducible repeat first | refine of_then_ret ?_ | refine of_block_ret ?_
   have R : modFault m = (2, -1) := if_pos (by omega)
   exact ret_box 0 h13 hW12 rfl rfl rfl Try.underlying26 rfl infFault ⟨by show Ending.returned (.agg #[.int .i64 2, .int .i64 (-1)]) = _; rw [R], hW12.bel⟩
  rw [hb] at h7
  have hc14 : ¬ (m.length < 1) := by have := of_decide_eq_false hb; omega
  clear hb
  refine St.go h7 ?_; clear h7 a7
  refine sfModule0 ⟨_, hg4, rfl, rfl⟩ rfl rfl ?_
  refine sbFuncs 1 hW3 ⟨_, hg4, rfl, rfl⟩ rfl rfl rfl rfl ?_
  refine slFuncs ⟨_, hg4, rfl, rfl⟩ rfl rfl ?_
  refine sgt ⟨_, hg4, rfl, rfl⟩ rfl rfl rfl ?_
  refine spf trivial rfl rfl rfl ?_
  refine St.nil fun a15 h15 => ?_
  refine hK6 _ _ ?_
  refine fr_cond (t := 20) h15 rfl (fun hb => ?_) (fun hb => ?_)
  ·have hc16 : 8 < m.length := by have := of_decide_eq_true hb; omega
   clear hb
   refine wp_seq_k fun K17 hK17 => ?_
   refine rg h15 fun ops => ?_; clear h15 a15
   refine sc_2 cf48 hW3 (fF_any (xc := 2) (xp := -1)) trivial rfl rfl rfl ?_
   clear hW3; intro w18 hW18
   refine sT 0 hW18 rfl rfl infFault rfl rfl rfl ?_
   clear hW18; intro w19 hW19
   refine St.nil fun a20 h20 => ?_
   refine hK17 _ _ ?_
   refine wp_ret ?_; with_reducible repeat first | refine of_then_ret ?_ | refine of_block_ret ?_
   have R : modFault m = (2, -1) := if_pos (by omega)
   exact ret_box 0 h20 hW19 rfl rfl rfl Try.underlying26 rfl infFault ⟨by show Ending.returned (.agg #[.int .i64 2, .int .i64 (-1)]) = _; rw [R], hW19.bel⟩
  have hc21 : ¬ (8 < m.length) := by have := of_decide_eq_false hb; omega
  clear hb
  refine wp_skip ?_
  refine hK5 _ _ ?_
  refine wp_seq_k fun K22 hK22 => ?_
  refine wp_seq_k fun K23 hK23 => ?_
  refine rg h15 fun ops => ?_; clear h15 a15
  refine sa trivial rfl rfl ?_
  refine St.nil fun a24 h24 => ?_
  refine hK23 _ _ ?_
  refine wp_block ?_
  refine fr_loop (fun r a w' => ∃ q1 : Nat, q1 ≤ m.length ∧ r = m.length - q1 ∧ (∀ (j : Nat) z, j < q1 → m[j]? = some z → (MFunc.fault m.length j z).1 = 0) ∧ Fr 129 a [(0, .agg #[.slice p m.length c]), (1, .pointer (some ⟨B2, 0, none⟩)), (2, .pointer (some ⟨B3, 0, none⟩)), (3, .int .i64 (q1 : Int))] ∧ Wd w w' [(B3, #[.int .i64 0, .int .i64 0], 26), (B2, #[.slice p m.length c], 39)]) (m.length) ⟨0, Nat.zero_le _, rfl, (fun j z hj => by omega), (h24.keep (h24.keep (h24.keep (h24.keep h24.nil (t := 3) rfl) (t := 2) rfl) (t := 1) rfl) (t := 0) rfl), hW3⟩ ?_
  clear h24 hW3
  rintro r1 a25 w25 ⟨q1, hq1, hr1, hall1, hF25, hW25⟩ KL1 hKL1
  refine wp_seq_k fun K26 hK26 => ?_
  refine wp_seq_k fun K27 hK27 => ?_
  refine rg hF25 fun ops => ?_; clear hF25 a25
  refine sm trivial rfl rfl ?_
  refine sfModule0 trivial rfl rfl ?_
  refine sbFuncs 1 hW25 trivial rfl rfl rfl rfl ?_
  refine slFuncs trivial rfl rfl ?_
  refine slt trivial rfl rfl rfl ?_
  refine St.nil fun a28 h28 => ?_
  refine hK27 _ _ ?_
  refine fr_cond (t := 26) h28 rfl (fun hb => ?_) (fun hb => ?_)
  ·have hlt1 : q1 < m.length := by have := of_decide_eq_true hb; omega
   clear hb
   obtain ⟨x, hx1⟩ : ∃ v9, (m)[q1]? = some v9 := ⟨_, List.getElem?_eq_getElem hlt1⟩
   obtain ⟨g1, o1, f1, hp1, E1, In1⟩ := func_at hm.out hx1
   replace In1 : Hid _ := In1
   replace hp1 : Hid _ := hp1
   replace hx1 : Hid _ := hx1
   replace E1 : Hid _ := E1
   have hs1 : Hid x.small := hms.out.2 _ (List.mem_of_getElem? hx1.out)
   have hxb := hs1.out.1
   have hrb := hs1.out.2.2.1.1
   refine wp_skip ?_
   refine hK26 _ _ ?_
   refine wp_seq_k fun K29 hK29 => ?_
   refine wp_block ?_
   refine wp_seq_k fun K30 hK30 => ?_
   refine rg h28 fun ops => ?_; clear h28 a28
   refine sfModule0 trivial rfl rfl ?_
   refine sbFuncs 1 hW25 trivial rfl rfl rfl rfl ?_
   refine sm trivial rfl rfl ?_
   refine siFuncs hp1.out hlt1 trivial rfl rfl rfl ?_
   refine sSE Try.underlying50 rfl (rangeAt_bel E1.out hW25.bel) infFunc trivial rfl rfl ?_
   refine sAFunc hW25 trivial rfl ?_
   clear hW25; intro w31 B31 hW31 hN; clear hN
   refine sT 0 hW31 rfl rfl infFunc rfl rfl rfl ?_
   clear hW31; intro w32 hW32
   refine St.nil fun a33 h33 => ?_
   refine hK30 _ _ ?_
   refine wp_seq_k fun K34 hK34 => ?_
   refine wp_seq_k fun K35 hK35 => ?_
   refine fr_region ?_
   intro ops hops
   have hg3 : (ops[3]?).bind (fun o : Oper => o.dst) = some 37 := hops 3
   clear hops
   refine St.go h33 ?_; clear h33 a33
   refine sfFunc0 trivial rfl rfl ?_
   refine sbInt 0 hW32 trivial rfl rfl rfl rfl ?_
   refine slt trivial rfl rfl rfl ?_
   refine sm trivial rfl rfl ?_
   intro a36 h36
   rcases Bool.eq_false_or_eq_true (decide (x.regs < 0)) with hb | hb
   ·rw [hb] at h36
    have hc37 : x.regs < 0 := of_decide_eq_true hb
    clear hb
    refine St.go h36 ?_; clear h36 a36
    refine so hg3 rfl rfl rfl rfl ?_
    refine so hg3 rfl rfl rfl rfl ?_
    refine so hg3 rfl rfl rfl rfl ?_
    refine sp trivial rfl rfl rfl ?_
    refine St.nil fun a38 h38 => ?_
    refine hK35 _ _ ?_
    refine fr_true (t := 41) h38 rfl ?_
    refine wp_seq_k fun K39 hK39 => ?_
    refine rg h38 fun ops => ?_; clear h38 a38
    refine sm trivial rfl rfl ?_
    refine sc_1 cf25 hW32 (atFunc_any (f := q1) (by omega)) trivial rfl rfl ?_
    clear hW32; intro w40 hW40
    refine sc_2 cf48 hW40 (fF_any (xc := 1) (xp := 10000 * (q1 : Int) + 9999)) trivial rfl rfl rfl ?_
    clear hW40; intro w41 hW41
    refine sT 1 hW41 rfl rfl infFault rfl rfl rfl ?_
    clear hW41; intro w42 hW42
    refine St.nil fun a43 h43 => ?_
    refine hK39 _ _ ?_
    refine wp_ret ?_; with_reducible repeat first | refine of_then_ret ?_ | refine of_block_ret ?_
    have RM : (MFunc.fault m.length q1 x).1 ≠ 0 → modFault m = MFunc.fault m.length q1 x := fun hz => (if_neg (by omega)).trans (by have h9 := firstF_eq (f := fun f x => MFunc.fault m.length f x) (j := 0) hx1.out (fun k y hk hy => by rw [Nat.zero_add]; exact hall1 k y hk hy) (by rw [Nat.zero_add]; exact hz); rwa [Nat.zero_add] at h9)
    have RC : x.code q1 = 1 := by exact if_pos (by omega)
    have EF : MFunc.fault m.length q1 x = (1, 10000 * (q1 : Int) + 9999) := by rw [MFunc.fault_eq, RC, if_neg (by omega)]
    exact ret_box 1 h43 hW42 rfl rfl rfl Try.underlying26 rfl infFault ⟨by show Ending.returned (.agg #[.int .i64 1, .int .i64 (10000 * (q1 : Int) + 9999)]) = _; rw [RM (by rw [EF]; show _ ≠ _; omega), EF], hW42.bel⟩
   rw [hb] at h36
   have hc44 : ¬ (x.regs < 0) := of_decide_eq_false hb
   clear hb
   refine St.go h36 ?_; clear h36 a36
   refine sfFunc0 ⟨_, hg3, rfl, rfl⟩ rfl rfl ?_
   refine sbInt 0 hW32 ⟨_, hg3, rfl, rfl⟩ rfl rfl rfl rfl ?_
   refine sgt ⟨_, hg3, rfl, rfl⟩ rfl rfl rfl ?_
   refine spf trivial rfl rfl rfl ?_
   refine St.nil fun a45 h45 => ?_
   refine hK35 _ _ ?_
   refine fr_cond (t := 41) h45 rfl (fun hb => ?_) (fun hb => ?_)
   ·have hc46 : 6 < x.regs := of_decide_eq_true hb
    clear hb
    refine wp_seq_k fun K47 hK47 => ?_
    refine rg h45 fun ops => ?_; clear h45 a45
    refine sm trivial rfl rfl ?_
    refine sc_1 cf25 hW32 (atFunc_any (f := q1) (by omega)) trivial rfl rfl ?_
    clear hW32; intro w48 hW48
    refine sc_2 cf48 hW48 (fF_any (xc := 1) (xp := 10000 * (q1 : Int) + 9999)) trivial rfl rfl rfl ?_
    clear hW48; intro w49 hW49
    refine sT 1 hW49 rfl rfl infFault rfl rfl rfl ?_
    clear hW49; intro w50 hW50
    refine St.nil fun a51 h51 => ?_
    refine hK47 _ _ ?_
    refine wp_ret ?_; with_reducible repeat first | refine of_then_ret ?_ | refine of_block_ret ?_
    have RM : (MFunc.fault m.length q1 x).1 ≠ 0 → modFault m = MFunc.fault m.length q1 x := fun hz => (if_neg (by omega)).trans (by have h9 := firstF_eq (f := fun f x => MFunc.fault m.length f x) (j := 0) hx1.out (fun k y hk hy => by rw [Nat.zero_add]; exact hall1 k y hk hy) (by rw [Nat.zero_add]; exact hz); rwa [Nat.zero_add] at h9)
    have RC : x.code q1 = 1 := by exact if_pos (by omega)
    have EF : MFunc.fault m.length q1 x = (1, 10000 * (q1 : Int) + 9999) := by rw [MFunc.fault_eq, RC, if_neg (by omega)]
    exact ret_box 1 h51 hW50 rfl rfl rfl Try.underlying26 rfl infFault ⟨by show Ending.returned (.agg #[.int .i64 1, .int .i64 (10000 * (q1 : Int) + 9999)]) = _; rw [RM (by rw [EF]; show _ ≠ _; omega), EF], hW50.bel⟩
   have hc52 : ¬ (6 < x.regs) := of_decide_eq_false hb
   clear hb
   refine wp_skip ?_
   refine hK34 _ _ ?_
   refine wp_seq_k fun K53 hK53 => ?_
   refine wp_seq_k fun K54 hK54 => ?_
   refine rg h45 fun ops => ?_; clear h45 a45
   refine sfFunc1 trivial rfl rfl ?_
   refine sbTypes 0 hW32 trivial rfl rfl rfl rfl ?_
   refine sfFunc0 trivial rfl rfl ?_
   refine sbInt 0 hW32 trivial rfl rfl rfl rfl ?_
   refine sc_2 cf49 hW32 (listForm_any (regs := x.regs) (Lay.below In1.out.params hW32.bel) hs1.out.2.1) trivial rfl rfl rfl ?_
   clear hW32; intro w55 hW55
   refine sa trivial rfl rfl ?_
   refine St.nil fun a56 h56 => ?_
   refine hK54 _ _ ?_
   refine wp_seq_k fun K57 hK57 => ?_
   refine rg h56 fun ops => ?_; clear h56 a56
   refine sm trivial rfl rfl ?_
   refine sne trivial rfl rfl rfl ?_
   refine St.nil fun a58 h58 => ?_
   refine hK57 _ _ ?_
   refine fr_cond (t := 51) h58 rfl (fun hb => ?_) (fun hb => ?_)
   ·have h9 : ¬ (listC x.regs x.params) = 0 := bne_iff_ne.1 hb
    have hc59 : ¬ (listC x.regs x.params) = 0 := h9
    clear h9
    clear hb
    refine wp_seq_k fun K60 hK60 => ?_
    refine rg h58 fun ops => ?_; clear h58 a58
    refine sm trivial rfl rfl ?_
    refine sm trivial rfl rfl ?_
    refine sc_1 cf25 hW55 (atFunc_any (f := q1) (by omega)) trivial rfl rfl ?_
    clear hW55; intro w61 hW61
    refine sc_2 cf48 hW61 (fF_any (xc := listC x.regs x.params) (xp := 10000 * (q1 : Int) + 9999)) trivial rfl rfl rfl ?_
    clear hW61; intro w62 hW62
    refine sT 1 hW62 rfl rfl infFault rfl rfl rfl ?_
    clear hW62; intro w63 hW63
    refine St.nil fun a64 h64 => ?_
    refine hK60 _ _ ?_
    refine wp_ret ?_; with_reducible repeat first | refine of_then_ret ?_ | refine of_block_ret ?_
    have RM : (MFunc.fault m.length q1 x).1 ≠ 0 → modFault m = MFunc.fault m.length q1 x := fun hz => (if_neg (by omega)).trans (by have h9 := firstF_eq (f := fun f x => MFunc.fault m.length f x) (j := 0) hx1.out (fun k y hk hy => by rw [Nat.zero_add]; exact hall1 k y hk hy) (by rw [Nat.zero_add]; exact hz); rwa [Nat.zero_add] at h9)
    have RC : x.code q1 = listC x.regs x.params := by exact (if_neg (by omega)).trans (if_pos (by omega))
    have EF : MFunc.fault m.length q1 x = (listC x.regs x.params, 10000 * (q1 : Int) + 9999) := by rw [MFunc.fault_eq, RC, if_neg (by omega)]
    exact ret_box 1 h64 hW63 rfl rfl rfl Try.underlying26 rfl infFault ⟨by show Ending.returned (.agg #[.int .i64 (listC x.regs x.params), .int .i64 (10000 * (q1 : Int) + 9999)]) = _; rw [RM (by rw [EF]; show _ ≠ _; omega), EF], hW63.bel⟩
   have h9 : (listC x.regs x.params) = 0 := bne_eq_false_iff_eq.1 hb
   have hc65 : Hid ((listC x.regs x.params) = 0) := h9
   clear h9
   clear hb
   refine wp_skip ?_
   refine hK53 _ _ ?_
   refine wp_seq_k fun K66 hK66 => ?_
   refine wp_seq_k fun K67 hK67 => ?_
   refine rg h58 fun ops => ?_; clear h58 a58
   refine sfFunc2 trivial rfl rfl ?_
   refine sbTypes 0 hW55 trivial rfl rfl rfl rfl ?_
   refine sfFunc0 trivial rfl rfl ?_
   refine sbInt 0 hW55 trivial rfl rfl rfl rfl ?_
   refine sc_2 cf49 hW55 (listForm_any (regs := x.regs) (Lay.below In1.out.results hW55.bel) hs1.out.2.2.1) trivial rfl rfl rfl ?_
   clear hW55; intro w68 hW68
   refine sa trivial rfl rfl ?_
   refine St.nil fun a69 h69 => ?_
   refine hK67 _ _ ?_
   refine wp_seq_k fun K70 hK70 => ?_
   refine rg h69 fun ops => ?_; clear h69 a69
   refine sm trivial rfl rfl ?_
   refine sne trivial rfl rfl rfl ?_
   refine St.nil fun a71 h71 => ?_
   refine hK70 _ _ ?_
   refine fr_cond (t := 62) h71 rfl (fun hb => ?_) (fun hb => ?_)
   ·have h9 : ¬ (listC x.regs x.results) = 0 := bne_iff_ne.1 hb
    have hc72 : ¬ (listC x.regs x.results) = 0 := h9
    clear h9
    clear hb
    refine wp_seq_k fun K73 hK73 => ?_
    refine rg h71 fun ops => ?_; clear h71 a71
    refine sm trivial rfl rfl ?_
    refine sm trivial rfl rfl ?_
    refine sc_1 cf25 hW68 (atFunc_any (f := q1) (by omega)) trivial rfl rfl ?_
    clear hW68; intro w74 hW74
    refine sc_2 cf48 hW74 (fF_any (xc := listC x.regs x.results) (xp := 10000 * (q1 : Int) + 9999)) trivial rfl rfl rfl ?_
    clear hW74; intro w75 hW75
    refine sT 1 hW75 rfl rfl infFault rfl rfl rfl ?_
    clear hW75; intro w76 hW76
    refine St.nil fun a77 h77 => ?_
    refine hK73 _ _ ?_
    refine wp_ret ?_; with_reducible repeat first | refine of_then_ret ?_ | refine of_block_ret ?_
    have RM : (MFunc.fault m.length q1 x).1 ≠ 0 → modFault m = MFunc.fault m.length q1 x := fun hz => (if_neg (by omega)).trans (by have h9 := firstF_eq (f := fun f x => MFunc.fault m.length f x) (j := 0) hx1.out (fun k y hk hy => by rw [Nat.zero_add]; exact hall1 k y hk hy) (by rw [Nat.zero_add]; exact hz); rwa [Nat.zero_add] at h9)
    have RC : x.code q1 = listC x.regs x.results := by have := hc65.out; exact (if_neg (by omega)).trans ((if_neg (by omega)).trans (if_pos (by omega)))
    have EF : MFunc.fault m.length q1 x = (listC x.regs x.results, 10000 * (q1 : Int) + 9999) := by rw [MFunc.fault_eq, RC, if_neg (by omega)]
    exact ret_box 1 h77 hW76 rfl rfl rfl Try.underlying26 rfl infFault ⟨by show Ending.returned (.agg #[.int .i64 (listC x.regs x.results), .int .i64 (10000 * (q1 : Int) + 9999)]) = _; rw [RM (by rw [EF]; show _ ≠ _; omega), EF], hW76.bel⟩
   have h9 : (listC x.regs x.results) = 0 := bne_eq_false_iff_eq.1 hb
   have hc78 : Hid ((listC x.regs x.results) = 0) := h9
   clear h9
   clear hb
   refine wp_skip ?_
   refine hK66 _ _ ?_
   refine wp_seq_k fun K79 hK79 => ?_
   refine wp_seq_k fun K80 hK80 => ?_
   refine fr_region ?_
   intro ops hops
   have hg4 : (ops[4]?).bind (fun o : Oper => o.dst) = some 71 := hops 4
   clear hops
   refine St.go h71 ?_; clear h71 a71
   refine sfFunc3 trivial rfl rfl ?_
   refine sbBlocks 0 hW68 trivial rfl rfl rfl rfl ?_
   refine slBlocks trivial rfl rfl ?_
   refine slt trivial rfl rfl rfl ?_
   refine sm trivial rfl rfl ?_
   intro a81 h81
   rcases Bool.eq_false_or_eq_true (decide ((x.blocks.length : Int) < 1)) with hb | hb
   ·rw [hb] at h81
    have hc82 : x.blocks.length < 1 := by have := of_decide_eq_true hb; omega
    clear hb
    refine St.go h81 ?_; clear h81 a81
    refine so hg4 rfl rfl rfl rfl ?_
    refine so hg4 rfl rfl rfl rfl ?_
    refine so hg4 rfl rfl rfl rfl ?_
    refine so hg4 rfl rfl rfl rfl ?_
    refine sp trivial rfl rfl rfl ?_
    refine St.nil fun a83 h83 => ?_
    refine hK80 _ _ ?_
    refine fr_true (t := 76) h83 rfl ?_
    refine wp_seq_k fun K84 hK84 => ?_
    refine rg h83 fun ops => ?_; clear h83 a83
    refine sm trivial rfl rfl ?_
    refine sc_1 cf25 hW68 (atFunc_any (f := q1) (by omega)) trivial rfl rfl ?_
    clear hW68; intro w85 hW85
    refine sc_2 cf48 hW85 (fF_any (xc := 2) (xp := 10000 * (q1 : Int) + 9999)) trivial rfl rfl rfl ?_
    clear hW85; intro w86 hW86
    refine sT 1 hW86 rfl rfl infFault rfl rfl rfl ?_
    clear hW86; intro w87 hW87
    refine St.nil fun a88 h88 => ?_
    refine hK84 _ _ ?_
    refine wp_ret ?_; with_reducible repeat first | refine of_then_ret ?_ | refine of_block_ret ?_
    have RM : (MFunc.fault m.length q1 x).1 ≠ 0 → modFault m = MFunc.fault m.length q1 x := fun hz => (if_neg (by omega)).trans (by have h9 := firstF_eq (f := fun f x => MFunc.fault m.length f x) (j := 0) hx1.out (fun k y hk hy => by rw [Nat.zero_add]; exact hall1 k y hk hy) (by rw [Nat.zero_add]; exact hz); rwa [Nat.zero_add] at h9)
    have RC : x.code q1 = 2 := by have := hc65.out; have := hc78.out; exact (if_neg (by omega)).trans ((if_neg (by omega)).trans ((if_neg (by omega)).trans (if_pos (by omega))))
    have EF : MFunc.fault m.length q1 x = (2, 10000 * (q1 : Int) + 9999) := by rw [MFunc.fault_eq, RC, if_neg (by omega)]
    exact ret_box 1 h88 hW87 rfl rfl rfl Try.underlying26 rfl infFault ⟨by show Ending.returned (.agg #[.int .i64 2, .int .i64 (10000 * (q1 : Int) + 9999)]) = _; rw [RM (by rw [EF]; show _ ≠ _; omega), EF], hW87.bel⟩
   rw [hb] at h81
   have hc89 : ¬ (x.blocks.length < 1) := by have := of_decide_eq_false hb; omega
   clear hb
   refine St.go h81 ?_; clear h81 a81
   refine sfFunc3 ⟨_, hg4, rfl, rfl⟩ rfl rfl ?_
   refine sbBlocks 0 hW68 ⟨_, hg4, rfl, rfl⟩ rfl rfl rfl rfl ?_
   refine slBlocks ⟨_, hg4, rfl, rfl⟩ rfl rfl ?_
   refine sgt ⟨_, hg4, rfl, rfl⟩ rfl rfl rfl ?_
   refine spf trivial rfl rfl rfl ?_
   refine St.nil fun a90 h90 => ?_
   refine hK80 _ _ ?_
   refine fr_cond (t := 76) h90 rfl (fun hb => ?_) (fun hb => ?_)
   ·have hc91 : 12 < x.blocks.length := by have := of_decide_eq_true hb; omega
    clear hb
    refine wp_seq_k fun K92 hK92 => ?_
    refine rg h90 fun ops => ?_; clear h90 a90
    refine sm trivial rfl rfl ?_
    refine sc_1 cf25 hW68 (atFunc_any (f := q1) (by omega)) trivial rfl rfl ?_
    clear hW68; intro w93 hW93
    refine sc_2 cf48 hW93 (fF_any (xc := 2) (xp := 10000 * (q1 : Int) + 9999)) trivial rfl rfl rfl ?_
    clear hW93; intro w94 hW94
    refine sT 1 hW94 rfl rfl infFault rfl rfl rfl ?_
    clear hW94; intro w95 hW95
    refine St.nil fun a96 h96 => ?_
    refine hK92 _ _ ?_
    refine wp_ret ?_; with_reducible repeat first | refine of_then_ret ?_ | refine of_block_ret ?_
    have RM : (MFunc.fault m.length q1 x).1 ≠ 0 → modFault m = MFunc.fault m.length q1 x := fun hz => (if_neg (by omega)).trans (by have h9 := firstF_eq (f := fun f x => MFunc.fault m.length f x) (j := 0) hx1.out (fun k y hk hy => by rw [Nat.zero_add]; exact hall1 k y hk hy) (by rw [Nat.zero_add]; exact hz); rwa [Nat.zero_add] at h9)
    have RC : x.code q1 = 2 := by have := hc65.out; have := hc78.out; exact (if_neg (by omega)).trans ((if_neg (by omega)).trans ((if_neg (by omega)).trans (if_pos (by omega))))
    have EF : MFunc.fault m.length q1 x = (2, 10000 * (q1 : Int) + 9999) := by rw [MFunc.fault_eq, RC, if_neg (by omega)]
    exact ret_box 1 h96 hW95 rfl rfl rfl Try.underlying26 rfl infFault ⟨by show Ending.returned (.agg #[.int .i64 2, .int .i64 (10000 * (q1 : Int) + 9999)]) = _; rw [RM (by rw [EF]; show _ ≠ _; omega), EF], hW95.bel⟩
   have hc97 : ¬ (12 < x.blocks.length) := by have := of_decide_eq_false hb; omega
   clear hb
   refine wp_skip ?_
   refine hK79 _ _ ?_
   refine wp_seq_k fun K98 hK98 => ?_
   refine wp_seq_k fun K99 hK99 => ?_
   refine rg h90 fun ops => ?_; clear h90 a90
   refine sm trivial rfl rfl ?_
   refine seq trivial rfl rfl rfl ?_
   refine St.nil fun a100 h100 => ?_
   refine hK99 _ _ ?_
   refine fr_cond (t := 81) h100 rfl (fun hb => ?_) (fun hb => ?_)
   ·have h9 : q1 = 0 := by have h8 := eq_of_beq hb; omega
    have hc101 : Hid (q1 = 0) := h9
    clear h9
    clear hb
    refine wp_seq_k fun K102 hK102 => ?_
    refine fr_region ?_
    intro ops hops
    have hg3 : (ops[3]?).bind (fun o : Oper => o.dst) = some 85 := hops 3
    clear hops
    refine St.go h100 ?_; clear h100 a100
    refine sfFunc0 trivial rfl rfl ?_
    refine sbInt 0 hW68 trivial rfl rfl rfl rfl ?_
    refine seq trivial rfl rfl rfl ?_
    refine sm trivial rfl rfl ?_
    intro a103 h103
    rcases Bool.eq_false_or_eq_true (x.regs == 0) with hb | hb
    ·rw [hb] at h103
     have h9 : x.regs = 0 := eq_of_beq hb
     have hc104 : Hid (x.regs = 0) := h9
     clear h9
     clear hb
     refine St.go h103 ?_; clear h103 a103
     refine sfFunc1 ⟨_, hg3, rfl, rfl⟩ rfl rfl ?_
     refine sbTypes 0 hW68 ⟨_, hg3, rfl, rfl⟩ rfl rfl rfl rfl ?_
     refine slTypes ⟨_, hg3, rfl, rfl⟩ rfl rfl ?_
     refine seq ⟨_, hg3, rfl, rfl⟩ rfl rfl rfl ?_
     refine sp trivial rfl rfl rfl ?_
     refine sa trivial rfl rfl ?_
     refine St.nil fun a105 h105 => ?_
     refine hK102 _ _ ?_
     refine wp_seq_k fun K106 hK106 => ?_
     refine wp_seq_k fun K107 hK107 => ?_
     refine rg h105 fun ops => ?_; clear h105 a105
     refine sa trivial rfl rfl ?_
     refine St.nil fun a108 h108 => ?_
     refine hK107 _ _ ?_
     refine wp_block ?_
     have eqv : plB x 0 = ((x.params.length : Int) == 0) := by rw [plB_zero]; simp [hc104.out]
     have hF109 := h108.cons (t := 7) (v := .bool (plB x 0)) (by rw [h108.sl 7 _ rfl, eqv])
     clear eqv h108
     refine fr_loop (fun r a w' => ∃ q5 : Nat, q5 ≤ x.results.length ∧ r = x.results.length - q5 ∧ Fr 129 a [(0, .agg #[.slice p m.length c]), (1, .pointer (some ⟨B2, 0, none⟩)), (2, .pointer (some ⟨B3, 0, none⟩)), (3, .int .i64 (q1 : Int)), (4, .pointer (some ⟨B31, 0, none⟩)), (5, .int .i64 (listC x.regs x.params)), (6, .int .i64 (listC x.regs x.results)), (7, .bool (plB x q5)), (8, .int .i64 (q5 : Int))] ∧ Wd w w' [(B31, #[.int .i64 x.regs, .slice f1.pP x.params.length f1.cP, .slice f1.pR x.results.length f1.cR, .slice f1.pB x.blocks.length f1.cB], 50), (B3, #[.int .i64 0, .int .i64 0], 26), (B2, #[.slice p m.length c], 39)]) (x.results.length) ⟨0, Nat.zero_le _, rfl, (hF109.keep (hF109.keep (hF109.keep (hF109.keep (hF109.keep (hF109.keep (hF109.keep (hF109.keep (hF109.keep hF109.nil (t := 8) rfl) (t := 7) rfl) (t := 6) rfl) (t := 5) rfl) (t := 4) rfl) (t := 3) rfl) (t := 2) rfl) (t := 1) rfl) (t := 0) rfl), hW68⟩ ?_
     clear hF109 hW68
     rintro r5 a110 w110 ⟨q5, hq5, hr5, hF110, hW110⟩ KL5 hKL5
     refine wp_seq_k fun K111 hK111 => ?_
     refine wp_seq_k fun K112 hK112 => ?_
     refine rg hF110 fun ops => ?_; clear hF110 a110
     refine sm trivial rfl rfl ?_
     refine sfFunc2 trivial rfl rfl ?_
     refine sbTypes 0 hW110 trivial rfl rfl rfl rfl ?_
     refine slTypes trivial rfl rfl ?_
     refine slt trivial rfl rfl rfl ?_
     refine St.nil fun a113 h113 => ?_
     refine hK112 _ _ ?_
     refine fr_cond (t := 95) h113 rfl (fun hb => ?_) (fun hb => ?_)
     ·have hlt5 : q5 < x.results.length := by have := of_decide_eq_true hb; omega
      clear hb
      obtain ⟨t, hx5⟩ : ∃ v9, (x.results)[q5]? = some v9 := ⟨_, List.getElem?_eq_getElem hlt5⟩
      obtain ⟨g5, o5, pt5, ct5, hp5, E5, In5⟩ := lin_at (types_lin In1.out.results).1 hx5
      replace In5 : Hid _ := In5
      replace hp5 : Hid _ := hp5
      replace hx5 : Hid _ := hx5
      replace E5 : Hid _ := E5
      refine wp_skip ?_
      refine hK111 _ _ ?_
      refine wp_seq_k fun K114 hK114 => ?_
      refine wp_block ?_
      refine fr_region ?_
      intro ops hops
      have hg1 : (ops[1]?).bind (fun o : Oper => o.dst) = some 99 := hops 1
      clear hops
      refine St.go h113 ?_; clear h113 a113
      refine sm trivial rfl rfl ?_
      refine sm trivial rfl rfl ?_
      intro a115 h115
      rcases Bool.eq_false_or_eq_true (plB x q5) with hb | hb
      ·rw [hb] at h115
       have hc116 : plB x q5 = true := hb
       replace hc116 : Hid _ := hc116
       clear hb
       refine St.go h115 ?_; clear h115 a115
       refine sfFunc2 ⟨_, hg1, rfl, rfl⟩ rfl rfl ?_
       refine sbTypes 0 hW110 ⟨_, hg1, rfl, rfl⟩ rfl rfl rfl rfl ?_
       refine sm ⟨_, hg1, rfl, rfl⟩ rfl rfl ?_
       refine siTypes hp5.out hlt5 ⟨_, hg1, rfl, rfl⟩ rfl rfl rfl ?_
       refine sfType0 ⟨_, hg1, rfl, rfl⟩ rfl rfl ?_
       refine scInt (bel_cell hW110.bel (E5.out 0 _ rfl)) ⟨_, hg1, rfl, rfl⟩ rfl rfl ?_
       refine seq ⟨_, hg1, rfl, rfl⟩ rfl rfl rfl ?_
       refine sp trivial rfl rfl rfl ?_
       refine sa trivial rfl rfl ?_
       intro a117 h117
       have eqv : plB x (q5 + 1) = (t.kind == 1) := by rw [plB_succ hx5.out, hc116.out]; rfl
       have hF118 := h117.cons (t := 7) (v := .bool (plB x (q5 + 1))) (by rw [h117.sl 7 _ rfl, eqv])
       clear eqv h117
       refine wpList_nil ?_
       refine hK114 _ _ ?_
       refine rg hF118 fun ops => ?_; clear hF118 a117
       refine sm trivial rfl rfl ?_
       refine sad (by omega) trivial rfl rfl rfl ?_
       refine sa trivial rfl rfl ?_
       refine St.nil fun a119 h119 => ?_
       refine hKL5 _ _ (x.results.length - (q5 + 1)) (by omega) ⟨q5 + 1, by omega, rfl, (h119.keep (h119.keep (h119.keep (h119.keep (h119.keep (h119.keep (h119.keep (h119.keep (h119.keep h119.nil (t := 8) rfl) (t := 7) rfl) (t := 6) rfl) (t := 5) rfl) (t := 4) rfl) (t := 3) rfl) (t := 2) rfl) (t := 1) rfl) (t := 0) rfl), hW110⟩
      rw [hb] at h115
      have hc120 : plB x q5 = false := hb
      replace hc120 : Hid _ := hc120
      clear hb
      refine St.go h115 ?_; clear h115 a115
      refine so hg1 rfl rfl rfl rfl ?_
      refine so hg1 rfl rfl rfl rfl ?_
      refine so hg1 rfl rfl rfl rfl ?_
      refine so hg1 rfl rfl rfl rfl ?_
      refine so hg1 rfl rfl rfl rfl ?_
      refine so hg1 rfl rfl rfl rfl ?_
      refine so hg1 rfl rfl rfl rfl ?_
      refine spf trivial rfl rfl rfl ?_
      refine sa trivial rfl rfl ?_
      intro a121 h121
      have eqv : plB x (q5 + 1) = false := by rw [plB_succ hx5.out, hc120.out]; rfl
      have hF122 := h121.cons (t := 7) (v := .bool (plB x (q5 + 1))) (by rw [h121.sl 7 _ rfl, eqv])
      clear eqv h121
      refine wpList_nil ?_
      refine hK114 _ _ ?_
      refine rg hF122 fun ops => ?_; clear hF122 a121
      refine sm trivial rfl rfl ?_
      refine sad (by omega) trivial rfl rfl rfl ?_
      refine sa trivial rfl rfl ?_
      refine St.nil fun a123 h123 => ?_
      refine hKL5 _ _ (x.results.length - (q5 + 1)) (by omega) ⟨q5 + 1, by omega, rfl, (h123.keep (h123.keep (h123.keep (h123.keep (h123.keep (h123.keep (h123.keep (h123.keep (h123.keep h123.nil (t := 8) rfl) (t := 7) rfl) (t := 6) rfl) (t := 5) rfl) (t := 4) rfl) (t := 3) rfl) (t := 2) rfl) (t := 1) rfl) (t := 0) rfl), hW110⟩
     have hge5 : q5 = x.results.length := by have := of_decide_eq_false hb; omega
     clear hb
     refine wp_exit ?_
     refine hK106 _ _ ?_
     refine wp_seq_k fun K124 hK124 => ?_
     refine rg h113 fun ops => ?_; clear h113 a113
     refine sm trivial rfl rfl ?_
     refine sn trivial rfl rfl ?_
     refine St.nil fun a125 h125 => ?_
     refine hK124 _ _ ?_
     refine fr_cond (t := 109) h125 rfl (fun hb => ?_) (fun hb => ?_)
     ·have hb : (plB x q5) = false := by simpa using hb
      have hc126 : plB x q5 = false := hb
      replace hc126 : Hid _ := hc126
      clear hb
      have hBG : ¬ x.begins := by rw [← plB_iff, ← hge5]; rw [hc126.out]; decide
      refine wp_seq_k fun K127 hK127 => ?_
      refine rg h125 fun ops => ?_; clear h125 a125
      refine sm trivial rfl rfl ?_
      refine sc_1 cf25 hW110 (atFunc_any (f := q1) (by omega)) trivial rfl rfl ?_
      clear hW110; intro w128 hW128
      refine sc_2 cf48 hW128 (fF_any (xc := 18) (xp := 10000 * (q1 : Int) + 9999)) trivial rfl rfl rfl ?_
      clear hW128; intro w129 hW129
      refine sT 1 hW129 rfl rfl infFault rfl rfl rfl ?_
      clear hW129; intro w130 hW130
      refine St.nil fun a131 h131 => ?_
      refine hK127 _ _ ?_
      refine wp_ret ?_; with_reducible repeat first | refine of_then_ret ?_ | refine of_block_ret ?_
      have RM : (MFunc.fault m.length q1 x).1 ≠ 0 → modFault m = MFunc.fault m.length q1 x := fun hz => (if_neg (by omega)).trans (by have h9 := firstF_eq (f := fun f x => MFunc.fault m.length f x) (j := 0) hx1.out (fun k y hk hy => by rw [Nat.zero_add]; exact hall1 k y hk hy) (by rw [Nat.zero_add]; exact hz); rwa [Nat.zero_add] at h9)
      have RC : x.code q1 = 18 := by have := hc65.out; have := hc78.out; have := hc101.out; have := hc104.out; exact (if_neg (by omega)).trans ((if_neg (by omega)).trans ((if_neg (by omega)).trans ((if_neg (by omega)).trans (if_pos (⟨by omega, hBG⟩)))))
      have EF : MFunc.fault m.length q1 x = (18, 10000 * (q1 : Int) + 9999) := by rw [MFunc.fault_eq, RC, if_neg (by omega)]
      exact ret_box 1 h131 hW130 rfl rfl rfl Try.underlying26 rfl infFault ⟨by show Ending.returned (.agg #[.int .i64 18, .int .i64 (10000 * (q1 : Int) + 9999)]) = _; rw [RM (by rw [EF]; show _ ≠ _; omega), EF], hW130.bel⟩
     have hb : (plB x q5) = true := by simpa using hb
     have hc132 : plB x q5 = true := hb
     replace hc132 : Hid _ := hc132
     clear hb
     have hBG : x.begins := by rw [← plB_iff, ← hge5]; exact hc132.out
     refine wp_skip ?_
     refine hK98 _ _ ?_
     refine wp_seq_k fun K133 hK133 => ?_
     refine rg h125 fun ops => ?_; clear h125 a125
     refine sa trivial rfl rfl ?_
     refine St.nil fun a134 h134 => ?_
     refine hK133 _ _ ?_
     refine wp_block ?_
     refine fr_loop (fun r a w' => ∃ q2 : Nat, q2 ≤ x.blocks.length ∧ r = x.blocks.length - q2 ∧ (∀ (j : Nat) z, j < q2 → x.blocks[j]? = some z → (MBlock.fault m.length q1 x j z).1 = 0) ∧ Fr 129 a [(0, .agg #[.slice p m.length c]), (1, .pointer (some ⟨B2, 0, none⟩)), (2, .pointer (some ⟨B3, 0, none⟩)), (3, .int .i64 (q1 : Int)), (4, .pointer (some ⟨B31, 0, none⟩)), (5, .int .i64 (listC x.regs x.params)), (6, .int .i64 (listC x.regs x.results)), (7, .bool (plB x q5)), (8, .int .i64 (q5 : Int)), (9, .int .i64 (q2 : Int))] ∧ Wd w w' [(B31, #[.int .i64 x.regs, .slice f1.pP x.params.length f1.cP, .slice f1.pR x.results.length f1.cR, .slice f1.pB x.blocks.length f1.cB], 50), (B3, #[.int .i64 0, .int .i64 0], 26), (B2, #[.slice p m.length c], 39)]) (x.blocks.length) ⟨0, Nat.zero_le _, rfl, (fun j z hj => by omega), (h134.keep (h134.keep (h134.keep (h134.keep (h134.keep (h134.keep (h134.keep (h134.keep (h134.keep (h134.keep h134.nil (t := 9) rfl) (t := 8) rfl) (t := 7) rfl) (t := 6) rfl) (t := 5) rfl) (t := 4) rfl) (t := 3) rfl) (t := 2) rfl) (t := 1) rfl) (t := 0) rfl), hW110⟩ ?_
     clear h134 hW110
     rintro r2 a135 w135 ⟨q2, hq2, hr2, hall2, hF135, hW135⟩ KL2 hKL2
     refine wp_seq_k fun K136 hK136 => ?_
     refine wp_seq_k fun K137 hK137 => ?_
     refine rg hF135 fun ops => ?_; clear hF135 a135
     refine sm trivial rfl rfl ?_
     refine sfFunc3 trivial rfl rfl ?_
     refine sbBlocks 0 hW135 trivial rfl rfl rfl rfl ?_
     refine slBlocks trivial rfl rfl ?_
     refine slt trivial rfl rfl rfl ?_
     refine St.nil fun a138 h138 => ?_
     refine hK137 _ _ ?_
     refine fr_cond (t := 117) h138 rfl (fun hb => ?_) (fun hb => ?_)
     ·have hlt2 : q2 < x.blocks.length := by have := of_decide_eq_true hb; omega
      clear hb
      obtain ⟨y, hx2⟩ : ∃ v9, (x.blocks)[q2]? = some v9 := ⟨_, List.getElem?_eq_getElem hlt2⟩
      obtain ⟨g2, o2, b2, hp2, E2, In2⟩ := block_at In1.out.blocks hx2
      replace In2 : Hid _ := In2
      replace hp2 : Hid _ := hp2
      replace hx2 : Hid _ := hx2
      replace E2 : Hid _ := E2
      refine wp_skip ?_
      refine hK136 _ _ ?_
      refine wp_seq_k fun K139 hK139 => ?_
      refine wp_block ?_
      refine wp_seq_k fun K140 hK140 => ?_
      refine rg h138 fun ops => ?_; clear h138 a138
      refine sS 2 1 Try.underlying39 rfl infModule hW135 trivial rfl rfl rfl rfl ?_
      refine sm trivial rfl rfl ?_
      refine sm trivial rfl rfl ?_
      refine sc_3 cf50 hW135 (blockFault_any (c := c) (Lay.below hm.out hW135.bel) hms.out hx1.out hx2.out) trivial rfl rfl rfl rfl ?_
      clear hW135; intro w141 hW141
      refine sAFault hW141 trivial rfl ?_
      clear hW141; intro w142 B142 hW142 hN; clear hN
      refine sT 0 hW142 rfl rfl infFault rfl rfl rfl ?_
      clear hW142; intro w143 hW143
      refine St.nil fun a144 h144 => ?_
      refine hK140 _ _ ?_
      refine wp_seq_k fun K145 hK145 => ?_
      refine rg h144 fun ops => ?_; clear h144 a144
      refine sfFault0 trivial rfl rfl ?_
      refine sbInt 0 hW143 trivial rfl rfl rfl rfl ?_
      refine sne trivial rfl rfl rfl ?_
      refine St.nil fun a146 h146 => ?_
      refine hK145 _ _ ?_
      refine fr_cond (t := 126) h146 rfl (fun hb => ?_) (fun hb => ?_)
      ·have h9 : ¬ ((MBlock.fault m.length q1 x q2 y).1) = 0 := bne_iff_ne.1 hb
       have hc147 : ¬ ((MBlock.fault m.length q1 x q2 y).1) = 0 := h9
       clear h9
       clear hb
       refine wp_seq_k fun K148 hK148 => ?_
       refine rg h146 fun ops => ?_; clear h146 a146
       refine sS 0 2 Try.underlying26 rfl infFault hW143 trivial rfl rfl rfl rfl ?_
       refine sT 2 hW143 rfl rfl infFault rfl rfl rfl ?_
       clear hW143; intro w149 hW149
       refine St.nil fun a150 h150 => ?_
       refine hK148 _ _ ?_
       refine wp_ret ?_; with_reducible repeat first | refine of_then_ret ?_ | refine of_block_ret ?_
       have RM : (MFunc.fault m.length q1 x).1 ≠ 0 → modFault m = MFunc.fault m.length q1 x := fun hz => (if_neg (by omega)).trans (by have h9 := firstF_eq (f := fun f x => MFunc.fault m.length f x) (j := 0) hx1.out (fun k y hk hy => by rw [Nat.zero_add]; exact hall1 k y hk hy) (by rw [Nat.zero_add]; exact hz); rwa [Nat.zero_add] at h9)
       have RC : x.code q1 = 0 := by have := hc65.out; have := hc78.out; have := hc101.out; have := hc104.out; exact (if_neg (by omega)).trans ((if_neg (by omega)).trans ((if_neg (by omega)).trans ((if_neg (by omega)).trans ((if_neg (fun h9 => h9.2 hBG)).trans (rfl)))))
       have EF : MFunc.fault m.length q1 x = MBlock.fault m.length q1 x q2 y := by
         rw [MFunc.fault_eq, if_pos RC]
         have h9 := firstF_eq (f := fun b y => MBlock.fault m.length q1 x b y) (j := 0) hx2.out (fun k y hk hy => by rw [Nat.zero_add]; exact hall2 k y hk hy) (by rw [Nat.zero_add]; exact hc147)
         rwa [Nat.zero_add] at h9
       exact ret_box 2 h150 hW149 rfl rfl rfl Try.underlying26 rfl infFault ⟨by show Ending.returned (.agg #[.int .i64 ((MBlock.fault m.length q1 x q2 y).1), .int .i64 ((MBlock.fault m.length q1 x q2 y).2)]) = _; rw [RM (by rw [EF]; exact hc147), EF], hW149.bel⟩
      have h9 : ((MBlock.fault m.length q1 x q2 y).1) = 0 := bne_eq_false_iff_eq.1 hb
      have hc151 : Hid (((MBlock.fault m.length q1 x q2 y).1) = 0) := h9
      clear h9
      clear hb
      refine wp_skip ?_
      refine hK139 _ _ ?_
      refine rg h146 fun ops => ?_; clear h146 a146
      refine sm trivial rfl rfl ?_
      refine sad (by omega) trivial rfl rfl rfl ?_
      refine sa trivial rfl rfl ?_
      refine St.nil fun a152 h152 => ?_
      refine hKL2 _ _ (x.blocks.length - (q2 + 1)) (by omega) ⟨q2 + 1, by omega, rfl, ?_, (h152.keep (h152.keep (h152.keep (h152.keep (h152.keep (h152.keep (h152.keep (h152.keep (h152.keep (h152.keep h152.nil (t := 9) rfl) (t := 8) rfl) (t := 7) rfl) (t := 6) rfl) (t := 5) rfl) (t := 4) rfl) (t := 3) rfl) (t := 2) rfl) (t := 1) rfl) (t := 0) rfl), hW143.tail⟩
      ·intro j z hj hz
       by_cases e : j = q2
       · subst e; rw [hx2.out] at hz; cases hz; exact hc151.out
       · exact hall2 j z (by omega) hz
     have hge2 : q2 = x.blocks.length := by have := of_decide_eq_false hb; omega
     clear hb
     have RC : x.code q1 = 0 := by have := hc65.out; have := hc78.out; have := hc101.out; have := hc104.out; exact (if_neg (by omega)).trans ((if_neg (by omega)).trans ((if_neg (by omega)).trans ((if_neg (by omega)).trans ((if_neg (fun h9 => h9.2 hBG)).trans (rfl)))))
     have NZ1 : (MFunc.fault m.length q1 x).1 = 0 := by
       rw [MFunc.fault_eq, if_pos RC, firstF_zero (fun k y hy => by rw [Nat.zero_add]; exact hall2 k y (by have := (List.getElem?_eq_some_iff.1 hy).1; omega) hy)]
     refine wp_exit ?_
     refine hK29 _ _ ?_
     refine rg h138 fun ops => ?_; clear h138 a138
     refine sm trivial rfl rfl ?_
     refine sad (by omega) trivial rfl rfl rfl ?_
     refine sa trivial rfl rfl ?_
     refine St.nil fun a153 h153 => ?_
     refine hKL1 _ _ (m.length - (q1 + 1)) (by omega) ⟨q1 + 1, by omega, rfl, ?_, (h153.keep (h153.keep (h153.keep (h153.keep h153.nil (t := 3) rfl) (t := 2) rfl) (t := 1) rfl) (t := 0) rfl), hW135.tail⟩
     ·intro j z hj hz
      by_cases e : j = q1
      · subst e; rw [hx1.out] at hz; cases hz; exact NZ1
      · exact hall1 j z (by omega) hz
    rw [hb] at h103
    have h9 : ¬ x.regs = 0 := ne_of_beq_false hb
    have hc154 : ¬ x.regs = 0 := h9
    clear h9
    clear hb
    refine St.go h103 ?_; clear h103 a103
    refine so hg3 rfl rfl rfl rfl ?_
    refine so hg3 rfl rfl rfl rfl ?_
    refine so hg3 rfl rfl rfl rfl ?_
    refine so hg3 rfl rfl rfl rfl ?_
    refine spf trivial rfl rfl rfl ?_
    refine sa trivial rfl rfl ?_
    refine St.nil fun a155 h155 => ?_
    refine hK102 _ _ ?_
    refine wp_seq_k fun K156 hK156 => ?_
    refine wp_seq_k fun K157 hK157 => ?_
    refine rg h155 fun ops => ?_; clear h155 a155
    refine sa trivial rfl rfl ?_
    refine St.nil fun a158 h158 => ?_
    refine hK157 _ _ ?_
    refine wp_block ?_
    have eqv : plB x 0 = false := by rw [plB_zero]; simp [hc154]
    have hF159 := h158.cons (t := 7) (v := .bool (plB x 0)) (by rw [h158.sl 7 _ rfl, eqv])
    clear eqv h158
    refine fr_loop (fun r a w' => ∃ q5 : Nat, q5 ≤ x.results.length ∧ r = x.results.length - q5 ∧ Fr 129 a [(0, .agg #[.slice p m.length c]), (1, .pointer (some ⟨B2, 0, none⟩)), (2, .pointer (some ⟨B3, 0, none⟩)), (3, .int .i64 (q1 : Int)), (4, .pointer (some ⟨B31, 0, none⟩)), (5, .int .i64 (listC x.regs x.params)), (6, .int .i64 (listC x.regs x.results)), (7, .bool (plB x q5)), (8, .int .i64 (q5 : Int))] ∧ Wd w w' [(B31, #[.int .i64 x.regs, .slice f1.pP x.params.length f1.cP, .slice f1.pR x.results.length f1.cR, .slice f1.pB x.blocks.length f1.cB], 50), (B3, #[.int .i64 0, .int .i64 0], 26), (B2, #[.slice p m.length c], 39)]) (x.results.length) ⟨0, Nat.zero_le _, rfl, (hF159.keep (hF159.keep (hF159.keep (hF159.keep (hF159.keep (hF159.keep (hF159.keep (hF159.keep (hF159.keep hF159.nil (t := 8) rfl) (t := 7) rfl) (t := 6) rfl) (t := 5) rfl) (t := 4) rfl) (t := 3) rfl) (t := 2) rfl) (t := 1) rfl) (t := 0) rfl), hW68⟩ ?_
    clear hF159 hW68
    rintro r5 a160 w160 ⟨q5, hq5, hr5, hF160, hW160⟩ KL5 hKL5
    refine wp_seq_k fun K161 hK161 => ?_
    refine wp_seq_k fun K162 hK162 => ?_
    refine rg hF160 fun ops => ?_; clear hF160 a160
    refine sm trivial rfl rfl ?_
    refine sfFunc2 trivial rfl rfl ?_
    refine sbTypes 0 hW160 trivial rfl rfl rfl rfl ?_
    refine slTypes trivial rfl rfl ?_
    refine slt trivial rfl rfl rfl ?_
    refine St.nil fun a163 h163 => ?_
    refine hK162 _ _ ?_
    refine fr_cond (t := 95) h163 rfl (fun hb => ?_) (fun hb => ?_)
    ·have hlt5 : q5 < x.results.length := by have := of_decide_eq_true hb; omega
     clear hb
     obtain ⟨t, hx5⟩ : ∃ v9, (x.results)[q5]? = some v9 := ⟨_, List.getElem?_eq_getElem hlt5⟩
     obtain ⟨g5, o5, pt5, ct5, hp5, E5, In5⟩ := lin_at (types_lin In1.out.results).1 hx5
     replace In5 : Hid _ := In5
     replace hp5 : Hid _ := hp5
     replace hx5 : Hid _ := hx5
     replace E5 : Hid _ := E5
     refine wp_skip ?_
     refine hK161 _ _ ?_
     refine wp_seq_k fun K164 hK164 => ?_
     refine wp_block ?_
     refine fr_region ?_
     intro ops hops
     have hg1 : (ops[1]?).bind (fun o : Oper => o.dst) = some 99 := hops 1
     clear hops
     refine St.go h163 ?_; clear h163 a163
     refine sm trivial rfl rfl ?_
     refine sm trivial rfl rfl ?_
     intro a165 h165
     rcases Bool.eq_false_or_eq_true (plB x q5) with hb | hb
     ·rw [hb] at h165
      have hc166 : plB x q5 = true := hb
      replace hc166 : Hid _ := hc166
      clear hb
      refine St.go h165 ?_; clear h165 a165
      refine sfFunc2 ⟨_, hg1, rfl, rfl⟩ rfl rfl ?_
      refine sbTypes 0 hW160 ⟨_, hg1, rfl, rfl⟩ rfl rfl rfl rfl ?_
      refine sm ⟨_, hg1, rfl, rfl⟩ rfl rfl ?_
      refine siTypes hp5.out hlt5 ⟨_, hg1, rfl, rfl⟩ rfl rfl rfl ?_
      refine sfType0 ⟨_, hg1, rfl, rfl⟩ rfl rfl ?_
      refine scInt (bel_cell hW160.bel (E5.out 0 _ rfl)) ⟨_, hg1, rfl, rfl⟩ rfl rfl ?_
      refine seq ⟨_, hg1, rfl, rfl⟩ rfl rfl rfl ?_
      refine sp trivial rfl rfl rfl ?_
      refine sa trivial rfl rfl ?_
      intro a167 h167
      have eqv : plB x (q5 + 1) = (t.kind == 1) := by rw [plB_succ hx5.out, hc166.out]; rfl
      have hF168 := h167.cons (t := 7) (v := .bool (plB x (q5 + 1))) (by rw [h167.sl 7 _ rfl, eqv])
      clear eqv h167
      refine wpList_nil ?_
      refine hK164 _ _ ?_
      refine rg hF168 fun ops => ?_; clear hF168 a167
      refine sm trivial rfl rfl ?_
      refine sad (by omega) trivial rfl rfl rfl ?_
      refine sa trivial rfl rfl ?_
      refine St.nil fun a169 h169 => ?_
      refine hKL5 _ _ (x.results.length - (q5 + 1)) (by omega) ⟨q5 + 1, by omega, rfl, (h169.keep (h169.keep (h169.keep (h169.keep (h169.keep (h169.keep (h169.keep (h169.keep (h169.keep h169.nil (t := 8) rfl) (t := 7) rfl) (t := 6) rfl) (t := 5) rfl) (t := 4) rfl) (t := 3) rfl) (t := 2) rfl) (t := 1) rfl) (t := 0) rfl), hW160⟩
     rw [hb] at h165
     have hc170 : plB x q5 = false := hb
     replace hc170 : Hid _ := hc170
     clear hb
     refine St.go h165 ?_; clear h165 a165
     refine so hg1 rfl rfl rfl rfl ?_
     refine so hg1 rfl rfl rfl rfl ?_
     refine so hg1 rfl rfl rfl rfl ?_
     refine so hg1 rfl rfl rfl rfl ?_
     refine so hg1 rfl rfl rfl rfl ?_
     refine so hg1 rfl rfl rfl rfl ?_
     refine so hg1 rfl rfl rfl rfl ?_
     refine spf trivial rfl rfl rfl ?_
     refine sa trivial rfl rfl ?_
     intro a171 h171
     have eqv : plB x (q5 + 1) = false := by rw [plB_succ hx5.out, hc170.out]; rfl
     have hF172 := h171.cons (t := 7) (v := .bool (plB x (q5 + 1))) (by rw [h171.sl 7 _ rfl, eqv])
     clear eqv h171
     refine wpList_nil ?_
     refine hK164 _ _ ?_
     refine rg hF172 fun ops => ?_; clear hF172 a171
     refine sm trivial rfl rfl ?_
     refine sad (by omega) trivial rfl rfl rfl ?_
     refine sa trivial rfl rfl ?_
     refine St.nil fun a173 h173 => ?_
     refine hKL5 _ _ (x.results.length - (q5 + 1)) (by omega) ⟨q5 + 1, by omega, rfl, (h173.keep (h173.keep (h173.keep (h173.keep (h173.keep (h173.keep (h173.keep (h173.keep (h173.keep h173.nil (t := 8) rfl) (t := 7) rfl) (t := 6) rfl) (t := 5) rfl) (t := 4) rfl) (t := 3) rfl) (t := 2) rfl) (t := 1) rfl) (t := 0) rfl), hW160⟩
    have hge5 : q5 = x.results.length := by have := of_decide_eq_false hb; omega
    clear hb
    refine wp_exit ?_
    refine hK156 _ _ ?_
    refine wp_seq_k fun K174 hK174 => ?_
    refine rg h163 fun ops => ?_; clear h163 a163
    refine sm trivial rfl rfl ?_
    refine sn trivial rfl rfl ?_
    refine St.nil fun a175 h175 => ?_
    refine hK174 _ _ ?_
    refine fr_cond (t := 109) h175 rfl (fun hb => ?_) (fun hb => ?_)
    ·have hb : (plB x q5) = false := by simpa using hb
     have hc176 : plB x q5 = false := hb
     replace hc176 : Hid _ := hc176
     clear hb
     have hBG : ¬ x.begins := by rw [← plB_iff, ← hge5]; rw [hc176.out]; decide
     refine wp_seq_k fun K177 hK177 => ?_
     refine rg h175 fun ops => ?_; clear h175 a175
     refine sm trivial rfl rfl ?_
     refine sc_1 cf25 hW160 (atFunc_any (f := q1) (by omega)) trivial rfl rfl ?_
     clear hW160; intro w178 hW178
     refine sc_2 cf48 hW178 (fF_any (xc := 18) (xp := 10000 * (q1 : Int) + 9999)) trivial rfl rfl rfl ?_
     clear hW178; intro w179 hW179
     refine sT 1 hW179 rfl rfl infFault rfl rfl rfl ?_
     clear hW179; intro w180 hW180
     refine St.nil fun a181 h181 => ?_
     refine hK177 _ _ ?_
     refine wp_ret ?_; with_reducible repeat first | refine of_then_ret ?_ | refine of_block_ret ?_
     have RM : (MFunc.fault m.length q1 x).1 ≠ 0 → modFault m = MFunc.fault m.length q1 x := fun hz => (if_neg (by omega)).trans (by have h9 := firstF_eq (f := fun f x => MFunc.fault m.length f x) (j := 0) hx1.out (fun k y hk hy => by rw [Nat.zero_add]; exact hall1 k y hk hy) (by rw [Nat.zero_add]; exact hz); rwa [Nat.zero_add] at h9)
     have RC : x.code q1 = 18 := by have := hc65.out; have := hc78.out; have := hc101.out; exact (if_neg (by omega)).trans ((if_neg (by omega)).trans ((if_neg (by omega)).trans ((if_neg (by omega)).trans (if_pos (⟨by omega, hBG⟩)))))
     have EF : MFunc.fault m.length q1 x = (18, 10000 * (q1 : Int) + 9999) := by rw [MFunc.fault_eq, RC, if_neg (by omega)]
     exact ret_box 1 h181 hW180 rfl rfl rfl Try.underlying26 rfl infFault ⟨by show Ending.returned (.agg #[.int .i64 18, .int .i64 (10000 * (q1 : Int) + 9999)]) = _; rw [RM (by rw [EF]; show _ ≠ _; omega), EF], hW180.bel⟩
    have hb : (plB x q5) = true := by simpa using hb
    have hc182 : plB x q5 = true := hb
    replace hc182 : Hid _ := hc182
    clear hb
    have hBG : x.begins := by rw [← plB_iff, ← hge5]; exact hc182.out
    refine wp_skip ?_
    refine hK98 _ _ ?_
    refine wp_seq_k fun K183 hK183 => ?_
    refine rg h175 fun ops => ?_; clear h175 a175
    refine sa trivial rfl rfl ?_
    refine St.nil fun a184 h184 => ?_
    refine hK183 _ _ ?_
    refine wp_block ?_
    refine fr_loop (fun r a w' => ∃ q2 : Nat, q2 ≤ x.blocks.length ∧ r = x.blocks.length - q2 ∧ (∀ (j : Nat) z, j < q2 → x.blocks[j]? = some z → (MBlock.fault m.length q1 x j z).1 = 0) ∧ Fr 129 a [(0, .agg #[.slice p m.length c]), (1, .pointer (some ⟨B2, 0, none⟩)), (2, .pointer (some ⟨B3, 0, none⟩)), (3, .int .i64 (q1 : Int)), (4, .pointer (some ⟨B31, 0, none⟩)), (5, .int .i64 (listC x.regs x.params)), (6, .int .i64 (listC x.regs x.results)), (7, .bool (plB x q5)), (8, .int .i64 (q5 : Int)), (9, .int .i64 (q2 : Int))] ∧ Wd w w' [(B31, #[.int .i64 x.regs, .slice f1.pP x.params.length f1.cP, .slice f1.pR x.results.length f1.cR, .slice f1.pB x.blocks.length f1.cB], 50), (B3, #[.int .i64 0, .int .i64 0], 26), (B2, #[.slice p m.length c], 39)]) (x.blocks.length) ⟨0, Nat.zero_le _, rfl, (fun j z hj => by omega), (h184.keep (h184.keep (h184.keep (h184.keep (h184.keep (h184.keep (h184.keep (h184.keep (h184.keep (h184.keep h184.nil (t := 9) rfl) (t := 8) rfl) (t := 7) rfl) (t := 6) rfl) (t := 5) rfl) (t := 4) rfl) (t := 3) rfl) (t := 2) rfl) (t := 1) rfl) (t := 0) rfl), hW160⟩ ?_
    clear h184 hW160
    rintro r2 a185 w185 ⟨q2, hq2, hr2, hall2, hF185, hW185⟩ KL2 hKL2
    refine wp_seq_k fun K186 hK186 => ?_
    refine wp_seq_k fun K187 hK187 => ?_
    refine rg hF185 fun ops => ?_; clear hF185 a185
    refine sm trivial rfl rfl ?_
    refine sfFunc3 trivial rfl rfl ?_
    refine sbBlocks 0 hW185 trivial rfl rfl rfl rfl ?_
    refine slBlocks trivial rfl rfl ?_
    refine slt trivial rfl rfl rfl ?_
    refine St.nil fun a188 h188 => ?_
    refine hK187 _ _ ?_
    refine fr_cond (t := 117) h188 rfl (fun hb => ?_) (fun hb => ?_)
    ·have hlt2 : q2 < x.blocks.length := by have := of_decide_eq_true hb; omega
     clear hb
     obtain ⟨y, hx2⟩ : ∃ v9, (x.blocks)[q2]? = some v9 := ⟨_, List.getElem?_eq_getElem hlt2⟩
     obtain ⟨g2, o2, b2, hp2, E2, In2⟩ := block_at In1.out.blocks hx2
     replace In2 : Hid _ := In2
     replace hp2 : Hid _ := hp2
     replace hx2 : Hid _ := hx2
     replace E2 : Hid _ := E2
     refine wp_skip ?_
     refine hK186 _ _ ?_
     refine wp_seq_k fun K189 hK189 => ?_
     refine wp_block ?_
     refine wp_seq_k fun K190 hK190 => ?_
     refine rg h188 fun ops => ?_; clear h188 a188
     refine sS 2 1 Try.underlying39 rfl infModule hW185 trivial rfl rfl rfl rfl ?_
     refine sm trivial rfl rfl ?_
     refine sm trivial rfl rfl ?_
     refine sc_3 cf50 hW185 (blockFault_any (c := c) (Lay.below hm.out hW185.bel) hms.out hx1.out hx2.out) trivial rfl rfl rfl rfl ?_
     clear hW185; intro w191 hW191
     refine sAFault hW191 trivial rfl ?_
     clear hW191; intro w192 B192 hW192 hN; clear hN
     refine sT 0 hW192 rfl rfl infFault rfl rfl rfl ?_
     clear hW192; intro w193 hW193
     refine St.nil fun a194 h194 => ?_
     refine hK190 _ _ ?_
     refine wp_seq_k fun K195 hK195 => ?_
     refine rg h194 fun ops => ?_; clear h194 a194
     refine sfFault0 trivial rfl rfl ?_
     refine sbInt 0 hW193 trivial rfl rfl rfl rfl ?_
     refine sne trivial rfl rfl rfl ?_
     refine St.nil fun a196 h196 => ?_
     refine hK195 _ _ ?_
     refine fr_cond (t := 126) h196 rfl (fun hb => ?_) (fun hb => ?_)
     ·have h9 : ¬ ((MBlock.fault m.length q1 x q2 y).1) = 0 := bne_iff_ne.1 hb
      have hc197 : ¬ ((MBlock.fault m.length q1 x q2 y).1) = 0 := h9
      clear h9
      clear hb
      refine wp_seq_k fun K198 hK198 => ?_
      refine rg h196 fun ops => ?_; clear h196 a196
      refine sS 0 2 Try.underlying26 rfl infFault hW193 trivial rfl rfl rfl rfl ?_
      refine sT 2 hW193 rfl rfl infFault rfl rfl rfl ?_
      clear hW193; intro w199 hW199
      refine St.nil fun a200 h200 => ?_
      refine hK198 _ _ ?_
      refine wp_ret ?_; with_reducible repeat first | refine of_then_ret ?_ | refine of_block_ret ?_
      have RM : (MFunc.fault m.length q1 x).1 ≠ 0 → modFault m = MFunc.fault m.length q1 x := fun hz => (if_neg (by omega)).trans (by have h9 := firstF_eq (f := fun f x => MFunc.fault m.length f x) (j := 0) hx1.out (fun k y hk hy => by rw [Nat.zero_add]; exact hall1 k y hk hy) (by rw [Nat.zero_add]; exact hz); rwa [Nat.zero_add] at h9)
      have RC : x.code q1 = 0 := by have := hc65.out; have := hc78.out; have := hc101.out; exact (if_neg (by omega)).trans ((if_neg (by omega)).trans ((if_neg (by omega)).trans ((if_neg (by omega)).trans ((if_neg (fun h9 => h9.2 hBG)).trans (rfl)))))
      have EF : MFunc.fault m.length q1 x = MBlock.fault m.length q1 x q2 y := by
        rw [MFunc.fault_eq, if_pos RC]
        have h9 := firstF_eq (f := fun b y => MBlock.fault m.length q1 x b y) (j := 0) hx2.out (fun k y hk hy => by rw [Nat.zero_add]; exact hall2 k y hk hy) (by rw [Nat.zero_add]; exact hc197)
        rwa [Nat.zero_add] at h9
      exact ret_box 2 h200 hW199 rfl rfl rfl Try.underlying26 rfl infFault ⟨by show Ending.returned (.agg #[.int .i64 ((MBlock.fault m.length q1 x q2 y).1), .int .i64 ((MBlock.fault m.length q1 x q2 y).2)]) = _; rw [RM (by rw [EF]; exact hc197), EF], hW199.bel⟩
     have h9 : ((MBlock.fault m.length q1 x q2 y).1) = 0 := bne_eq_false_iff_eq.1 hb
     have hc201 : Hid (((MBlock.fault m.length q1 x q2 y).1) = 0) := h9
     clear h9
     clear hb
     refine wp_skip ?_
     refine hK189 _ _ ?_
     refine rg h196 fun ops => ?_; clear h196 a196
     refine sm trivial rfl rfl ?_
     refine sad (by omega) trivial rfl rfl rfl ?_
     refine sa trivial rfl rfl ?_
     refine St.nil fun a202 h202 => ?_
     refine hKL2 _ _ (x.blocks.length - (q2 + 1)) (by omega) ⟨q2 + 1, by omega, rfl, ?_, (h202.keep (h202.keep (h202.keep (h202.keep (h202.keep (h202.keep (h202.keep (h202.keep (h202.keep (h202.keep h202.nil (t := 9) rfl) (t := 8) rfl) (t := 7) rfl) (t := 6) rfl) (t := 5) rfl) (t := 4) rfl) (t := 3) rfl) (t := 2) rfl) (t := 1) rfl) (t := 0) rfl), hW193.tail⟩
     ·intro j z hj hz
      by_cases e : j = q2
      · subst e; rw [hx2.out] at hz; cases hz; exact hc201.out
      · exact hall2 j z (by omega) hz
    have hge2 : q2 = x.blocks.length := by have := of_decide_eq_false hb; omega
    clear hb
    have RC : x.code q1 = 0 := by have := hc65.out; have := hc78.out; have := hc101.out; exact (if_neg (by omega)).trans ((if_neg (by omega)).trans ((if_neg (by omega)).trans ((if_neg (by omega)).trans ((if_neg (fun h9 => h9.2 hBG)).trans (rfl)))))
    have NZ1 : (MFunc.fault m.length q1 x).1 = 0 := by
      rw [MFunc.fault_eq, if_pos RC, firstF_zero (fun k y hy => by rw [Nat.zero_add]; exact hall2 k y (by have := (List.getElem?_eq_some_iff.1 hy).1; omega) hy)]
    refine wp_exit ?_
    refine hK29 _ _ ?_
    refine rg h188 fun ops => ?_; clear h188 a188
    refine sm trivial rfl rfl ?_
    refine sad (by omega) trivial rfl rfl rfl ?_
    refine sa trivial rfl rfl ?_
    refine St.nil fun a203 h203 => ?_
    refine hKL1 _ _ (m.length - (q1 + 1)) (by omega) ⟨q1 + 1, by omega, rfl, ?_, (h203.keep (h203.keep (h203.keep (h203.keep h203.nil (t := 3) rfl) (t := 2) rfl) (t := 1) rfl) (t := 0) rfl), hW185.tail⟩
    ·intro j z hj hz
     by_cases e : j = q1
     · subst e; rw [hx1.out] at hz; cases hz; exact NZ1
     · exact hall1 j z (by omega) hz
   have h9 : ¬ q1 = 0 := by have h8 := ne_of_beq_false hb; omega
   have hc204 : ¬ q1 = 0 := h9
   clear h9
   clear hb
   refine wp_skip ?_
   refine hK98 _ _ ?_
   refine wp_seq_k fun K205 hK205 => ?_
   refine rg h100 fun ops => ?_; clear h100 a100
   refine sa trivial rfl rfl ?_
   refine St.nil fun a206 h206 => ?_
   refine hK205 _ _ ?_
   refine wp_block ?_
   refine fr_loop (fun r a w' => ∃ q2 : Nat, q2 ≤ x.blocks.length ∧ r = x.blocks.length - q2 ∧ (∀ (j : Nat) z, j < q2 → x.blocks[j]? = some z → (MBlock.fault m.length q1 x j z).1 = 0) ∧ Fr 129 a [(0, .agg #[.slice p m.length c]), (1, .pointer (some ⟨B2, 0, none⟩)), (2, .pointer (some ⟨B3, 0, none⟩)), (3, .int .i64 (q1 : Int)), (4, .pointer (some ⟨B31, 0, none⟩)), (5, .int .i64 (listC x.regs x.params)), (6, .int .i64 (listC x.regs x.results)), (9, .int .i64 (q2 : Int))] ∧ Wd w w' [(B31, #[.int .i64 x.regs, .slice f1.pP x.params.length f1.cP, .slice f1.pR x.results.length f1.cR, .slice f1.pB x.blocks.length f1.cB], 50), (B3, #[.int .i64 0, .int .i64 0], 26), (B2, #[.slice p m.length c], 39)]) (x.blocks.length) ⟨0, Nat.zero_le _, rfl, (fun j z hj => by omega), (h206.keep (h206.keep (h206.keep (h206.keep (h206.keep (h206.keep (h206.keep (h206.keep h206.nil (t := 9) rfl) (t := 6) rfl) (t := 5) rfl) (t := 4) rfl) (t := 3) rfl) (t := 2) rfl) (t := 1) rfl) (t := 0) rfl), hW68⟩ ?_
   clear h206 hW68
   rintro r2 a207 w207 ⟨q2, hq2, hr2, hall2, hF207, hW207⟩ KL2 hKL2
   refine wp_seq_k fun K208 hK208 => ?_
   refine wp_seq_k fun K209 hK209 => ?_
   refine rg hF207 fun ops => ?_; clear hF207 a207
   refine sm trivial rfl rfl ?_
   refine sfFunc3 trivial rfl rfl ?_
   refine sbBlocks 0 hW207 trivial rfl rfl rfl rfl ?_
   refine slBlocks trivial rfl rfl ?_
   refine slt trivial rfl rfl rfl ?_
   refine St.nil fun a210 h210 => ?_
   refine hK209 _ _ ?_
   refine fr_cond (t := 117) h210 rfl (fun hb => ?_) (fun hb => ?_)
   ·have hlt2 : q2 < x.blocks.length := by have := of_decide_eq_true hb; omega
    clear hb
    obtain ⟨y, hx2⟩ : ∃ v9, (x.blocks)[q2]? = some v9 := ⟨_, List.getElem?_eq_getElem hlt2⟩
    obtain ⟨g2, o2, b2, hp2, E2, In2⟩ := block_at In1.out.blocks hx2
    replace In2 : Hid _ := In2
    replace hp2 : Hid _ := hp2
    replace hx2 : Hid _ := hx2
    replace E2 : Hid _ := E2
    refine wp_skip ?_
    refine hK208 _ _ ?_
    refine wp_seq_k fun K211 hK211 => ?_
    refine wp_block ?_
    refine wp_seq_k fun K212 hK212 => ?_
    refine rg h210 fun ops => ?_; clear h210 a210
    refine sS 2 1 Try.underlying39 rfl infModule hW207 trivial rfl rfl rfl rfl ?_
    refine sm trivial rfl rfl ?_
    refine sm trivial rfl rfl ?_
    refine sc_3 cf50 hW207 (blockFault_any (c := c) (Lay.below hm.out hW207.bel) hms.out hx1.out hx2.out) trivial rfl rfl rfl rfl ?_
    clear hW207; intro w213 hW213
    refine sAFault hW213 trivial rfl ?_
    clear hW213; intro w214 B214 hW214 hN; clear hN
    refine sT 0 hW214 rfl rfl infFault rfl rfl rfl ?_
    clear hW214; intro w215 hW215
    refine St.nil fun a216 h216 => ?_
    refine hK212 _ _ ?_
    refine wp_seq_k fun K217 hK217 => ?_
    refine rg h216 fun ops => ?_; clear h216 a216
    refine sfFault0 trivial rfl rfl ?_
    refine sbInt 0 hW215 trivial rfl rfl rfl rfl ?_
    refine sne trivial rfl rfl rfl ?_
    refine St.nil fun a218 h218 => ?_
    refine hK217 _ _ ?_
    refine fr_cond (t := 126) h218 rfl (fun hb => ?_) (fun hb => ?_)
    ·have h9 : ¬ ((MBlock.fault m.length q1 x q2 y).1) = 0 := bne_iff_ne.1 hb
     have hc219 : ¬ ((MBlock.fault m.length q1 x q2 y).1) = 0 := h9
     clear h9
     clear hb
     refine wp_seq_k fun K220 hK220 => ?_
     refine rg h218 fun ops => ?_; clear h218 a218
     refine sS 0 2 Try.underlying26 rfl infFault hW215 trivial rfl rfl rfl rfl ?_
     refine sT 2 hW215 rfl rfl infFault rfl rfl rfl ?_
     clear hW215; intro w221 hW221
     refine St.nil fun a222 h222 => ?_
     refine hK220 _ _ ?_
     refine wp_ret ?_; with_reducible repeat first | refine of_then_ret ?_ | refine of_block_ret ?_
     have RM : (MFunc.fault m.length q1 x).1 ≠ 0 → modFault m = MFunc.fault m.length q1 x := fun hz => (if_neg (by omega)).trans (by have h9 := firstF_eq (f := fun f x => MFunc.fault m.length f x) (j := 0) hx1.out (fun k y hk hy => by rw [Nat.zero_add]; exact hall1 k y hk hy) (by rw [Nat.zero_add]; exact hz); rwa [Nat.zero_add] at h9)
     have RC : x.code q1 = 0 := by have := hc65.out; have := hc78.out; exact (if_neg (by omega)).trans ((if_neg (by omega)).trans ((if_neg (by omega)).trans ((if_neg (by omega)).trans ((if_neg (by omega)).trans (rfl)))))
     have EF : MFunc.fault m.length q1 x = MBlock.fault m.length q1 x q2 y := by
       rw [MFunc.fault_eq, if_pos RC]
       have h9 := firstF_eq (f := fun b y => MBlock.fault m.length q1 x b y) (j := 0) hx2.out (fun k y hk hy => by rw [Nat.zero_add]; exact hall2 k y hk hy) (by rw [Nat.zero_add]; exact hc219)
       rwa [Nat.zero_add] at h9
     exact ret_box 2 h222 hW221 rfl rfl rfl Try.underlying26 rfl infFault ⟨by show Ending.returned (.agg #[.int .i64 ((MBlock.fault m.length q1 x q2 y).1), .int .i64 ((MBlock.fault m.length q1 x q2 y).2)]) = _; rw [RM (by rw [EF]; exact hc219), EF], hW221.bel⟩
    have h9 : ((MBlock.fault m.length q1 x q2 y).1) = 0 := bne_eq_false_iff_eq.1 hb
    have hc223 : Hid (((MBlock.fault m.length q1 x q2 y).1) = 0) := h9
    clear h9
    clear hb
    refine wp_skip ?_
    refine hK211 _ _ ?_
    refine rg h218 fun ops => ?_; clear h218 a218
    refine sm trivial rfl rfl ?_
    refine sad (by omega) trivial rfl rfl rfl ?_
    refine sa trivial rfl rfl ?_
    refine St.nil fun a224 h224 => ?_
    refine hKL2 _ _ (x.blocks.length - (q2 + 1)) (by omega) ⟨q2 + 1, by omega, rfl, ?_, (h224.keep (h224.keep (h224.keep (h224.keep (h224.keep (h224.keep (h224.keep (h224.keep h224.nil (t := 9) rfl) (t := 6) rfl) (t := 5) rfl) (t := 4) rfl) (t := 3) rfl) (t := 2) rfl) (t := 1) rfl) (t := 0) rfl), hW215.tail⟩
    ·intro j z hj hz
     by_cases e : j = q2
     · subst e; rw [hx2.out] at hz; cases hz; exact hc223.out
     · exact hall2 j z (by omega) hz
   have hge2 : q2 = x.blocks.length := by have := of_decide_eq_false hb; omega
   clear hb
   have RC : x.code q1 = 0 := by have := hc65.out; have := hc78.out; exact (if_neg (by omega)).trans ((if_neg (by omega)).trans ((if_neg (by omega)).trans ((if_neg (by omega)).trans ((if_neg (by omega)).trans (rfl)))))
   have NZ1 : (MFunc.fault m.length q1 x).1 = 0 := by
     rw [MFunc.fault_eq, if_pos RC, firstF_zero (fun k y hy => by rw [Nat.zero_add]; exact hall2 k y (by have := (List.getElem?_eq_some_iff.1 hy).1; omega) hy)]
   refine wp_exit ?_
   refine hK29 _ _ ?_
   refine rg h210 fun ops => ?_; clear h210 a210
   refine sm trivial rfl rfl ?_
   refine sad (by omega) trivial rfl rfl rfl ?_
   refine sa trivial rfl rfl ?_
   refine St.nil fun a225 h225 => ?_
   refine hKL1 _ _ (m.length - (q1 + 1)) (by omega) ⟨q1 + 1, by omega, rfl, ?_, (h225.keep (h225.keep (h225.keep (h225.keep h225.nil (t := 3) rfl) (t := 2) rfl) (t := 1) rfl) (t := 0) rfl), hW207.tail⟩
   ·intro j z hj hz
    by_cases e : j = q1
    · subst e; rw [hx1.out] at hz; cases hz; exact NZ1
    · exact hall1 j z (by omega) hz
  have hge1 : q1 = m.length := by have := of_decide_eq_false hb; omega
  clear hb
  refine wp_exit ?_
  refine hK22 _ _ ?_
  refine wp_seq_k fun K226 hK226 => ?_
  refine rg h28 fun ops => ?_; clear h28 a28
  intro a227 h227
  refine fr_pure (t := 128) (v := .agg #[.int .i64 0, .int .i64 0]) (w' := w25) h227 rfl rfl rfl (fun K hK => ?_) ?_
  ·go_simp
   exact hK
  clear h227; intro a228 hF228
  refine St.go hF228 ?_; clear hF228 a228
  refine sT 0 hW25 rfl rfl infFault rfl rfl rfl ?_
  clear hW25; intro w229 hW229
  refine St.nil fun a230 h230 => ?_
  refine hK226 _ _ ?_
  refine wp_ret ?_; with_reducible repeat first | refine of_then_ret ?_ | refine of_block_ret ?_
  have R : modFault m = (0, 0) := (if_neg (by omega)).trans (firstF_zero (fun k x hx => by rw [Nat.zero_add]; exact hall1 k x (by have := (List.getElem?_eq_some_iff.1 hx).1; omega) hx))
  exact ret_box 0 h230 hW229 rfl rfl rfl Try.underlying26 rfl infFault ⟨by show Ending.returned (.agg #[.int .i64 0, .int .i64 0]) = _; rw [R], hW229.bel⟩
end Go.Proofs.Ytmnmnokkojcodab
/-
  CodeDoes: the law's walk.
-/
namespace Go.Proofs.Ytmnmnokkojcodab
open Go.ChangeShapes Go.WideShapes Go.ChangeAt Go.RowKit
set_option linter.unusedVariables false
set_option linter.unusedSimpArgs false

set_option maxHeartbeats 4000000 in
set_option maxRecDepth 100000 in
theorem does_any {n : Nat} {m k : List (MFunc n)} {p p2 : Option Addr} {c d : Nat} {w : World} (hm0 : (modL n).In w All m [.slice p m.length c]) (hk0 : (modL n).In w All k [.slice p2 k.length d]) :
    Rd Try.prog 4 #[.agg #[.slice p m.length c], .agg #[.slice p2 k.length d]] w (.bool true) := by
  have hm : Hid _ := hm0
  have hk : Hid _ := hk0
  clear hm0 hk0
  refine fr_enter (n := 41) Try.func4 rfl rfl rfl ?_
  intro a hF
  have hW := Wd.start w
  replace hF : Fr 41 a [(0, .agg #[.slice p m.length c]), (1, .agg #[.slice p2 k.length d])] := hF
  refine wp_seq_k fun K1 hK1 => ?_
  refine rg hF fun ops => ?_; clear hF a
  refine sB hW trivial rfl rfl ?_
  clear hW; intro w2 B2 hW2 hN; clear hN
  refine sB hW2 trivial rfl rfl ?_
  clear hW2; intro w3 B3 hW3 hN; clear hN
  refine sa trivial rfl rfl ?_
  refine St.nil fun a4 h4 => ?_
  refine hK1 _ _ ?_
  refine wp_seq_k fun K5 hK5 => ?_
  refine wp_seq_k fun K6 hK6 => ?_
  refine rg h4 fun ops => ?_; clear h4 a4
  refine sc_0 cf12 hW3 (begun_any w3) trivial rfl ?_
  clear hW3; intro w7 hW7
  refine sn trivial rfl rfl ?_
  refine St.nil fun a8 h8 => ?_
  refine hK6 _ _ ?_
  refine fr_false (t := 7) h8 rfl ?_
  refine wp_skip ?_
  refine hK5 _ _ ?_
  refine wp_seq_k fun K9 hK9 => ?_
  refine wp_seq_k fun K10 hK10 => ?_
  refine fr_region ?_
  intro ops hops
  have hg2 : (ops[2]?).bind (fun o : Oper => o.dst) = some 10 := hops 2
  clear hops
  refine St.go h8 ?_; clear h8 a8
  refine sS 1 1 Try.underlying39 rfl infModule hW7 trivial rfl rfl rfl rfl ?_
  refine sc_1 cf13 hW7 (greatModule_any n m p c w7 (Lay.below hm.out hW7.bel)) trivial rfl rfl ?_
  clear hW7; intro w11 hW11
  refine sm trivial rfl rfl ?_
  intro a12 h12
  rcases Bool.eq_false_or_eq_true (bdec (greatMod m)) with hb | hb
  ·rw [hb] at h12
   have hgM : (greatMod m) := bdec_iff.1 hb
   clear hb
   refine St.go h12 ?_; clear h12 a12
   refine so hg2 rfl rfl rfl rfl ?_
   refine so hg2 rfl rfl rfl rfl ?_
   refine sp trivial rfl rfl rfl ?_
   refine St.nil fun a13 h13 => ?_
   refine hK10 _ _ ?_
   refine fr_true (t := 13) h13 rfl ?_
   refine wp_seq_k fun K14 hK14 => ?_
   refine rg h13 fun ops => ?_; clear h13 a13
   refine sa trivial rfl rfl ?_
   refine St.nil fun a15 h15 => ?_
   refine hK14 _ _ ?_
   refine wp_ret ?_; with_reducible repeat first | refine of_then_ret ?_ | refine of_block_ret ?_
   exact ret_tmp (t := 4) h15 rfl rfl ⟨rfl, hW11.bel⟩
  rw [hb] at h12
  have hgM : ¬ (greatMod m) := fun h => by rw [bdec_true h] at hb; cases hb
  clear hb
  refine St.go h12 ?_; clear h12 a12
  refine sS 0 1 Try.underlying39 rfl infModule hW11 ⟨_, hg2, rfl, rfl⟩ rfl rfl rfl rfl ?_
  refine sc_1 cf13 hW11 (greatModule_any n k p2 d w11 (Lay.below hk.out hW11.bel)) ⟨_, hg2, rfl, rfl⟩ rfl rfl ?_
  clear hW11; intro w16 hW16
  refine spf trivial rfl rfl rfl ?_
  refine St.nil fun a17 h17 => ?_
  refine hK10 _ _ ?_
  refine fr_cond (t := 13) h17 rfl (fun hb => ?_) (fun hb => ?_)
  ·have hgK : (greatMod k) := bdec_iff.1 hb
   clear hb
   refine wp_seq_k fun K18 hK18 => ?_
   refine rg h17 fun ops => ?_; clear h17 a17
   refine sa trivial rfl rfl ?_
   refine St.nil fun a19 h19 => ?_
   refine hK18 _ _ ?_
   refine wp_ret ?_; with_reducible repeat first | refine of_then_ret ?_ | refine of_block_ret ?_
   exact ret_tmp (t := 4) h19 rfl rfl ⟨rfl, hW16.bel⟩
  have hgK : ¬ (greatMod k) := fun h => by rw [bdec_true h] at hb; cases hb
  clear hb
  refine wp_skip ?_
  refine hK9 _ _ ?_
  refine wp_seq_k fun K20 hK20 => ?_
  refine rg h17 fun ops => ?_; clear h17 a17
  refine sS 1 1 Try.underlying39 rfl infModule hW16 trivial rfl rfl rfl rfl ?_
  refine sn_1 cf14 hW16 (ownModule_any m _ _ _ (Lay.below hm.out hW16.bel) (msmall_of hgM)) trivial rfl rfl ?_
  rintro v9 w21 ⟨po, co, rfl, hO⟩ hb9 hW21
  replace hO := Lay.mono hO (O' := fun k => k < w21.heap.size) (fun k _ hl => hl)
  clear hb9 hW16
  refine sAModule hW21 trivial rfl ?_
  clear hW21; intro w22 B22 hW22 hN; replace hO := Lay.below hO hN.bel; have hB5 : Hid _ := hN.at_; clear hN
  refine sTk 0 hW22 rfl rfl infModule rfl rfl rfl ?_
  intro w23 hKp hW23
  replace hO := Lay.keepNe hO hKp (fun k hk e => by rw [e, hB5.out] at hk; exact Nat.lt_irrefl _ hk)
  clear hKp hW22
  refine St.nil fun a24 h24 => ?_
  refine hK20 _ _ ?_
  refine wp_seq_k fun K25 hK25 => ?_
  have hOO : Hid ((modL n).In w23 All m [.slice po m.length co]) := Lay.mono hO (fun _ _ _ => trivial)
  clear hO
  have hsm : Hid _ := msmall_of hgM
  have hF26 : Fr 41 a24 [(1, .agg #[.slice p2 k.length d]), (0, .agg #[.slice p m.length c]), (2, .pointer (some ⟨B2, 0, none⟩)), (3, .pointer (some ⟨B3, 0, none⟩)), (5, .pointer (some ⟨B22, 0, none⟩))] := (h24.keep (h24.keep (h24.keep (h24.keep (h24.keep h24.nil (t := 5) rfl) (t := 3) rfl) (t := 2) rfl) (t := 0) rfl) (t := 1) rfl)
  have ho5 : a24.tmps.getD 5 undef = .pointer (some ⟨B22, 0, none⟩) := h24.sl 5 _ rfl
  have ho2 : a24.tmps.getD 2 undef = .pointer (some ⟨B2, 0, none⟩) := h24.sl 2 _ rfl
  have ho3 : a24.tmps.getD 3 undef = .pointer (some ⟨B3, 0, none⟩) := h24.sl 3 _ rfl
  refine fr_draw_k 26 ([(5, fun v _ => v = .pointer (some ⟨B22, 0, none⟩)), (2, fun v _ => v = .pointer (some ⟨B2, 0, none⟩)), (3, fun v _ => v = .pointer (some ⟨B3, 0, none⟩)), (16, fun v _ => v = .agg #[.slice po m.length co]), (17, fun v _ => v = .agg #[.int .i64 ((modFault m).1), .int .i64 ((modFault m).2)]), (18, fun v _ => v = .agg #[.slice p m.length c]), (19, fun v _ => v = .agg #[.int .i64 ((modFault m).1), .int .i64 ((modFault m).2)]), (20, fun v _ => v = .bool true), (21, fun v _ => v = .bool true), (22, fun v _ => v = .agg #[.slice po m.length co]), (23, fun v w' => ∃ p c, v = .agg #[.slice p m.length c] ∧ (modL n).In w' All m [.slice p m.length c]), (24, fun v _ => v = .agg #[.slice p m.length c]), (25, fun v _ => v = .bool true), (26, fun v _ => v = .bool true), (27, fun v _ => v = .bool true), (28, fun v _ => v = .agg #[.slice po m.length co]), (29, fun v _ => v = .agg #[.slice p2 k.length d]), (30, fun v _ => v = .bool (bdec (m = k))), (31, fun v _ => v = .agg #[.slice p m.length c]), (32, fun v _ => v = .agg #[.slice p2 k.length d]), (33, fun v _ => v = .bool (bdec (m = k))), (34, fun v _ => v = .bool true), (35, fun v _ => v = .bool true), (36, fun v _ => v = .bool true), (37, fun v _ => v = .agg #[.slice po m.length co]), (38, fun v _ => v = .agg #[.slice p m.length c]), (39, fun v _ => v = .bool true), (40, fun v _ => v = .bool true), (4, fun v _ => v = .bool true)] : PTab) (fun w' => Wd w w' [(B22, #[.slice po m.length co], 39), (B3, #[.slice p2 k.length d], 39), (B2, #[.slice p m.length c], 39)] ∧ Below w23.heap.size w23 w') (fun w w' => Below w.heap.size w w') (outs := [5, 2, 3]) (gs := [(5, some true), (11, some true), (20, some true)]) (bs := [true, true, true, true, true, true, true, true, true, true, true, true, true, true, true, true, true, true, true, true, true, true, true, true, true, true]) (by kernel_rfl) hF26 rfl (by kernel_rfl) (by kernel_rfl) ?hR ?hG ⟨hW23.drewN 1, drewN_below (m := 1) (Below.refl _ _)⟩ ⟨ho5, ho2, ho3, trivial⟩ ?hA ?hend
  case hR => exact ⟨fun _ _ _ _ h => h, fun _ _ _ _ h => h, fun _ _ _ _ h => h, fun _ _ _ _ h => h, fun _ _ _ _ h => h, fun _ _ _ _ h => h, fun _ _ _ _ h => h, fun _ _ _ _ h => h, fun _ _ _ _ h => h, fun _ _ _ _ h => h, fun v w w' hr h => by obtain ⟨p, c, h1, h2⟩ := h; exact ⟨p, c, h1, Lay.below h2 hr⟩, fun _ _ _ _ h => h, fun _ _ _ _ h => h, fun _ _ _ _ h => h, fun _ _ _ _ h => h, fun _ _ _ _ h => h, fun _ _ _ _ h => h, fun _ _ _ _ h => h, fun _ _ _ _ h => h, fun _ _ _ _ h => h, fun _ _ _ _ h => h, fun _ _ _ _ h => h, fun _ _ _ _ h => h, fun _ _ _ _ h => h, fun _ _ _ _ h => h, fun _ _ _ _ h => h, fun _ _ _ _ h => h, fun _ _ _ _ h => h, fun _ _ _ _ h => h, trivial⟩
  case hG => exact ⟨fun t ht v w _ h => by cases ht; exact h, fun t ht v w _ h => by cases ht; exact h, fun t ht v w _ h => by cases ht; exact h, trivial⟩
  case hA =>
   refine ⟨fun a w hW hk K hK => ?_, ?_⟩
   · obtain ⟨k0, -⟩ := hk
     have k0 : a.tmps.getD 5 undef = .pointer (some ⟨B22, 0, none⟩) := k0
     have c0 : w.cell? ⟨B22, 0, none⟩ = some (.slice po m.length co) := cellOf (hW.1.get 0 rfl) 0 _ rfl
     go_simp
     exact hK _ _ (Below.refl _ _) hW rfl
   refine ⟨fun a w hW hk K hK => ?_, ?_⟩
   · obtain ⟨k0, -⟩ := hk
     have k0 : a.tmps.getD 16 undef = .agg #[.slice po m.length co] := k0
     have hC : Rd Try.prog 15 #[.agg #[.slice po m.length co]] w (.agg #[.int .i64 ((modFault m).1), .int .i64 ((modFault m).2)]) := cCheck_any (Lay.below hOO.out hW.2) hsm.out
     go_simp
     refine hC.mono ?_
     rintro e w9 ⟨rfl, hb⟩
     exact hK _ _ hb ⟨hW.1.below hb, Below.andThen hW.2 hb⟩ rfl
   refine ⟨fun a w hW hk K hK => ?_, ?_⟩
   · obtain ⟨k0, -⟩ := hk
     have k0 : a.tmps.getD 2 undef = .pointer (some ⟨B2, 0, none⟩) := k0
     have c0 : w.cell? ⟨B2, 0, none⟩ = some (.slice p m.length c) := cellOf (hW.1.get 2 rfl) 0 _ rfl
     go_simp
     exact hK _ _ (Below.refl _ _) hW rfl
   refine ⟨fun a w hW hk K hK => ?_, ?_⟩
   · obtain ⟨k0, -⟩ := hk
     have k0 : a.tmps.getD 18 undef = .agg #[.slice p m.length c] := k0
     have hC : Rd Try.prog 16 #[.agg #[.slice p m.length c]] w (.agg #[.int .i64 ((modFault m).1), .int .i64 ((modFault m).2)]) := codeFault_any (Lay.below hm.out hW.1.bel) hsm.out
     go_simp
     refine hC.mono ?_
     rintro e w9 ⟨rfl, hb⟩
     exact hK _ _ hb ⟨hW.1.below hb, Below.andThen hW.2 hb⟩ rfl
   refine ⟨fun a w hW hk K hK => ?_, ?_⟩
   · obtain ⟨k0, k1, -⟩ := hk
     have k0 : a.tmps.getD 17 undef = .agg #[.int .i64 ((modFault m).1), .int .i64 ((modFault m).2)] := k0
     have k1 : a.tmps.getD 19 undef = .agg #[.int .i64 ((modFault m).1), .int .i64 ((modFault m).2)] := k1
     go_simp
     exact hK _ _ (Below.refl _ _) hW rfl
   refine ⟨fun a w hW hk K hK => ?_, ?_⟩
   · obtain ⟨k0, -⟩ := hk
     have k0 : a.tmps.getD 20 undef = .bool true := k0
     go_simp
     exact hK _ _ (Below.refl _ _) hW rfl
   refine ⟨fun a w hW hk K hK => ?_, ?_⟩
   · obtain ⟨k0, -⟩ := hk
     have k0 : a.tmps.getD 5 undef = .pointer (some ⟨B22, 0, none⟩) := k0
     have c0 : w.cell? ⟨B22, 0, none⟩ = some (.slice po m.length co) := cellOf (hW.1.get 0 rfl) 0 _ rfl
     go_simp
     exact hK _ _ (Below.refl _ _) hW rfl
   refine ⟨fun a w hW hk K hK => ?_, ?_⟩
   · obtain ⟨k0, -⟩ := hk
     have k0 : a.tmps.getD 22 undef = .agg #[.slice po m.length co] := k0
     go_simp
     refine (cOwn_any m _ _ w (Lay.below hOO.out hW.2) hsm.out).mono ?_
     rintro e w9 ⟨v9, rfl, ⟨p9, c9, rfl, h9⟩, hb⟩
     exact hK _ _ hb ⟨hW.1.below hb, Below.andThen hW.2 hb⟩ ⟨p9, c9, rfl, Lay.mono h9 (fun _ _ _ => trivial)⟩
   refine ⟨fun a w hW hk K hK => ?_, ?_⟩
   · obtain ⟨k0, -⟩ := hk
     have k0 : a.tmps.getD 2 undef = .pointer (some ⟨B2, 0, none⟩) := k0
     have c0 : w.cell? ⟨B2, 0, none⟩ = some (.slice p m.length c) := cellOf (hW.1.get 2 rfl) 0 _ rfl
     go_simp
     exact hK _ _ (Below.refl _ _) hW rfl
   refine ⟨fun a w hW hk K hK => ?_, ?_⟩
   · obtain ⟨k0, k1, -⟩ := hk
     obtain ⟨p23, c23, k0, hN23⟩ := k0
     have k0 : a.tmps.getD 23 undef = .agg #[.slice p23 m.length c23] := k0
     have k1 : a.tmps.getD 24 undef = .agg #[.slice p m.length c] := k1
     have hC : Rd Try.prog 17 #[.agg #[.slice p23 m.length c23], .agg #[.slice p m.length c]] w (.bool true) := by have h9 := sameModule_any hN23 (Lay.below hm.out hW.1.bel) hsm.out; rwa [bdec_true rfl] at h9
     go_simp
     refine hC.mono ?_
     rintro e w9 ⟨rfl, hb⟩
     exact hK _ _ hb ⟨hW.1.below hb, Below.andThen hW.2 hb⟩ rfl
   refine ⟨fun a w hW hk K hK => ?_, ?_⟩
   · obtain ⟨k0, k1, -⟩ := hk
     have k0 : a.tmps.getD 21 undef = .bool true := k0
     have k1 : a.tmps.getD 25 undef = .bool true := k1
     go_simp
     exact hK _ _ (Below.refl _ _) hW rfl
   refine ⟨fun a w hW hk K hK => ?_, ?_⟩
   · obtain ⟨k0, -⟩ := hk
     have k0 : a.tmps.getD 26 undef = .bool true := k0
     go_simp
     exact hK _ _ (Below.refl _ _) hW rfl
   refine ⟨fun a w hW hk K hK => ?_, ?_⟩
   · obtain ⟨k0, -⟩ := hk
     have k0 : a.tmps.getD 5 undef = .pointer (some ⟨B22, 0, none⟩) := k0
     have c0 : w.cell? ⟨B22, 0, none⟩ = some (.slice po m.length co) := cellOf (hW.1.get 0 rfl) 0 _ rfl
     go_simp
     exact hK _ _ (Below.refl _ _) hW rfl
   refine ⟨fun a w hW hk K hK => ?_, ?_⟩
   · obtain ⟨k0, -⟩ := hk
     have k0 : a.tmps.getD 3 undef = .pointer (some ⟨B3, 0, none⟩) := k0
     have c0 : w.cell? ⟨B3, 0, none⟩ = some (.slice p2 k.length d) := cellOf (hW.1.get 1 rfl) 0 _ rfl
     go_simp
     exact hK _ _ (Below.refl _ _) hW rfl
   refine ⟨fun a w hW hk K hK => ?_, ?_⟩
   · obtain ⟨k0, k1, -⟩ := hk
     have k0 : a.tmps.getD 28 undef = .agg #[.slice po m.length co] := k0
     have k1 : a.tmps.getD 29 undef = .agg #[.slice p2 k.length d] := k1
     have hC : Rd Try.prog 19 #[.agg #[.slice po m.length co], .agg #[.slice p2 k.length d]] w (.bool (bdec (m = k))) := cSame_any (Lay.below hOO.out hW.2) (Lay.below hk.out hW.1.bel) hsm.out
     go_simp
     refine hC.mono ?_
     rintro e w9 ⟨rfl, hb⟩
     exact hK _ _ hb ⟨hW.1.below hb, Below.andThen hW.2 hb⟩ rfl
   refine ⟨fun a w hW hk K hK => ?_, ?_⟩
   · obtain ⟨k0, -⟩ := hk
     have k0 : a.tmps.getD 2 undef = .pointer (some ⟨B2, 0, none⟩) := k0
     have c0 : w.cell? ⟨B2, 0, none⟩ = some (.slice p m.length c) := cellOf (hW.1.get 2 rfl) 0 _ rfl
     go_simp
     exact hK _ _ (Below.refl _ _) hW rfl
   refine ⟨fun a w hW hk K hK => ?_, ?_⟩
   · obtain ⟨k0, -⟩ := hk
     have k0 : a.tmps.getD 3 undef = .pointer (some ⟨B3, 0, none⟩) := k0
     have c0 : w.cell? ⟨B3, 0, none⟩ = some (.slice p2 k.length d) := cellOf (hW.1.get 1 rfl) 0 _ rfl
     go_simp
     exact hK _ _ (Below.refl _ _) hW rfl
   refine ⟨fun a w hW hk K hK => ?_, ?_⟩
   · obtain ⟨k0, k1, -⟩ := hk
     have k0 : a.tmps.getD 31 undef = .agg #[.slice p m.length c] := k0
     have k1 : a.tmps.getD 32 undef = .agg #[.slice p2 k.length d] := k1
     have hC : Rd Try.prog 17 #[.agg #[.slice p m.length c], .agg #[.slice p2 k.length d]] w (.bool (bdec (m = k))) := sameModule_any (Lay.below hm.out hW.1.bel) (Lay.below hk.out hW.1.bel) hsm.out
     go_simp
     refine hC.mono ?_
     rintro e w9 ⟨rfl, hb⟩
     exact hK _ _ hb ⟨hW.1.below hb, Below.andThen hW.2 hb⟩ rfl
   refine ⟨fun a w hW hk K hK => ?_, ?_⟩
   · obtain ⟨k0, k1, -⟩ := hk
     have k0 : a.tmps.getD 30 undef = .bool (bdec (m = k)) := k0
     have k1 : a.tmps.getD 33 undef = .bool (bdec (m = k)) := k1
     go_simp
     exact hK _ _ (Below.refl _ _) hW rfl
   refine ⟨fun a w hW hk K hK => ?_, ?_⟩
   · obtain ⟨k0, k1, -⟩ := hk
     have k0 : a.tmps.getD 27 undef = .bool true := k0
     have k1 : a.tmps.getD 34 undef = .bool true := k1
     go_simp
     exact hK _ _ (Below.refl _ _) hW rfl
   refine ⟨fun a w hW hk K hK => ?_, ?_⟩
   · obtain ⟨k0, -⟩ := hk
     have k0 : a.tmps.getD 35 undef = .bool true := k0
     go_simp
     exact hK _ _ (Below.refl _ _) hW rfl
   refine ⟨fun a w hW hk K hK => ?_, ?_⟩
   · obtain ⟨k0, -⟩ := hk
     have k0 : a.tmps.getD 5 undef = .pointer (some ⟨B22, 0, none⟩) := k0
     have c0 : w.cell? ⟨B22, 0, none⟩ = some (.slice po m.length co) := cellOf (hW.1.get 0 rfl) 0 _ rfl
     go_simp
     exact hK _ _ (Below.refl _ _) hW rfl
   refine ⟨fun a w hW hk K hK => ?_, ?_⟩
   · obtain ⟨k0, -⟩ := hk
     have k0 : a.tmps.getD 2 undef = .pointer (some ⟨B2, 0, none⟩) := k0
     have c0 : w.cell? ⟨B2, 0, none⟩ = some (.slice p m.length c) := cellOf (hW.1.get 2 rfl) 0 _ rfl
     go_simp
     exact hK _ _ (Below.refl _ _) hW rfl
   refine ⟨fun a w hW hk K hK => ?_, ?_⟩
   · obtain ⟨k0, k1, -⟩ := hk
     have k0 : a.tmps.getD 37 undef = .agg #[.slice po m.length co] := k0
     have k1 : a.tmps.getD 38 undef = .agg #[.slice p m.length c] := k1
     have hC : Rd Try.prog 17 #[.agg #[.slice po m.length co], .agg #[.slice p m.length c]] w (.bool true) := by have h9 := sameModule_any (Lay.below hOO.out hW.2) (Lay.below hm.out hW.1.bel) hsm.out; rwa [bdec_true rfl] at h9
     go_simp
     refine hC.mono ?_
     rintro e w9 ⟨rfl, hb⟩
     exact hK _ _ hb ⟨hW.1.below hb, Below.andThen hW.2 hb⟩ rfl
   refine ⟨fun a w hW hk K hK => ?_, ?_⟩
   · obtain ⟨k0, k1, -⟩ := hk
     have k0 : a.tmps.getD 36 undef = .bool true := k0
     have k1 : a.tmps.getD 39 undef = .bool true := k1
     go_simp
     exact hK _ _ (Below.refl _ _) hW rfl
   refine ⟨fun a w hW hk K hK => ?_, ?_⟩
   · obtain ⟨k0, -⟩ := hk
     have k0 : a.tmps.getD 40 undef = .bool true := k0
     go_simp
     exact hK _ _ (Below.refl _ _) hW rfl
   trivial
  case hend =>
   intro ops a27 w27 hWD hE hFD
   have hd4 : a27.tmps.getD 4 undef = .bool true := hE 4 rfl
   have hF27 : Fr 41 a27 [(4, .bool true), (1, .agg #[.slice p2 k.length d]), (0, .agg #[.slice p m.length c]), (2, .pointer (some ⟨B2, 0, none⟩)), (3, .pointer (some ⟨B3, 0, none⟩)), (5, .pointer (some ⟨B22, 0, none⟩))] := (hFD.cons hd4)
   clear hd4
   have hW27 : Wd w w27 [(B22, #[.slice po m.length co], 39), (B3, #[.slice p2 k.length d], 39), (B2, #[.slice p m.length c], 39)] := hWD.1
   clear hFD hWD hE hF26 h24
   clear hW23
   refine wpList_nil ?_
   refine hK25 _ _ ?_
   refine wp_ret ?_; with_reducible repeat first | refine of_then_ret ?_ | refine of_block_ret ?_
   exact ret_tmp (t := 4) hF27 rfl rfl ⟨rfl, hW27.bel⟩
end Go.Proofs.Ytmnmnokkojcodab
/-
  The arguments of the laws on modules, as they came in: modules, instructions, functions, ends; how long their lists can be.
-/
namespace Go.Proofs.Ytmnmnokkojcodab
open Go.ChangeShapes Go.WideShapes Go.ChangeAt Go.RowKit Go.Deep
set_option linter.unusedVariables false

/-- All that a reading weighs is within reach. -/
def Wt {H : Type} (P : Program) (t : TypeId) (d : DataW H) : Prop := ∀ n ∈ d.weights P t, n ≤ reachBytes
/-- Whatever reads as t, its reading no deeper than n, is such a datum, within bounds. -/
def ReadsB (P : Program) (t : TypeId) {α : Type} (A : Lay α) (n : Nat) (Bd : α → Prop) : Prop :=
  P.cellsOf t = A.size ∧ ∀ {H : Type} {enc : TypeId × Value → H} {w : World} {base : Nat} {spare : Nat → Bool} {held : Bool} {fuel : Nat} {cs : List Value} {x : DataW H × List MemPlace},
    fuel ≤ n → DataW.trod enc P w base spare held fuel t cs = some x → Wt P t x.1 → ∃ d, A.In w (fun _ => True) d cs ∧ Bd d

theorem ReadsB.int {P : Program} {t : TypeId} (n : Nat) (h : P.underlying t = some (.int .i64)) (hc : P.cellsOf t = 1) : ReadsB P t Lay.int n (fun _ => True) :=
  ⟨hc, fun _ h' _ => by
    obtain ⟨k, e, _, wf⟩ := DataW.trod_int h h'
    exact ⟨k, ⟨e, Go.bounds_i64 wf⟩, trivial⟩⟩

theorem weightsAll_mem {H : Type} {P : Program} {e : TypeId} : ∀ {l : List (DataW H)} {d : DataW H}, d ∈ l → ∀ n ∈ d.weights P e, n ∈ DataW.weightsAll P e l
  | d0 :: l, d, h, n, hn => by
    simp only [DataW.weightsAll, List.mem_append]
    rcases List.mem_cons.1 h with rfl | h
    · exact .inl hn
    · exact .inr (weightsAll_mem h n hn)

theorem ReadsB.list {P : Program} {t e : TypeId} {α : Type} {A : Lay α} {n : Nat} {Bd : α → Prop} (h : P.underlying t = some (.slice e)) (hc : P.cellsOf t = 1) (hA : ReadsB P e A n Bd) (h0 : 0 < A.size) (hbe : 0 < P.bytesOf e) : ReadsB P t A.list n (fun l => l.length < 1152921504606846976) :=
  ⟨hc, fun {H enc w base spare held fuel cs x} hf h' hw => by
    rcases DataW.trod_slice h h' with ⟨e2, _⟩ | ⟨a, len, cap, elems, rest, q, rfl, e2, ex, hb, hl, hm, hlen, hel, _, _⟩
    · exact ⟨[], by rw [e2]; exact Lay.list_nil A _ _ _ _, by simp⟩
    · have hlw : (elems.length + rest.length) * P.bytesOf e ≤ reachBytes := hw _ (by rw [ex]; simp [DataW.weights, h])
      have hlb : len < 1152921504606846976 := by
        have h1 : elems.length * 1 ≤ (elems.length + rest.length) * P.bytesOf e := Nat.mul_le_mul (by omega) hbe
        have h2 : reachBytes < 1152921504606846976 := by decide
        omega
      have hel' : ∀ i, i < len → ∃ y, elems[i]? = some y ∧ Wt P e y.1 := fun i hi => by
        refine ⟨elems[i]'(by omega), List.getElem?_eq_getElem (by omega), fun k hk => hw k ?_⟩
        rw [ex]
        simp only [DataW.weights, h, List.mem_cons, List.mem_append]
        exact .inr (.inl (weightsAll_mem (List.mem_map_of_mem (List.getElem_mem (by omega))) k hk))
      obtain ⟨l, hll, hp⟩ := list_of' (P := fun i (d : α) => ∃ ds, w.cells? base (a.add (i * A.size)) A.size = some ds ∧ A.In w (fun _ => True) d ds) len (fun i hi => by
        have he := hel i hi
        obtain ⟨y, hy, hwy⟩ := hel' i hi
        rw [hy, hA.1] at he
        rw [Option.bind_eq_some_iff] at he
        obtain ⟨ds, hds, htr⟩ := he
        obtain ⟨d, hd, _⟩ := hA.2 (by omega) htr hwy
        exact ⟨d, ds, hds, hd⟩)
      refine ⟨l, ⟨some a, cap, by rw [e2, hll], fun i x hx => ?_⟩, by omega⟩
      obtain ⟨ds, hds, hd⟩ := hp i x hx
      obtain ⟨_, hcl, hcell⟩ := World.cells?_some hds
      obtain ⟨b, off, spot⟩ := a
      have hspot : spot = none := by
        have hi : 0 < l.length := Nat.lt_of_le_of_lt (Nat.zero_le i) (List.getElem?_eq_some_iff.1 hx).1
        obtain ⟨ds0, hds0, hd0⟩ := hp 0 l[0] (List.getElem?_eq_getElem hi)
        have hl0 : 0 < ds0.length := by rw [A.len hd0]; exact h0
        have := (World.cells?_some hds0).2.2 0 h0
        rw [List.getElem?_eq_getElem hl0] at this
        simpa [Addr.add] using World.cell?_spot this
      subst hspot
      have key : ∀ j, j < A.size → w.cell? ⟨b, off + i * A.size + j, none⟩ = ds[j]? := fun j hj => by
        have := hcell j hj
        rw [Go.WideShapes.add_plain, Go.WideShapes.add_plain] at this
        exact this
      refine ⟨b, off, ds, rfl, trivial, ?_, key, hd⟩
      have hl0 : 0 < ds.length := by rw [A.len hd]; exact h0
      have := key 0 h0
      rw [List.getElem?_eq_getElem hl0] at this
      exact World.block_lt_of_cell? w _ this⟩

/-- Fields one behind the other, from the field i on, at the cell o. -/
def FieldsB (P : Program) (fs : Array Field) : Nat → Nat → {α : Type} → Lay α → Nat → (α → Prop) → Prop := fun i o α A n Bd =>
  ∀ (H : Type) (enc : TypeId × Value → H) (w : World) (base : Nat) (spare : Nat → Bool) (held : Bool) (fuel : Nat) (cs : List Value) (xs : List (DataW H × List MemPlace)),
    fuel ≤ n → cs.length = o + A.size → xs.length = fs.size → (∀ (j : Nat) (f : Field), fs[j]? = some f → DataW.trod enc P w base spare held fuel f.type ((cs.drop f.offset).take (P.cellsOf f.type)) = xs[j]?) →
    (∀ (j : Nat) (f : Field) x, fs[j]? = some f → xs[j]? = some x → Wt P f.type x.1) → ∃ d, A.In w (fun _ => True) d (cs.drop o) ∧ Bd d

theorem FieldsB.last {P : Program} {fs : Array Field} {i o n : Nat} {f : Field} {α : Type} {A : Lay α} {Bd : α → Prop} (hf : fs[i]? = some f) (ho : f.offset = o) (hA : ReadsB P f.type A n Bd) : FieldsB P fs i o A n Bd := by
  intro H enc w base spare held fuel cs xs hn hl hx h hw
  have g := h i f hf
  have hi : i < fs.size := (Array.getElem?_eq_some_iff.1 hf).1
  rw [List.getElem?_eq_getElem (by omega), ho, hA.1] at g
  obtain ⟨d, hd, hb⟩ := hA.2 hn g (hw i f _ hf (List.getElem?_eq_getElem (by omega)))
  refine ⟨d, ?_, hb⟩
  rwa [List.take_of_length_le (by simp; omega)] at hd

theorem FieldsB.cons {P : Program} {fs : Array Field} {i o n : Nat} {f : Field} {α β : Type} {A : Lay α} {B : Lay β} {Bd : α → Prop} {Be : β → Prop} (hf : fs[i]? = some f) (ho : f.offset = o) (hA : ReadsB P f.type A n Bd) (hB : FieldsB P fs (i + 1) (o + A.size) B n Be) : FieldsB P fs i o (A.pair B) n (fun x => Bd x.1 ∧ Be x.2) := by
  intro H enc w base spare held fuel cs xs hn hl hx h hw
  have g := h i f hf
  have hi : i < fs.size := (Array.getElem?_eq_some_iff.1 hf).1
  rw [List.getElem?_eq_getElem (by omega), ho, hA.1] at g
  obtain ⟨d, hd, hb⟩ := hA.2 hn g (hw i f _ hf (List.getElem?_eq_getElem (by omega)))
  have hs : (A.pair B).size = A.size + B.size := rfl
  obtain ⟨e, he, hb2⟩ := hB _ _ _ _ _ _ _ _ _ hn (by omega) hx h hw
  refine ⟨(d, e), ⟨_, _, ?_, hd, he⟩, hb, hb2⟩
  rw [← List.drop_drop, List.take_append_drop]

theorem ReadsB.struct {P : Program} {t : TypeId} {fs : Array Field} {α : Type} {A : Lay α} {n : Nat} {Bd : α → Prop} (h : P.underlying t = some (.struct fs)) (hc : P.cellsOf t = A.size) (hF : FieldsB P fs 0 0 A n Bd) : ReadsB P t A n Bd :=
  ⟨hc, fun {H enc w base spare held fuel cs x} hf h' hw => by
    obtain ⟨xs, m, rfl, ex, hcl, hxl, hfl⟩ := DataW.trod_struct h h'
    obtain ⟨d, hd, hb⟩ := hF _ _ _ _ _ _ _ _ _ (by omega) (by rw [hcl, hc]; omega) hxl hfl (fun j f y hj hy k hk => hw k (by
      rw [ex]
      simp only [DataW.weights, h]
      exact DataW.weights_mem_each (j := j) (t := f.type) (d := y.1) (by simp [hj]) (by simp [hy]) k hk))
    exact ⟨d, by simpa using hd, hb⟩⟩
theorem ReadsB.via {P : Program} {t : TypeId} {α β : Type} {A : Lay α} {n : Nat} {f : β → α} {Bd : α → Prop} (h : ReadsB P t A n Bd) (g : α → β) (hg : ∀ d, f (g d) = d) : ReadsB P t (A.via f) n (fun x => Bd (f x)) :=
  ⟨h.1, fun hf h' hw => by
    obtain ⟨d, hd, hb⟩ := h.2 hf h' hw
    exact ⟨g d, by show A.In _ _ (f (g d)) _; rw [hg]; exact hd, by show Bd (f (g d)); rw [hg]; exact hb⟩⟩

theorem own : ownKnob Try.prog.godebug = none := by kernel_rfl
theorem laidOut : laidOutB Try.prog = true := by kernel_rfl
theorem fieldsT : ∃ f0 f1 f2 : Field, Try.prog.underlying 90 = some (.struct #[f0, f1, f2]) ∧
    (f0.offset = 0 ∧ Try.prog.cellsOf f0.type = 1 ∧ Try.prog.underlying f0.type = some (.int .i64)) ∧ (f1.offset = 1 ∧ Try.prog.cellsOf f1.type = 1 ∧ Try.prog.underlying f1.type = some (.int .i64)) ∧
    (f2.offset = 2 ∧ Try.prog.cellsOf f2.type = 1 ∧ f2.type = 47) :=
  ⟨_, _, _, Try.underlying90, ⟨rfl, by kernel_rfl, by kernel_rfl⟩, ⟨rfl, by kernel_rfl, by kernel_rfl⟩, ⟨rfl, by kernel_rfl, rfl⟩⟩
theorem readsT (n : Nat) : ReadsB Try.prog 90 (Lay.tt n) n (fun _ => True) :=
  ⟨by kernel_rfl, fun {H enc w base spare held fuel cs x} hf h' hw => by
    obtain ⟨f0, f1, f2, e, h0, h1, h2⟩ := fieldsT
    obtain ⟨t, a, c, hc, h3, h4⟩ := tin_of (ti := 0) Try.underlying47 e (by kernel_rfl) h0 h1 h2 n fuel hf h'
    exact ⟨t, ⟨a, c, hc, h3, h4⟩, trivial⟩⟩
theorem readsI (n : Nat) : ReadsB Try.prog 3 Lay.int n (fun _ => True) := ReadsB.int n Try.underlying3 (by kernel_rfl)
theorem readsI6 (n : Nat) : ReadsB Try.prog 2 Lay.int n (fun _ => True) := ReadsB.int n Try.underlying2 (by kernel_rfl)
theorem readsIs (n : Nat) : ReadsB Try.prog 44 intsL n (fun l => l.length < 1152921504606846976) := ReadsB.list Try.underlying44 (by kernel_rfl) (readsI n) (by decide) (by rw [show Try.prog.bytesOf 3 = 8 from by kernel_rfl]; decide)
theorem readsTs (n : Nat) : ReadsB Try.prog 47 (typesL n) n (fun l => l.length < 1152921504606846976) := ReadsB.list Try.underlying47 (by kernel_rfl) (readsT n) (by show 0 < 3; decide) (by rw [show Try.prog.bytesOf 90 = 40 from by kernel_rfl]; decide)
set_option maxRecDepth 100000 in
theorem readsIns (n : Nat) : ReadsB Try.prog 46 insL n (fun x => x.regs.length < 1152921504606846976 ∧ x.args.length < 1152921504606846976) := by
  have h := ReadsB.struct (n := n) (A := Lay.int.pair (Lay.int.pair (Lay.int.pair (Lay.int.pair (Lay.int.pair (Lay.int.pair (intsL.pair intsL))))))) Try.underlying46 (by kernel_rfl) (FieldsB.cons rfl rfl (readsI n) (FieldsB.cons rfl rfl (readsI n) (FieldsB.cons rfl rfl (readsI n) (FieldsB.cons rfl rfl (readsI n) (FieldsB.cons rfl rfl (readsI n) (FieldsB.cons rfl rfl (readsI6 n) (FieldsB.cons rfl rfl (readsIs n) (FieldsB.last rfl rfl (readsIs n)))))))))
  have h2 := h.via (f := fun x : MIns => (x.op, x.a, x.b, x.c, x.k, x.n, x.regs, x.args)) (fun d => ⟨d.1, d.2.1, d.2.2.1, d.2.2.2.1, d.2.2.2.2.1, d.2.2.2.2.2.1, d.2.2.2.2.2.2.1, d.2.2.2.2.2.2.2⟩) (fun d => rfl)
  exact ⟨h2.1, fun hf h' hw => by obtain ⟨d, hd, hb⟩ := h2.2 hf h' hw; exact ⟨d, hd, hb.2.2.2.2.2.2⟩⟩
set_option maxRecDepth 100000 in
theorem readsTo (n : Nat) : ReadsB Try.prog 52 toL n (fun x => x.regs.length < 1152921504606846976 ∧ x.args.length < 1152921504606846976) := by
  have h := ReadsB.struct (n := n) (A := Lay.int.pair (intsL.pair intsL)) Try.underlying52 (by kernel_rfl) (FieldsB.cons rfl rfl (readsI n) (FieldsB.cons rfl rfl (readsIs n) (FieldsB.last rfl rfl (readsIs n))))
  have h2 := h.via (f := fun x : MTo => (x.block, x.regs, x.args)) (fun d => ⟨d.1, d.2.1, d.2.2⟩) (fun d => rfl)
  exact ⟨h2.1, fun hf h' hw => by obtain ⟨d, hd, hb⟩ := h2.2 hf h' hw; exact ⟨d, hd, hb.2⟩⟩
set_option maxRecDepth 100000 in
theorem readsEnd (n : Nat) : ReadsB Try.prog 54 endL n (fun x => (x.yes.regs.length < 1152921504606846976 ∧ x.yes.args.length < 1152921504606846976) ∧ (x.no.regs.length < 1152921504606846976 ∧ x.no.args.length < 1152921504606846976) ∧ x.args.length < 1152921504606846976) := by
  have h := ReadsB.struct (n := n) (A := Lay.int.pair (Lay.int.pair (toL.pair (toL.pair intsL)))) Try.underlying54 (by kernel_rfl) (FieldsB.cons rfl rfl (readsI n) (FieldsB.cons rfl rfl (readsI n) (FieldsB.cons rfl rfl (readsTo n) (FieldsB.cons rfl rfl (readsTo n) (FieldsB.last rfl rfl (readsIs n))))))
  have h2 := h.via (f := fun x : MEnd => (x.op, x.a, x.yes, x.no, x.args)) (fun d => ⟨d.1, d.2.1, d.2.2.1, d.2.2.2.1, d.2.2.2.2⟩) (fun d => rfl)
  exact ⟨h2.1, fun hf h' hw => by obtain ⟨d, hd, hb⟩ := h2.2 hf h' hw; exact ⟨d, hd, hb.2.2⟩⟩
theorem readsInss (n : Nat) : ReadsB Try.prog 75 insL.list n (fun l => l.length < 1152921504606846976) := ReadsB.list Try.underlying75 (by kernel_rfl) (readsIns n) (by decide) (by rw [show Try.prog.bytesOf 46 = 96 from by kernel_rfl]; decide)
set_option maxRecDepth 100000 in
theorem readsBlock (n : Nat) : ReadsB Try.prog 77 (blockL n) n (fun _ => True) := by
  have h := ReadsB.struct (n := n) (A := Lay.int.pair ((typesL n).pair (insL.list.pair endL))) Try.underlying77 (by kernel_rfl) (FieldsB.cons rfl rfl (readsI n) (FieldsB.cons rfl rfl (readsTs n) (FieldsB.cons rfl rfl (readsInss n) (FieldsB.last rfl rfl (readsEnd n)))))
  have h2 := h.via (f := fun x : MBlock n => (x.regs, x.params, x.code, x.fin)) (fun d => ⟨d.1, d.2.1, d.2.2.1, d.2.2.2⟩) (fun d => rfl)
  exact ⟨h2.1, fun hf h' hw => by obtain ⟨d, hd, hb⟩ := h2.2 hf h' hw; exact ⟨d, hd, trivial⟩⟩
theorem readsBlocks (n : Nat) : ReadsB Try.prog 48 (blockL n).list n (fun l => l.length < 1152921504606846976) := ReadsB.list Try.underlying48 (by kernel_rfl) (readsBlock n) (by show 0 < 12; decide) (by rw [show Try.prog.bytesOf 77 = 208 from by kernel_rfl]; decide)
set_option maxRecDepth 100000 in
theorem readsFunc (n : Nat) : ReadsB Try.prog 50 (funcL n) n (fun _ => True) := by
  have h := ReadsB.struct (n := n) (A := Lay.int.pair ((typesL n).pair ((typesL n).pair (blockL n).list))) Try.underlying50 (by kernel_rfl) (FieldsB.cons rfl rfl (readsI n) (FieldsB.cons rfl rfl (readsTs n) (FieldsB.cons rfl rfl (readsTs n) (FieldsB.last rfl rfl (readsBlocks n)))))
  have h2 := h.via (f := fun x : MFunc n => (x.regs, x.params, x.results, x.blocks)) (fun d => ⟨d.1, d.2.1, d.2.2.1, d.2.2.2⟩) (fun d => rfl)
  exact ⟨h2.1, fun hf h' hw => by obtain ⟨d, hd, hb⟩ := h2.2 hf h' hw; exact ⟨d, hd, trivial⟩⟩
theorem readsFuncs (n : Nat) : ReadsB Try.prog 37 (modL n) n (fun l => l.length < 1152921504606846976) := ReadsB.list Try.underlying37 (by kernel_rfl) (readsFunc n) (by show 0 < 4; decide) (by rw [show Try.prog.bytesOf 50 = 80 from by kernel_rfl]; decide)
set_option maxRecDepth 100000 in
theorem readsMod (n : Nat) : ReadsB Try.prog 39 (modL n) n (fun _ => True) := by
  have h := ReadsB.struct (n := n) (A := modL n) Try.underlying39 (by kernel_rfl) (FieldsB.last rfl rfl (readsFuncs n))
  exact ⟨h.1, fun hf h' hw => by obtain ⟨d, hd, hb⟩ := h.2 hf h' hw; exact ⟨d, hd, trivial⟩⟩
end Go.Proofs.Ytmnmnokkojcodab
