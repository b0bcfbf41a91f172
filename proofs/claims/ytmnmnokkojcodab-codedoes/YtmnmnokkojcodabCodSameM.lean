/-
  SameModule (the reference).
-/
import Derived.Test.YtmnmnokkojcodabCodSame3
import Derived.Test.YtmnmnokkojcodabFrI
namespace Go.Proofs.Ytmnmnokkojcodab
open Go.ChangeShapes Go.WideShapes Go.ChangeAt Go.RowKit
set_option linter.unusedVariables false
set_option linter.unusedSimpArgs false

set_option maxHeartbeats 4000000 in
set_option maxRecDepth 100000 in
theorem sameModule_any {n : Nat} {m k : List (MFunc n)} {p p2 : Option Addr} {c d : Nat} {w : World} (hm0 : (modL n).In w All m [.slice p m.length c]) (hk0 : (modL n).In w All k [.slice p2 k.length d]) (hs0 : msmall m) :
    Rd Try.prog 17 #[.agg #[.slice p m.length c], .agg #[.slice p2 k.length d]] w (.bool (bdec (m = k))) := by
  have hm : Hid _ := hm0
  have hk : Hid _ := hk0
  have hs : Hid _ := hs0
  have hcl := hs0.1
  clear hm0 hk0 hs0
  refine fr_enter (n := 82) Try.func17 rfl rfl rfl ?_
  intro a hF
  have hW := Wd.start w
  replace hF : Fr 82 a [(0, .agg #[.slice p m.length c]), (1, .agg #[.slice p2 k.length d])] := hF
  refine wp_seq_k ?_
  intro K1 hK1
  refine fr_region ?_
  intro ops hops
  clear hops
  refine St.go hF ?_; clear hF a
  refine sB hW trivial rfl rfl ?_
  clear hW; intro w2 B2 hW2 hN; clear hN
  refine sB hW2 trivial rfl rfl ?_
  clear hW2; intro w3 B3 hW3 hN; clear hN
  refine sa trivial rfl rfl ?_
  refine St.nil fun a4 h4 => ?_
  refine hK1 _ _ ?_
  refine wp_seq_k ?_
  intro K5 hK5
  refine wp_seq_k ?_
  intro K6 hK6
  refine fr_region ?_
  intro ops hops
  clear hops
  refine St.go h4 ?_; clear h4 a4
  refine sfModule0 trivial rfl rfl ?_
  refine sbFuncs 1 hW3 trivial rfl rfl rfl rfl ?_
  refine slFuncs trivial rfl rfl ?_
  refine sfModule0 trivial rfl rfl ?_
  refine sbFuncs 0 hW3 trivial rfl rfl rfl rfl ?_
  refine slFuncs trivial rfl rfl ?_
  refine sne trivial rfl rfl rfl ?_
  refine St.nil fun a7 h7 => ?_
  refine hK6 _ _ ?_
  refine fr_cond (t := 15) h7 rfl (fun hb => ?_) (fun hb => ?_)
  ·have h9 : ¬ m.length = k.length := by have h8 := bne_iff_ne.1 hb; omega
   have hlen : ¬ m.length = k.length := h9
   clear h9
   clear hb
   refine wp_seq_k ?_
   intro K8 hK8
   refine fr_region ?_
   intro ops hops
   clear hops
   refine St.go h7 ?_; clear h7 a7
   refine sa trivial rfl rfl ?_
   refine St.nil fun a9 h9 => ?_
   refine hK8 _ _ ?_
   refine wp_ret ?_
   repeat (first | with_reducible refine of_then_ret ?_ | with_reducible refine of_block_ret ?_)
   have R : ¬ m = k := fun e => hlen (by rw [e])
   exact ret_tmp (t := 4) h9 rfl rfl ⟨by rw [bdec_false R], hW3.bel⟩
  ·have h9 : m.length = k.length := by have h8 := bne_eq_false_iff_eq.1 hb; omega
   have hlen : Hid (m.length = k.length) := h9
   clear h9
   clear hb
   refine wp_skip ?_
   refine hK5 _ _ ?_
   refine wp_seq_k ?_
   intro K10 hK10
   refine wp_seq_k ?_
   intro K11 hK11
   refine fr_region ?_
   intro ops hops
   clear hops
   refine St.go h7 ?_; clear h7 a7
   refine sa trivial rfl rfl ?_
   refine St.nil fun a12 h12 => ?_
   refine hK11 _ _ ?_
   refine wp_block ?_
   refine fr_loop (fun r a w' => ∃ q : Nat, q ≤ m.length ∧ r = m.length - q ∧ (∀ j, j < q → m[j]? = k[j]?) ∧ Fr 82 a [(1, .agg #[.slice p2 k.length d]), (0, .agg #[.slice p m.length c]), (2, .pointer (some ⟨B2, 0, none⟩)), (3, .pointer (some ⟨B3, 0, none⟩)), (4, .bool false), (5, .int .i64 (q : Int))] ∧ Wd w w' [(B3, #[.slice p2 k.length d], 39), (B2, #[.slice p m.length c], 39)]) (m.length) ⟨0, Nat.zero_le _, rfl, (fun j hj => by omega), (h12.keep (h12.keep (h12.keep (h12.keep (h12.keep (h12.keep h12.nil (t := 5) rfl) (t := 4) rfl) (t := 3) rfl) (t := 2) rfl) (t := 0) rfl) (t := 1) rfl), hW3⟩ ?_
   clear h12 hW3
   rintro r a13 w13 ⟨q, hq, hr, hall, hF13, hW13⟩ KL hKL
   refine wp_seq_k ?_
   intro K14 hK14
   refine wp_seq_k ?_
   intro K15 hK15
   refine fr_region ?_
   intro ops hops
   clear hops
   refine St.go hF13 ?_; clear hF13 a13
   refine sm trivial rfl rfl ?_
   refine sfModule0 trivial rfl rfl ?_
   refine sbFuncs 1 hW13 trivial rfl rfl rfl rfl ?_
   refine slFuncs trivial rfl rfl ?_
   refine slt trivial rfl rfl rfl ?_
   refine St.nil fun a16 h16 => ?_
   refine hK15 _ _ ?_
   refine fr_cond (t := 20) h16 rfl (fun hb => ?_) (fun hb => ?_)
   ·have hlt1 : q < m.length := by have := of_decide_eq_true hb; omega
    have hlt2 : q < k.length := by have := hlen.out; omega
    clear hb
    obtain ⟨x, hx1⟩ : ∃ v9, (m)[q]? = some v9 := ⟨_, List.getElem?_eq_getElem hlt1⟩
    obtain ⟨g1, o1, f1, hp1, E1, In1⟩ := func_at hm.out hx1
    replace In1 : Hid _ := In1
    replace hp1 : Hid _ := hp1
    replace hx1 : Hid _ := hx1
    replace E1 : Hid _ := E1
    obtain ⟨y, hx2⟩ : ∃ v9, (k)[q]? = some v9 := ⟨_, List.getElem?_eq_getElem hlt2⟩
    obtain ⟨g2, o2, f2, hp2, E2, In2⟩ := func_at hk.out hx2
    replace In2 : Hid _ := In2
    replace hp2 : Hid _ := hp2
    replace hx2 : Hid _ := hx2
    replace E2 : Hid _ := E2
    have hs1 : Hid _ := hs.out.2 x (List.mem_of_getElem? hx1.out)
    have hbl := hs1.out.1
    refine wp_skip ?_
    refine hK14 _ _ ?_
    refine wp_seq_k ?_
    intro K17 hK17
    refine wp_block ?_
    refine wp_seq_k ?_
    intro K18 hK18
    have hF19 : Fr 82 a16 [(1, .agg #[.slice p2 k.length d]), (0, .agg #[.slice p m.length c]), (2, .pointer (some ⟨B2, 0, none⟩)), (3, .pointer (some ⟨B3, 0, none⟩)), (4, .bool false), (5, .int .i64 (q : Int))] := (h16.keep (h16.keep (h16.keep (h16.keep (h16.keep (h16.keep h16.nil (t := 5) rfl) (t := 4) rfl) (t := 3) rfl) (t := 2) rfl) (t := 0) rfl) (t := 1) rfl)
    have ho2 : a16.tmps.getD 2 undef = .pointer (some ⟨B2, 0, none⟩) := h16.sl 2 _ rfl
    have ho5 : a16.tmps.getD 5 undef = .int .i64 (q : Int) := h16.sl 5 _ rfl
    have ho3 : a16.tmps.getD 3 undef = .pointer (some ⟨B3, 0, none⟩) := h16.sl 3 _ rfl
    refine fr_draw3 [(0, 23), (1, 24), (2, 25), (3, 26), (4, 27), (5, 28), (6, 29), (7, 30), (8, 31), (9, 32)] [(10, 6, 4, 50), (11, 7, 4, 50)] [(12, 6, 4, 50), (13, 7, 4, 50)] [(23, .pointer (some ⟨B2, 0, none⟩)), (24, .slice p m.length c), (25, .int .i64 (q : Int)), (26, .pointer (some ⟨g1, o1 + q * 4, none⟩)), (27, .agg #[.int .i64 x.regs, .slice f1.pP x.params.length f1.cP, .slice f1.pR x.results.length f1.cR, .slice f1.pB x.blocks.length f1.cB]), (28, .pointer (some ⟨B3, 0, none⟩)), (29, .slice p2 k.length d), (30, .int .i64 (q : Int)), (31, .pointer (some ⟨g2, o2 + q * 4, none⟩)), (32, .agg #[.int .i64 y.regs, .slice f2.pP y.params.length f2.cP, .slice f2.pR y.results.length f2.cR, .slice f2.pB y.blocks.length f2.cB])] [(6, [.int .i64 x.regs, .slice f1.pP x.params.length f1.cP, .slice f1.pR x.results.length f1.cR, .slice f1.pB x.blocks.length f1.cB]), (7, [.int .i64 y.regs, .slice f2.pP y.params.length f2.cP, .slice f2.pR y.results.length f2.cR, .slice f2.pB y.blocks.length f2.cB])] (by kernel_rfl) hF19 (by kernel_rfl) (by kernel_rfl) (fun hDB => ?hst) ?hend
    case hst =>
     refine ⟨fun S a1 w1 hS hd hcl hI K hK => ?_, ?_⟩
     · have hWd := hW13.below hI.bel
       have k0 : a1.tmps.getD 2 undef = .pointer (some ⟨B2, 0, none⟩) := (hI.outer 2 (by kernel_rfl)).trans ho2
       go_simp
       exact hK _ _ (DI.pure hDB hI (i := 0) (t := 23) (by decide) rfl hS (Below.refl _ _) (by kernel_rfl) (by kernel_rfl))
     refine ⟨fun S a1 w1 hS hd hcl hI K hK => ?_, ?_⟩
     · have hWd := hW13.below hI.bel
       have k0 : a1.tmps.getD 23 undef = .pointer (some ⟨B2, 0, none⟩) := hI.vals (0, 23) (by decide) (hd.at 0 (by kernel_rfl)) _ rfl
       have c0 : w1.cell? ⟨B2, 0, none⟩ = some (.slice p m.length c) := cellOf (hWd.get 1 rfl) 0 _ rfl
       go_simp
       exact hK _ _ (DI.pure hDB hI (i := 1) (t := 24) (by decide) rfl hS (Below.refl _ _) (by kernel_rfl) (by kernel_rfl))
     refine ⟨fun S a1 w1 hS hd hcl hI K hK => ?_, ?_⟩
     · have hWd := hW13.below hI.bel
       have k0 : a1.tmps.getD 5 undef = .int .i64 (q : Int) := (hI.outer 5 (by kernel_rfl)).trans ho5
       go_simp
       exact hK _ _ (DI.pure hDB hI (i := 2) (t := 25) (by decide) rfl hS (Below.refl _ _) (by kernel_rfl) (by kernel_rfl))
     refine ⟨fun S a1 w1 hS hd hcl hI K hK => ?_, ?_⟩
     · have hWd := hW13.below hI.bel
       have k0 : a1.tmps.getD 24 undef = .slice p m.length c := hI.vals (1, 24) (by decide) (hd.at 1 (by kernel_rfl)) _ rfl
       have k1 : a1.tmps.getD 25 undef = .int .i64 (q : Int) := hI.vals (2, 25) (by decide) (hd.at 2 (by kernel_rfl)) _ rfl
       have hpq := hp1.out
       have hk0 : (0 : Int) ≤ q := by omega
       have hk1 : (q : Int) < (m.length : Int) := by omega
       go_simp
       exact hK _ _ (DI.pure hDB hI (i := 3) (t := 26) (by decide) rfl hS (Below.refl _ _) (by kernel_rfl) (by kernel_rfl))
     refine ⟨fun S a1 w1 hS hd hcl hI K hK => ?_, ?_⟩
     · have hWd := hW13.below hI.bel
       have k0 : a1.tmps.getD 26 undef = .pointer (some ⟨g1, o1 + q * 4, none⟩) := hI.vals (3, 26) (by decide) (hd.at 3 (by kernel_rfl)) _ rfl
       have d0 : w1.cell? ⟨g1, o1 + q * 4, none⟩ = some (.int .i64 x.regs) := bel_cell hWd.bel (E1.out 0 _ rfl)
       have d1 : w1.cell? ⟨g1, o1 + q * 4 + 1, none⟩ = some (.slice f1.pP x.params.length f1.cP) := bel_cell hWd.bel (E1.out 1 _ rfl)
       have d2 : w1.cell? ⟨g1, o1 + q * 4 + 2, none⟩ = some (.slice f1.pR x.results.length f1.cR) := bel_cell hWd.bel (E1.out 2 _ rfl)
       have d3 : w1.cell? ⟨g1, o1 + q * 4 + 3, none⟩ = some (.slice f1.pB x.blocks.length f1.cB) := bel_cell hWd.bel (E1.out 3 _ rfl)
       go_simp
       exact hK _ _ (DI.pure hDB hI (i := 4) (t := 27) (by decide) rfl hS (Below.refl _ _) (by kernel_rfl) (by kernel_rfl))
     refine ⟨fun S a1 w1 hS hd hcl hI K hK => ?_, ?_⟩
     · have hWd := hW13.below hI.bel
       have k0 : a1.tmps.getD 3 undef = .pointer (some ⟨B3, 0, none⟩) := (hI.outer 3 (by kernel_rfl)).trans ho3
       go_simp
       exact hK _ _ (DI.pure hDB hI (i := 5) (t := 28) (by decide) rfl hS (Below.refl _ _) (by kernel_rfl) (by kernel_rfl))
     refine ⟨fun S a1 w1 hS hd hcl hI K hK => ?_, ?_⟩
     · have hWd := hW13.below hI.bel
       have k0 : a1.tmps.getD 28 undef = .pointer (some ⟨B3, 0, none⟩) := hI.vals (5, 28) (by decide) (hd.at 5 (by kernel_rfl)) _ rfl
       have c0 : w1.cell? ⟨B3, 0, none⟩ = some (.slice p2 k.length d) := cellOf (hWd.get 0 rfl) 0 _ rfl
       go_simp
       exact hK _ _ (DI.pure hDB hI (i := 6) (t := 29) (by decide) rfl hS (Below.refl _ _) (by kernel_rfl) (by kernel_rfl))
     refine ⟨fun S a1 w1 hS hd hcl hI K hK => ?_, ?_⟩
     · have hWd := hW13.below hI.bel
       have k0 : a1.tmps.getD 5 undef = .int .i64 (q : Int) := (hI.outer 5 (by kernel_rfl)).trans ho5
       go_simp
       exact hK _ _ (DI.pure hDB hI (i := 7) (t := 30) (by decide) rfl hS (Below.refl _ _) (by kernel_rfl) (by kernel_rfl))
     refine ⟨fun S a1 w1 hS hd hcl hI K hK => ?_, ?_⟩
     · have hWd := hW13.below hI.bel
       have k0 : a1.tmps.getD 29 undef = .slice p2 k.length d := hI.vals (6, 29) (by decide) (hd.at 6 (by kernel_rfl)) _ rfl
       have k1 : a1.tmps.getD 30 undef = .int .i64 (q : Int) := hI.vals (7, 30) (by decide) (hd.at 7 (by kernel_rfl)) _ rfl
       have hpq := hp2.out
       have hk0 : (0 : Int) ≤ q := by omega
       have hk1 : (q : Int) < (k.length : Int) := by omega
       go_simp
       exact hK _ _ (DI.pure hDB hI (i := 8) (t := 31) (by decide) rfl hS (Below.refl _ _) (by kernel_rfl) (by kernel_rfl))
     refine ⟨fun S a1 w1 hS hd hcl hI K hK => ?_, ?_⟩
     · have hWd := hW13.below hI.bel
       have k0 : a1.tmps.getD 31 undef = .pointer (some ⟨g2, o2 + q * 4, none⟩) := hI.vals (8, 31) (by decide) (hd.at 8 (by kernel_rfl)) _ rfl
       have d0 : w1.cell? ⟨g2, o2 + q * 4, none⟩ = some (.int .i64 y.regs) := bel_cell hWd.bel (E2.out 0 _ rfl)
       have d1 : w1.cell? ⟨g2, o2 + q * 4 + 1, none⟩ = some (.slice f2.pP y.params.length f2.cP) := bel_cell hWd.bel (E2.out 1 _ rfl)
       have d2 : w1.cell? ⟨g2, o2 + q * 4 + 2, none⟩ = some (.slice f2.pR y.results.length f2.cR) := bel_cell hWd.bel (E2.out 2 _ rfl)
       have d3 : w1.cell? ⟨g2, o2 + q * 4 + 3, none⟩ = some (.slice f2.pB y.blocks.length f2.cB) := bel_cell hWd.bel (E2.out 3 _ rfl)
       go_simp
       exact hK _ _ (DI.pure hDB hI (i := 9) (t := 32) (by decide) rfl hS (Below.refl _ _) (by kernel_rfl) (by kernel_rfl))
     refine ⟨fun S a1 w1 hS hd hcl hI K hK => ?_, ?_⟩
     · go_simp
       exact hK _ _ (DI.alloc hDB hI (i := 10) (t := 6) (s := 4) (ty := 50) (by decide) rfl hS hcl (by kernel_rfl) (by kernel_rfl))
     refine ⟨fun S a1 w1 hS hd hcl hI K hK => ?_, ?_⟩
     · go_simp
       exact hK _ _ (DI.alloc hDB hI (i := 11) (t := 7) (s := 4) (ty := 50) (by decide) rfl hS hcl (by kernel_rfl) (by kernel_rfl))
     refine ⟨fun S a1 w1 hS hd hcl hI K hK => ?_, ?_⟩
     · have k0 : a1.tmps.getD 27 undef = .agg #[.int .i64 x.regs, .slice f1.pP x.params.length f1.cP, .slice f1.pR x.results.length f1.cR, .slice f1.pB x.blocks.length f1.cB] := hI.vals (4, 27) (by decide) (hd.at 4 (by kernel_rfl)) _ rfl
       obtain ⟨B, kB, hlo, c0, hBk, hcs⟩ := hI.box (i := 10) (t := 6) (s := 4) (ty := 50) (by decide) (hd.at 10 (by kernel_rfl))
       exact wp_fill hBk kB k0 infFunc rfl hcs.symm (hK _ _ (DI.store hDB hI (i := 12) (t := 6) (s := 4) (ty := 50) (j := 10) (by decide) (by decide) (hd.at 10 (by kernel_rfl)) kB hBk hcs hlo rfl rfl hS hcl (by kernel_rfl) (by kernel_rfl)))
     refine ⟨fun S a1 w1 hS hd hcl hI K hK => ?_, ?_⟩
     · have k0 : a1.tmps.getD 32 undef = .agg #[.int .i64 y.regs, .slice f2.pP y.params.length f2.cP, .slice f2.pR y.results.length f2.cR, .slice f2.pB y.blocks.length f2.cB] := hI.vals (9, 32) (by decide) (hd.at 9 (by kernel_rfl)) _ rfl
       obtain ⟨B, kB, hlo, c0, hBk, hcs⟩ := hI.box (i := 11) (t := 7) (s := 4) (ty := 50) (by decide) (hd.at 11 (by kernel_rfl))
       exact wp_fill hBk kB k0 infFunc rfl hcs.symm (hK _ _ (DI.store hDB hI (i := 13) (t := 7) (s := 4) (ty := 50) (j := 11) (by decide) (by decide) (hd.at 11 (by kernel_rfl)) kB hBk hcs hlo rfl rfl hS hcl (by kernel_rfl) (by kernel_rfl)))
     trivial
    case hend =>
     intro S a20 w20 hS hD hFD
     obtain ⟨BD6, hd6, hBl6, hBk6⟩ := hD.full (j := 10) (i := 12) (t := 6) (s := 4) (ty := 50) (by decide) (hS _ (by decide)) (by decide) (hS _ (by decide)) rfl
     obtain ⟨BD7, hd7, hBl7, hBk7⟩ := hD.full (j := 11) (i := 13) (t := 7) (s := 4) (ty := 50) (by decide) (hS _ (by decide)) (by decide) (hS _ (by decide)) rfl
     have hF20 : Fr 82 a20 [(7, .pointer (some ⟨BD7, 0, none⟩)), (6, .pointer (some ⟨BD6, 0, none⟩)), (1, .agg #[.slice p2 k.length d]), (0, .agg #[.slice p m.length c]), (2, .pointer (some ⟨B2, 0, none⟩)), (3, .pointer (some ⟨B3, 0, none⟩)), (4, .bool false), (5, .int .i64 (q : Int))] := ((hFD.cons hd6).cons hd7)
     have hnB : BD6 ≠ BD7 := fun e => hD.ne (10, 6, 4, 50) (by decide) (11, 7, 4, 50) (by decide) (by decide) (hS _ (by decide)) (hS _ (by decide)) (by rw [hd6, hd7, e])
     have hW20 : Wd w w20 [(BD6, #[.int .i64 x.regs, .slice f1.pP x.params.length f1.cP, .slice f1.pR x.results.length f1.cR, .slice f1.pB x.blocks.length f1.cB], 50), (BD7, #[.int .i64 y.regs, .slice f2.pP y.params.length f2.cP, .slice f2.pR y.results.length f2.cR, .slice f2.pB y.blocks.length f2.cB], 50), (B3, #[.slice p2 k.length d], 39), (B2, #[.slice p m.length c], 39)] := Wd.add2 (hW13.below hD.bel) hW13 hBk6 hBk7 hnB hBl6 hBl7
     clear hS hD hFD hnB hW13 hd6 hd7
     clear hBl6 hBk6 hBl7 hBk7
     refine hK18 _ _ ?_
     refine wp_seq_k ?_
     intro K21 hK21
     refine wp_seq_k ?_
     intro K22 hK22
     refine fr_region ?_
     intro ops hops
     have hg5 : (ops[5]?).bind (fun o : Oper => o.dst) = some 38 := hops 5
     have hg13 : (ops[13]?).bind (fun o : Oper => o.dst) = some 46 := hops 13
     have hg21 : (ops[21]?).bind (fun o : Oper => o.dst) = some 54 := hops 21
     clear hops
     refine St.go hF20 ?_; clear hF20 a20
     refine sfFunc0 trivial rfl rfl ?_
     refine sbInt 0 hW20 trivial rfl rfl rfl rfl ?_
     refine sfFunc0 trivial rfl rfl ?_
     refine sbInt 1 hW20 trivial rfl rfl rfl rfl ?_
     refine sne trivial rfl rfl rfl ?_
     refine sm trivial rfl rfl ?_
     intro a23 h23
     rcases Bool.eq_false_or_eq_true (x.regs != y.regs) with hb | hb
     ·rw [hb] at h23
      have h9 : ¬ x.regs = y.regs := bne_iff_ne.1 hb
      have hc24 : ¬ x.regs = y.regs := h9
      clear h9
      clear hb
      refine St.go h23 ?_; clear h23 a23
      refine so hg5 rfl rfl rfl rfl ?_
      refine so hg5 rfl rfl rfl rfl ?_
      refine so hg5 rfl rfl rfl rfl ?_
      refine so hg5 rfl rfl rfl rfl ?_
      refine so hg5 rfl rfl rfl rfl ?_
      refine so hg5 rfl rfl rfl rfl ?_
      refine sp trivial rfl rfl rfl ?_
      refine sm trivial rfl rfl ?_
      refine so hg13 rfl rfl rfl rfl ?_
      refine so hg13 rfl rfl rfl rfl ?_
      refine so hg13 rfl rfl rfl rfl ?_
      refine so hg13 rfl rfl rfl rfl ?_
      refine so hg13 rfl rfl rfl rfl ?_
      refine so hg13 rfl rfl rfl rfl ?_
      refine sp trivial rfl rfl rfl ?_
      refine sm trivial rfl rfl ?_
      refine so hg21 rfl rfl rfl rfl ?_
      refine so hg21 rfl rfl rfl rfl ?_
      refine so hg21 rfl rfl rfl rfl ?_
      refine so hg21 rfl rfl rfl rfl ?_
      refine so hg21 rfl rfl rfl rfl ?_
      refine so hg21 rfl rfl rfl rfl ?_
      refine so hg21 rfl rfl rfl rfl ?_
      refine sp trivial rfl rfl rfl ?_
      refine St.nil fun a25 h25 => ?_
      refine hK22 _ _ ?_
      refine fr_true (t := 62) h25 rfl ?_
      refine wp_seq_k ?_
      intro K26 hK26
      refine fr_region ?_
      intro ops hops
      clear hops
      refine St.go h25 ?_; clear h25 a25
      refine sa trivial rfl rfl ?_
      refine St.nil fun a27 h27 => ?_
      refine hK26 _ _ ?_
      refine wp_ret ?_
      repeat (first | with_reducible refine of_then_ret ?_ | with_reducible refine of_block_ret ?_)
      have RX : ¬ x = y := by
        intro e
        first
          | exact hlb (by rw [e])
          | exact hc24 (by rw [e])
      have R : ¬ m = k := by
        intro e
        have h1 := hx1.out
        rw [e, hx2.out] at h1
        exact RX (Option.some.inj h1).symm
      exact ret_tmp (t := 4) h27 rfl rfl ⟨by rw [bdec_false R], hW20.bel⟩
     ·rw [hb] at h23
      have h9 : x.regs = y.regs := bne_eq_false_iff_eq.1 hb
      have hc28 : Hid (x.regs = y.regs) := h9
      clear h9
      clear hb
      refine St.go h23 ?_; clear h23 a23
      refine sfFunc1 ⟨_, hg5, rfl, rfl⟩ rfl rfl ?_
      refine sbTypes 0 hW20 ⟨_, hg5, rfl, rfl⟩ rfl rfl rfl rfl ?_
      refine sfFunc1 ⟨_, hg5, rfl, rfl⟩ rfl rfl ?_
      refine sbTypes 1 hW20 ⟨_, hg5, rfl, rfl⟩ rfl rfl rfl rfl ?_
      refine sc_2 cf51 hW20 (sameTypes_any (Lay.below In1.out.params hW20.bel) (Lay.below In2.out.params hW20.bel) hs1.out.2.1) ⟨_, hg5, rfl, rfl⟩ rfl rfl rfl ?_
      clear hW20; intro w29 hW29
      refine sn ⟨_, hg5, rfl, rfl⟩ rfl rfl ?_
      refine spf trivial rfl rfl rfl ?_
      refine sm trivial rfl rfl ?_
      intro a30 h30
      rcases Bool.eq_false_or_eq_true (!(bdec (x.params = y.params))) with hb | hb
      ·rw [hb] at h30
       have hb : (bdec (x.params = y.params)) = false := by simpa using hb
       have hc31 : ¬ (x.params = y.params) := fun h => by rw [bdec_true h] at hb; cases hb
       clear hb
       refine St.go h30 ?_; clear h30 a30
       refine so hg13 rfl rfl rfl rfl ?_
       refine so hg13 rfl rfl rfl rfl ?_
       refine so hg13 rfl rfl rfl rfl ?_
       refine so hg13 rfl rfl rfl rfl ?_
       refine so hg13 rfl rfl rfl rfl ?_
       refine so hg13 rfl rfl rfl rfl ?_
       refine sp trivial rfl rfl rfl ?_
       refine sm trivial rfl rfl ?_
       refine so hg21 rfl rfl rfl rfl ?_
       refine so hg21 rfl rfl rfl rfl ?_
       refine so hg21 rfl rfl rfl rfl ?_
       refine so hg21 rfl rfl rfl rfl ?_
       refine so hg21 rfl rfl rfl rfl ?_
       refine so hg21 rfl rfl rfl rfl ?_
       refine so hg21 rfl rfl rfl rfl ?_
       refine sp trivial rfl rfl rfl ?_
       refine St.nil fun a32 h32 => ?_
       refine hK22 _ _ ?_
       refine fr_true (t := 62) h32 rfl ?_
       refine wp_seq_k ?_
       intro K33 hK33
       refine fr_region ?_
       intro ops hops
       clear hops
       refine St.go h32 ?_; clear h32 a32
       refine sa trivial rfl rfl ?_
       refine St.nil fun a34 h34 => ?_
       refine hK33 _ _ ?_
       refine wp_ret ?_
       repeat (first | with_reducible refine of_then_ret ?_ | with_reducible refine of_block_ret ?_)
       have RX : ¬ x = y := by
         intro e
         first
           | exact hlb (by rw [e])
           | exact hc31 (by rw [e])
           | exact hc28 (by rw [e])
       have R : ¬ m = k := by
         intro e
         have h1 := hx1.out
         rw [e, hx2.out] at h1
         exact RX (Option.some.inj h1).symm
       exact ret_tmp (t := 4) h34 rfl rfl ⟨by rw [bdec_false R], hW29.bel⟩
      ·rw [hb] at h30
       have hb : (bdec (x.params = y.params)) = true := by simpa using hb
       have hc35 : (x.params = y.params) := bdec_iff.1 hb
       clear hb
       refine St.go h30 ?_; clear h30 a30
       refine sfFunc2 ⟨_, hg13, rfl, rfl⟩ rfl rfl ?_
       refine sbTypes 0 hW29 ⟨_, hg13, rfl, rfl⟩ rfl rfl rfl rfl ?_
       refine sfFunc2 ⟨_, hg13, rfl, rfl⟩ rfl rfl ?_
       refine sbTypes 1 hW29 ⟨_, hg13, rfl, rfl⟩ rfl rfl rfl rfl ?_
       refine sc_2 cf51 hW29 (sameTypes_any (Lay.below In1.out.results hW29.bel) (Lay.below In2.out.results hW29.bel) hs1.out.2.2.1) ⟨_, hg13, rfl, rfl⟩ rfl rfl rfl ?_
       clear hW29; intro w36 hW36
       refine sn ⟨_, hg13, rfl, rfl⟩ rfl rfl ?_
       refine spf trivial rfl rfl rfl ?_
       refine sm trivial rfl rfl ?_
       intro a37 h37
       rcases Bool.eq_false_or_eq_true (!(bdec (x.results = y.results))) with hb | hb
       ·rw [hb] at h37
        have hb : (bdec (x.results = y.results)) = false := by simpa using hb
        have hc38 : ¬ (x.results = y.results) := fun h => by rw [bdec_true h] at hb; cases hb
        clear hb
        refine St.go h37 ?_; clear h37 a37
        refine so hg21 rfl rfl rfl rfl ?_
        refine so hg21 rfl rfl rfl rfl ?_
        refine so hg21 rfl rfl rfl rfl ?_
        refine so hg21 rfl rfl rfl rfl ?_
        refine so hg21 rfl rfl rfl rfl ?_
        refine so hg21 rfl rfl rfl rfl ?_
        refine so hg21 rfl rfl rfl rfl ?_
        refine sp trivial rfl rfl rfl ?_
        refine St.nil fun a39 h39 => ?_
        refine hK22 _ _ ?_
        refine fr_true (t := 62) h39 rfl ?_
        refine wp_seq_k ?_
        intro K40 hK40
        refine fr_region ?_
        intro ops hops
        clear hops
        refine St.go h39 ?_; clear h39 a39
        refine sa trivial rfl rfl ?_
        refine St.nil fun a41 h41 => ?_
        refine hK40 _ _ ?_
        refine wp_ret ?_
        repeat (first | with_reducible refine of_then_ret ?_ | with_reducible refine of_block_ret ?_)
        have RX : ¬ x = y := by
          intro e
          first
            | exact hlb (by rw [e])
            | exact hc38 (by rw [e])
            | exact hc35 (by rw [e])
            | exact hc28 (by rw [e])
        have R : ¬ m = k := by
          intro e
          have h1 := hx1.out
          rw [e, hx2.out] at h1
          exact RX (Option.some.inj h1).symm
        exact ret_tmp (t := 4) h41 rfl rfl ⟨by rw [bdec_false R], hW36.bel⟩
       ·rw [hb] at h37
        have hb : (bdec (x.results = y.results)) = true := by simpa using hb
        have hc42 : (x.results = y.results) := bdec_iff.1 hb
        clear hb
        refine St.go h37 ?_; clear h37 a37
        refine sfFunc3 ⟨_, hg21, rfl, rfl⟩ rfl rfl ?_
        refine sbBlocks 0 hW36 ⟨_, hg21, rfl, rfl⟩ rfl rfl rfl rfl ?_
        refine slBlocks ⟨_, hg21, rfl, rfl⟩ rfl rfl ?_
        refine sfFunc3 ⟨_, hg21, rfl, rfl⟩ rfl rfl ?_
        refine sbBlocks 1 hW36 ⟨_, hg21, rfl, rfl⟩ rfl rfl rfl rfl ?_
        refine slBlocks ⟨_, hg21, rfl, rfl⟩ rfl rfl ?_
        refine sne ⟨_, hg21, rfl, rfl⟩ rfl rfl rfl ?_
        refine spf trivial rfl rfl rfl ?_
        refine St.nil fun a43 h43 => ?_
        refine hK22 _ _ ?_
        refine fr_cond (t := 62) h43 rfl (fun hb => ?_) (fun hb => ?_)
        ·have h9 : ¬ x.blocks.length = y.blocks.length := by have h8 := bne_iff_ne.1 hb; omega
         have hlb : ¬ x.blocks.length = y.blocks.length := h9
         clear h9
         clear hb
         refine wp_seq_k ?_
         intro K44 hK44
         refine fr_region ?_
         intro ops hops
         clear hops
         refine St.go h43 ?_; clear h43 a43
         refine sa trivial rfl rfl ?_
         refine St.nil fun a45 h45 => ?_
         refine hK44 _ _ ?_
         refine wp_ret ?_
         repeat (first | with_reducible refine of_then_ret ?_ | with_reducible refine of_block_ret ?_)
         have RX : ¬ x = y := by
           intro e
           first
             | exact hlb (by rw [e])
             | exact hc42 (by rw [e])
             | exact hc35 (by rw [e])
             | exact hc28 (by rw [e])
         have R : ¬ m = k := by
           intro e
           have h1 := hx1.out
           rw [e, hx2.out] at h1
           exact RX (Option.some.inj h1).symm
         exact ret_tmp (t := 4) h45 rfl rfl ⟨by rw [bdec_false R], hW36.bel⟩
        ·have h9 : x.blocks.length = y.blocks.length := by have h8 := bne_eq_false_iff_eq.1 hb; omega
         have hlb : Hid (x.blocks.length = y.blocks.length) := h9
         clear h9
         clear hb
         refine wp_skip ?_
         refine hK21 _ _ ?_
         refine wp_seq_k ?_
         intro K46 hK46
         refine fr_region ?_
         intro ops hops
         clear hops
         refine St.go h43 ?_; clear h43 a43
         refine sa trivial rfl rfl ?_
         refine St.nil fun a47 h47 => ?_
         refine hK46 _ _ ?_
         refine wp_block ?_
         refine fr_loop (fun r a w' => ∃ qb : Nat, qb ≤ x.blocks.length ∧ r = x.blocks.length - qb ∧ (∀ j, j < qb → x.blocks[j]? = y.blocks[j]?) ∧ Fr 82 a [(1, .agg #[.slice p2 k.length d]), (0, .agg #[.slice p m.length c]), (2, .pointer (some ⟨B2, 0, none⟩)), (3, .pointer (some ⟨B3, 0, none⟩)), (4, .bool false), (5, .int .i64 (q : Int)), (6, .pointer (some ⟨BD6, 0, none⟩)), (7, .pointer (some ⟨BD7, 0, none⟩)), (8, .int .i64 (qb : Int))] ∧ Wd w w' [(BD6, #[.int .i64 x.regs, .slice f1.pP x.params.length f1.cP, .slice f1.pR x.results.length f1.cR, .slice f1.pB x.blocks.length f1.cB], 50), (BD7, #[.int .i64 y.regs, .slice f2.pP y.params.length f2.cP, .slice f2.pR y.results.length f2.cR, .slice f2.pB y.blocks.length f2.cB], 50), (B3, #[.slice p2 k.length d], 39), (B2, #[.slice p m.length c], 39)]) (x.blocks.length) ⟨0, Nat.zero_le _, rfl, (fun j hj => by omega), (h47.keep (h47.keep (h47.keep (h47.keep (h47.keep (h47.keep (h47.keep (h47.keep (h47.keep h47.nil (t := 8) rfl) (t := 7) rfl) (t := 6) rfl) (t := 5) rfl) (t := 4) rfl) (t := 3) rfl) (t := 2) rfl) (t := 0) rfl) (t := 1) rfl), hW36⟩ ?_
         clear h47 hW36
         rintro rb a48 w48 ⟨qb, hqb, hrb, hal2, hF48, hW48⟩ KLb hKLb
         refine wp_seq_k ?_
         intro K49 hK49
         refine wp_seq_k ?_
         intro K50 hK50
         refine fr_region ?_
         intro ops hops
         clear hops
         refine St.go hF48 ?_; clear hF48 a48
         refine sm trivial rfl rfl ?_
         refine sfFunc3 trivial rfl rfl ?_
         refine sbBlocks 0 hW48 trivial rfl rfl rfl rfl ?_
         refine slBlocks trivial rfl rfl ?_
         refine slt trivial rfl rfl rfl ?_
         refine St.nil fun a51 h51 => ?_
         refine hK50 _ _ ?_
         refine fr_cond (t := 67) h51 rfl (fun hb => ?_) (fun hb => ?_)
         ·have hlt3 : qb < x.blocks.length := by have := of_decide_eq_true hb; omega
          have hlt4 : qb < y.blocks.length := by have := hlb.out; omega
          clear hb
          obtain ⟨z, hx3⟩ : ∃ v9, (x.blocks)[qb]? = some v9 := ⟨_, List.getElem?_eq_getElem hlt3⟩
          obtain ⟨g3, o3, b3, hp3, E3, In3⟩ := block_at In1.out.blocks hx3
          replace In3 : Hid _ := In3
          replace hp3 : Hid _ := hp3
          replace hx3 : Hid _ := hx3
          replace E3 : Hid _ := E3
          obtain ⟨u, hx4⟩ : ∃ v9, (y.blocks)[qb]? = some v9 := ⟨_, List.getElem?_eq_getElem hlt4⟩
          obtain ⟨g4, o4, b4, hp4, E4, In4⟩ := block_at In2.out.blocks hx4
          replace In4 : Hid _ := In4
          replace hp4 : Hid _ := hp4
          replace hx4 : Hid _ := hx4
          replace E4 : Hid _ := E4
          refine wp_skip ?_
          refine hK49 _ _ ?_
          refine wp_seq_k ?_
          intro K52 hK52
          refine wp_block ?_
          refine wp_seq_k ?_
          intro K53 hK53
          have hF54 : Fr 82 a51 [(1, .agg #[.slice p2 k.length d]), (0, .agg #[.slice p m.length c]), (2, .pointer (some ⟨B2, 0, none⟩)), (3, .pointer (some ⟨B3, 0, none⟩)), (4, .bool false), (5, .int .i64 (q : Int)), (6, .pointer (some ⟨BD6, 0, none⟩)), (7, .pointer (some ⟨BD7, 0, none⟩)), (8, .int .i64 (qb : Int))] := (h51.keep (h51.keep (h51.keep (h51.keep (h51.keep (h51.keep (h51.keep (h51.keep (h51.keep h51.nil (t := 8) rfl) (t := 7) rfl) (t := 6) rfl) (t := 5) rfl) (t := 4) rfl) (t := 3) rfl) (t := 2) rfl) (t := 0) rfl) (t := 1) rfl)
          have ho6 : a51.tmps.getD 6 undef = .pointer (some ⟨BD6, 0, none⟩) := h51.sl 6 _ rfl
          have ho8 : a51.tmps.getD 8 undef = .int .i64 (qb : Int) := h51.sl 8 _ rfl
          have ho7 : a51.tmps.getD 7 undef = .pointer (some ⟨BD7, 0, none⟩) := h51.sl 7 _ rfl
          refine fr_draw_k 12 ([(6, fun v _ => v = .pointer (some ⟨BD6, 0, none⟩)), (8, fun v _ => v = .int .i64 (qb : Int)), (7, fun v _ => v = .pointer (some ⟨BD7, 0, none⟩)), (70, fun v _ => v = .pointer (some ⟨BD6, 3, none⟩)), (71, fun v _ => v = .slice f1.pB x.blocks.length f1.cB), (72, fun v _ => v = .int .i64 (qb : Int)), (73, fun v _ => v = .pointer (some ⟨g3, o3 + qb * 12, none⟩)), (74, fun v _ => v = .agg #[.int .i64 z.regs, .slice b3.pP z.params.length b3.cP, .slice b3.pC z.code.length b3.cC, .int .i64 z.fin.op, .int .i64 z.fin.a, .int .i64 z.fin.yes.block, .slice b3.e.pYR z.fin.yes.regs.length b3.e.cYR, .slice b3.e.pYA z.fin.yes.args.length b3.e.cYA, .int .i64 z.fin.no.block, .slice b3.e.pNR z.fin.no.regs.length b3.e.cNR, .slice b3.e.pNA z.fin.no.args.length b3.e.cNA, .slice b3.e.pA z.fin.args.length b3.e.cA]), (75, fun v _ => v = .pointer (some ⟨BD7, 3, none⟩)), (76, fun v _ => v = .slice f2.pB y.blocks.length f2.cB), (77, fun v _ => v = .int .i64 (qb : Int)), (78, fun v _ => v = .pointer (some ⟨g4, o4 + qb * 12, none⟩)), (79, fun v _ => v = .agg #[.int .i64 u.regs, .slice b4.pP u.params.length b4.cP, .slice b4.pC u.code.length b4.cC, .int .i64 u.fin.op, .int .i64 u.fin.a, .int .i64 u.fin.yes.block, .slice b4.e.pYR u.fin.yes.regs.length b4.e.cYR, .slice b4.e.pYA u.fin.yes.args.length b4.e.cYA, .int .i64 u.fin.no.block, .slice b4.e.pNR u.fin.no.regs.length b4.e.cNR, .slice b4.e.pNA u.fin.no.args.length b4.e.cNA, .slice b4.e.pA u.fin.args.length b4.e.cA]), (80, fun v _ => v = .bool (bdec (z = u))), (81, fun v _ => v = .bool (!(bdec (z = u))))] : PTab) (fun w' => Wd w w' [(BD6, #[.int .i64 x.regs, .slice f1.pP x.params.length f1.cP, .slice f1.pR x.results.length f1.cR, .slice f1.pB x.blocks.length f1.cB], 50), (BD7, #[.int .i64 y.regs, .slice f2.pP y.params.length f2.cP, .slice f2.pR y.results.length f2.cR, .slice f2.pB y.blocks.length f2.cB], 50), (B3, #[.slice p2 k.length d], 39), (B2, #[.slice p m.length c], 39)] ∧ Below w48.heap.size w48 w') (fun w w' => Below w.heap.size w w') (outs := [6, 8, 7]) (gs := []) (bs := [true, true, true, true, true, true, true, true, true, true, true, true]) (by kernel_rfl) hF54 rfl (by kernel_rfl) (by kernel_rfl) ?hR ?hG ⟨hW48.drewN 1, drewN_below (m := 1) (Below.refl _ _)⟩ ⟨ho6, ho8, ho7, trivial⟩ ?hA ?hend
          case hR => exact ⟨fun _ _ _ _ h => h, fun _ _ _ _ h => h, fun _ _ _ _ h => h, fun _ _ _ _ h => h, fun _ _ _ _ h => h, fun _ _ _ _ h => h, fun _ _ _ _ h => h, fun _ _ _ _ h => h, fun _ _ _ _ h => h, fun _ _ _ _ h => h, fun _ _ _ _ h => h, fun _ _ _ _ h => h, fun _ _ _ _ h => h, fun _ _ _ _ h => h, fun _ _ _ _ h => h, trivial⟩
          case hG => exact trivial
          case hA =>
           refine ⟨fun a w hW hk K hK => ?_, ?_⟩
           · obtain ⟨k0, -⟩ := hk
             have k0 : a.tmps.getD 6 undef = .pointer (some ⟨BD6, 0, none⟩) := k0
             go_simp
             exact hK _ _ (Below.refl _ _) hW rfl
           refine ⟨fun a w hW hk K hK => ?_, ?_⟩
           · obtain ⟨k0, -⟩ := hk
             have k0 : a.tmps.getD 70 undef = .pointer (some ⟨BD6, 3, none⟩) := k0
             have c3 : w.cell? ⟨BD6, 3, none⟩ = some (.slice f1.pB x.blocks.length f1.cB) := cellOf (hW.1.get 0 rfl) 3 _ rfl
             go_simp
             exact hK _ _ (Below.refl _ _) hW rfl
           refine ⟨fun a w hW hk K hK => ?_, ?_⟩
           · obtain ⟨k0, -⟩ := hk
             have k0 : a.tmps.getD 8 undef = .int .i64 (qb : Int) := k0
             go_simp
             exact hK _ _ (Below.refl _ _) hW rfl
           refine ⟨fun a w hW hk K hK => ?_, ?_⟩
           · obtain ⟨k0, k1, -⟩ := hk
             have k0 : a.tmps.getD 71 undef = .slice f1.pB x.blocks.length f1.cB := k0
             have k1 : a.tmps.getD 72 undef = .int .i64 (qb : Int) := k1
             have hpq := hp3.out
             have hk0 : (0 : Int) ≤ qb := by omega
             have hk1 : (qb : Int) < (x.blocks.length : Int) := by omega
             go_simp
             exact hK _ _ (Below.refl _ _) hW rfl
           refine ⟨fun a w hW hk K hK => ?_, ?_⟩
           · obtain ⟨k0, -⟩ := hk
             have k0 : a.tmps.getD 73 undef = .pointer (some ⟨g3, o3 + qb * 12, none⟩) := k0
             have d0 : w.cell? ⟨g3, o3 + qb * 12, none⟩ = some (.int .i64 z.regs) := bel_cell hW.1.bel (E3.out 0 _ rfl)
             have d1 : w.cell? ⟨g3, o3 + qb * 12 + 1, none⟩ = some (.slice b3.pP z.params.length b3.cP) := bel_cell hW.1.bel (E3.out 1 _ rfl)
             have d2 : w.cell? ⟨g3, o3 + qb * 12 + 2, none⟩ = some (.slice b3.pC z.code.length b3.cC) := bel_cell hW.1.bel (E3.out 2 _ rfl)
             have d3 : w.cell? ⟨g3, o3 + qb * 12 + 3, none⟩ = some (.int .i64 z.fin.op) := bel_cell hW.1.bel (E3.out 3 _ rfl)
             have d4 : w.cell? ⟨g3, o3 + qb * 12 + 4, none⟩ = some (.int .i64 z.fin.a) := bel_cell hW.1.bel (E3.out 4 _ rfl)
             have d5 : w.cell? ⟨g3, o3 + qb * 12 + 5, none⟩ = some (.int .i64 z.fin.yes.block) := bel_cell hW.1.bel (E3.out 5 _ rfl)
             have d6 : w.cell? ⟨g3, o3 + qb * 12 + 6, none⟩ = some (.slice b3.e.pYR z.fin.yes.regs.length b3.e.cYR) := bel_cell hW.1.bel (E3.out 6 _ rfl)
             have d7 : w.cell? ⟨g3, o3 + qb * 12 + 7, none⟩ = some (.slice b3.e.pYA z.fin.yes.args.length b3.e.cYA) := bel_cell hW.1.bel (E3.out 7 _ rfl)
             have d8 : w.cell? ⟨g3, o3 + qb * 12 + 8, none⟩ = some (.int .i64 z.fin.no.block) := bel_cell hW.1.bel (E3.out 8 _ rfl)
             have d9 : w.cell? ⟨g3, o3 + qb * 12 + 9, none⟩ = some (.slice b3.e.pNR z.fin.no.regs.length b3.e.cNR) := bel_cell hW.1.bel (E3.out 9 _ rfl)
             have d10 : w.cell? ⟨g3, o3 + qb * 12 + 10, none⟩ = some (.slice b3.e.pNA z.fin.no.args.length b3.e.cNA) := bel_cell hW.1.bel (E3.out 10 _ rfl)
             have d11 : w.cell? ⟨g3, o3 + qb * 12 + 11, none⟩ = some (.slice b3.e.pA z.fin.args.length b3.e.cA) := bel_cell hW.1.bel (E3.out 11 _ rfl)
             go_simp
             exact hK _ _ (Below.refl _ _) hW rfl
           refine ⟨fun a w hW hk K hK => ?_, ?_⟩
           · obtain ⟨k0, -⟩ := hk
             have k0 : a.tmps.getD 7 undef = .pointer (some ⟨BD7, 0, none⟩) := k0
             go_simp
             exact hK _ _ (Below.refl _ _) hW rfl
           refine ⟨fun a w hW hk K hK => ?_, ?_⟩
           · obtain ⟨k0, -⟩ := hk
             have k0 : a.tmps.getD 75 undef = .pointer (some ⟨BD7, 3, none⟩) := k0
             have c3 : w.cell? ⟨BD7, 3, none⟩ = some (.slice f2.pB y.blocks.length f2.cB) := cellOf (hW.1.get 1 rfl) 3 _ rfl
             go_simp
             exact hK _ _ (Below.refl _ _) hW rfl
           refine ⟨fun a w hW hk K hK => ?_, ?_⟩
           · obtain ⟨k0, -⟩ := hk
             have k0 : a.tmps.getD 8 undef = .int .i64 (qb : Int) := k0
             go_simp
             exact hK _ _ (Below.refl _ _) hW rfl
           refine ⟨fun a w hW hk K hK => ?_, ?_⟩
           · obtain ⟨k0, k1, -⟩ := hk
             have k0 : a.tmps.getD 76 undef = .slice f2.pB y.blocks.length f2.cB := k0
             have k1 : a.tmps.getD 77 undef = .int .i64 (qb : Int) := k1
             have hpq := hp4.out
             have hk0 : (0 : Int) ≤ qb := by omega
             have hk1 : (qb : Int) < (y.blocks.length : Int) := by omega
             go_simp
             exact hK _ _ (Below.refl _ _) hW rfl
           refine ⟨fun a w hW hk K hK => ?_, ?_⟩
           · obtain ⟨k0, -⟩ := hk
             have k0 : a.tmps.getD 78 undef = .pointer (some ⟨g4, o4 + qb * 12, none⟩) := k0
             have d0 : w.cell? ⟨g4, o4 + qb * 12, none⟩ = some (.int .i64 u.regs) := bel_cell hW.1.bel (E4.out 0 _ rfl)
             have d1 : w.cell? ⟨g4, o4 + qb * 12 + 1, none⟩ = some (.slice b4.pP u.params.length b4.cP) := bel_cell hW.1.bel (E4.out 1 _ rfl)
             have d2 : w.cell? ⟨g4, o4 + qb * 12 + 2, none⟩ = some (.slice b4.pC u.code.length b4.cC) := bel_cell hW.1.bel (E4.out 2 _ rfl)
             have d3 : w.cell? ⟨g4, o4 + qb * 12 + 3, none⟩ = some (.int .i64 u.fin.op) := bel_cell hW.1.bel (E4.out 3 _ rfl)
             have d4 : w.cell? ⟨g4, o4 + qb * 12 + 4, none⟩ = some (.int .i64 u.fin.a) := bel_cell hW.1.bel (E4.out 4 _ rfl)
             have d5 : w.cell? ⟨g4, o4 + qb * 12 + 5, none⟩ = some (.int .i64 u.fin.yes.block) := bel_cell hW.1.bel (E4.out 5 _ rfl)
             have d6 : w.cell? ⟨g4, o4 + qb * 12 + 6, none⟩ = some (.slice b4.e.pYR u.fin.yes.regs.length b4.e.cYR) := bel_cell hW.1.bel (E4.out 6 _ rfl)
             have d7 : w.cell? ⟨g4, o4 + qb * 12 + 7, none⟩ = some (.slice b4.e.pYA u.fin.yes.args.length b4.e.cYA) := bel_cell hW.1.bel (E4.out 7 _ rfl)
             have d8 : w.cell? ⟨g4, o4 + qb * 12 + 8, none⟩ = some (.int .i64 u.fin.no.block) := bel_cell hW.1.bel (E4.out 8 _ rfl)
             have d9 : w.cell? ⟨g4, o4 + qb * 12 + 9, none⟩ = some (.slice b4.e.pNR u.fin.no.regs.length b4.e.cNR) := bel_cell hW.1.bel (E4.out 9 _ rfl)
             have d10 : w.cell? ⟨g4, o4 + qb * 12 + 10, none⟩ = some (.slice b4.e.pNA u.fin.no.args.length b4.e.cNA) := bel_cell hW.1.bel (E4.out 10 _ rfl)
             have d11 : w.cell? ⟨g4, o4 + qb * 12 + 11, none⟩ = some (.slice b4.e.pA u.fin.args.length b4.e.cA) := bel_cell hW.1.bel (E4.out 11 _ rfl)
             go_simp
             exact hK _ _ (Below.refl _ _) hW rfl
           refine ⟨fun a w hW hk K hK => ?_, ?_⟩
           · obtain ⟨k0, k1, -⟩ := hk
             have k0 : a.tmps.getD 74 undef = .agg #[.int .i64 z.regs, .slice b3.pP z.params.length b3.cP, .slice b3.pC z.code.length b3.cC, .int .i64 z.fin.op, .int .i64 z.fin.a, .int .i64 z.fin.yes.block, .slice b3.e.pYR z.fin.yes.regs.length b3.e.cYR, .slice b3.e.pYA z.fin.yes.args.length b3.e.cYA, .int .i64 z.fin.no.block, .slice b3.e.pNR z.fin.no.regs.length b3.e.cNR, .slice b3.e.pNA z.fin.no.args.length b3.e.cNA, .slice b3.e.pA z.fin.args.length b3.e.cA] := k0
             have k1 : a.tmps.getD 79 undef = .agg #[.int .i64 u.regs, .slice b4.pP u.params.length b4.cP, .slice b4.pC u.code.length b4.cC, .int .i64 u.fin.op, .int .i64 u.fin.a, .int .i64 u.fin.yes.block, .slice b4.e.pYR u.fin.yes.regs.length b4.e.cYR, .slice b4.e.pYA u.fin.yes.args.length b4.e.cYA, .int .i64 u.fin.no.block, .slice b4.e.pNR u.fin.no.regs.length b4.e.cNR, .slice b4.e.pNA u.fin.no.args.length b4.e.cNA, .slice b4.e.pA u.fin.args.length b4.e.cA] := k1
             have hC : Rd Try.prog 52 #[.agg #[.int .i64 z.regs, .slice b3.pP z.params.length b3.cP, .slice b3.pC z.code.length b3.cC, .int .i64 z.fin.op, .int .i64 z.fin.a, .int .i64 z.fin.yes.block, .slice b3.e.pYR z.fin.yes.regs.length b3.e.cYR, .slice b3.e.pYA z.fin.yes.args.length b3.e.cYA, .int .i64 z.fin.no.block, .slice b3.e.pNR z.fin.no.regs.length b3.e.cNR, .slice b3.e.pNA z.fin.no.args.length b3.e.cNA, .slice b3.e.pA z.fin.args.length b3.e.cA], .agg #[.int .i64 u.regs, .slice b4.pP u.params.length b4.cP, .slice b4.pC u.code.length b4.cC, .int .i64 u.fin.op, .int .i64 u.fin.a, .int .i64 u.fin.yes.block, .slice b4.e.pYR u.fin.yes.regs.length b4.e.cYR, .slice b4.e.pYA u.fin.yes.args.length b4.e.cYA, .int .i64 u.fin.no.block, .slice b4.e.pNR u.fin.no.regs.length b4.e.cNR, .slice b4.e.pNA u.fin.no.args.length b4.e.cNA, .slice b4.e.pA u.fin.args.length b4.e.cA]] w (.bool (bdec (z = u))) := sameBlock_any (In3.out.below hW.1.bel) (In4.out.below hW.1.bel) (hs1.out.2.2.2 z (List.mem_of_getElem? hx3.out))
             go_simp
             refine hC.mono ?_
             rintro e w9 ⟨rfl, hb⟩
             exact hK _ _ hb ⟨hW.1.below hb, Below.andThen hW.2 hb⟩ rfl
           refine ⟨fun a w hW hk K hK => ?_, ?_⟩
           · obtain ⟨k0, -⟩ := hk
             have k0 : a.tmps.getD 80 undef = .bool (bdec (z = u)) := k0
             go_simp
             exact hK _ _ (Below.refl _ _) hW rfl
           trivial
          case hend =>
           intro ops a55 w55 hWD hE hFD
           have hd81 : a55.tmps.getD 81 undef = .bool (!(bdec (z = u))) := hE 81 rfl
           have hF55 : Fr 82 a55 [(81, .bool (!(bdec (z = u)))), (1, .agg #[.slice p2 k.length d]), (0, .agg #[.slice p m.length c]), (2, .pointer (some ⟨B2, 0, none⟩)), (3, .pointer (some ⟨B3, 0, none⟩)), (4, .bool false), (5, .int .i64 (q : Int)), (6, .pointer (some ⟨BD6, 0, none⟩)), (7, .pointer (some ⟨BD7, 0, none⟩)), (8, .int .i64 (qb : Int))] := (hFD.cons hd81)
           clear hd81
           have hW55 : Wd w w55 [(BD6, #[.int .i64 x.regs, .slice f1.pP x.params.length f1.cP, .slice f1.pR x.results.length f1.cR, .slice f1.pB x.blocks.length f1.cB], 50), (BD7, #[.int .i64 y.regs, .slice f2.pP y.params.length f2.cP, .slice f2.pR y.results.length f2.cR, .slice f2.pB y.blocks.length f2.cB], 50), (B3, #[.slice p2 k.length d], 39), (B2, #[.slice p m.length c], 39)] := hWD.1
           clear hFD hWD hE hF54 h51
           clear hW48
           refine wpList_nil ?_
           refine hK53 _ _ ?_
           refine fr_cond (t := 81) hF55 rfl (fun hb => ?_) (fun hb => ?_)
           ·have hb : (bdec (z = u)) = false := by simpa using hb
            have hel : ¬ (z = u) := fun h => by rw [bdec_true h] at hb; cases hb
            clear hb
            refine wp_seq_k ?_
            intro K56 hK56
            refine fr_region ?_
            intro ops hops
            clear hops
            refine St.go hF55 ?_; clear hF55 a55
            refine sa trivial rfl rfl ?_
            refine St.nil fun a57 h57 => ?_
            refine hK56 _ _ ?_
            refine wp_ret ?_
            repeat (first | with_reducible refine of_then_ret ?_ | with_reducible refine of_block_ret ?_)
            have RX : ¬ x = y := by
              intro e
              have h1 := hx3.out
              rw [e, hx4.out] at h1
              exact hel (Option.some.inj h1).symm
            have R : ¬ m = k := by
              intro e
              have h1 := hx1.out
              rw [e, hx2.out] at h1
              exact RX (Option.some.inj h1).symm
            exact ret_tmp (t := 4) h57 rfl rfl ⟨by rw [bdec_false R], hW55.bel⟩
           ·have hb : (bdec (z = u)) = true := by simpa using hb
            have hel : (z = u) := bdec_iff.1 hb
            clear hb
            refine wp_skip ?_
            refine hK52 _ _ ?_
            refine fr_region ?_
            intro ops hops
            clear hops
            refine St.go hF55 ?_; clear hF55 a55
            refine sm trivial rfl rfl ?_
            refine sad (by omega) trivial rfl rfl rfl ?_
            refine sa trivial rfl rfl ?_
            refine St.nil fun a58 h58 => ?_
            refine hKLb _ _ (x.blocks.length - (qb + 1)) (by omega) ⟨qb + 1, by omega, rfl, ?_, (h58.keep (h58.keep (h58.keep (h58.keep (h58.keep (h58.keep (h58.keep (h58.keep (h58.keep h58.nil (t := 8) rfl) (t := 7) rfl) (t := 6) rfl) (t := 5) rfl) (t := 4) rfl) (t := 3) rfl) (t := 2) rfl) (t := 0) rfl) (t := 1) rfl), hW55⟩
            ·intro j hj
             by_cases e : j = qb
             · subst e; rw [hx3.out, hx4.out, hel]
             · exact hal2 j (by omega)
         ·have hge2 : qb = x.blocks.length := by have := of_decide_eq_false hb; omega
          clear hb
          have RB : x.blocks = y.blocks := by
            have := hlb.out
            refine List.ext_getElem? fun i => ?_
            by_cases hi : i < qb
            · exact hal2 i hi
            · rw [List.getElem?_eq_none (by omega), List.getElem?_eq_none (by omega)]
          have RX : x = y := MFunc.eq_of hc28.out hc35 hc42 RB
          refine wp_exit ?_
          refine hK17 _ _ ?_
          refine fr_region ?_
          intro ops hops
          clear hops
          refine St.go h51 ?_; clear h51 a51
          refine sm trivial rfl rfl ?_
          refine sad (by omega) trivial rfl rfl rfl ?_
          refine sa trivial rfl rfl ?_
          refine St.nil fun a59 h59 => ?_
          refine hKL _ _ (m.length - (q + 1)) (by omega) ⟨q + 1, by omega, rfl, ?_, (h59.keep (h59.keep (h59.keep (h59.keep (h59.keep (h59.keep h59.nil (t := 5) rfl) (t := 4) rfl) (t := 3) rfl) (t := 2) rfl) (t := 0) rfl) (t := 1) rfl), hW48.tail.tail⟩
          ·intro j hj
           by_cases e : j = q
           · subst e; rw [hx1.out, hx2.out, RX]
           · exact hall j (by omega)
   ·have hge : q = m.length := by have := of_decide_eq_false hb; omega
    clear hb
    refine wp_exit ?_
    refine hK10 _ _ ?_
    refine wp_seq_k ?_
    intro K60 hK60
    refine fr_region ?_
    intro ops hops
    clear hops
    refine St.go h16 ?_; clear h16 a16
    refine sa trivial rfl rfl ?_
    refine St.nil fun a61 h61 => ?_
    refine hK60 _ _ ?_
    refine wp_ret ?_
    repeat (first | with_reducible refine of_then_ret ?_ | with_reducible refine of_block_ret ?_)
    have R : m = k := by
      have := hlen.out
      refine List.ext_getElem? fun i => ?_
      by_cases hi : i < q
      · exact hall i hi
      · rw [List.getElem?_eq_none (by omega), List.getElem?_eq_none (by omega)]
    exact ret_tmp (t := 4) h61 rfl rfl ⟨by rw [bdec_true R], hW13.bel⟩
end Go.Proofs.Ytmnmnokkojcodab
