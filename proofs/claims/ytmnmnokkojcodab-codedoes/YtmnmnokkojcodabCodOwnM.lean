/-
  OwnModule (the reference): a module in new memory.
-/
import Derived.Test.YtmnmnokkojcodabFrA
import Derived.Test.YtmnmnokkojcodabCodOwnP
namespace Go.Proofs.Ytmnmnokkojcodab
open Go.ChangeShapes Go.WideShapes Go.ChangeAt Go.RowKit
set_option linter.unusedVariables false
set_option linter.unusedSimpArgs false

set_option maxHeartbeats 4000000 in
set_option maxRecDepth 100000 in
theorem ownModule_any {n : Nat} (m : List (MFunc n)) (p : Option Addr) (c : Nat) (w : World) (h : (modL n).In w All m [.slice p m.length c]) (hs0 : msmall m) :
    Calls Try.prog 14 #[.agg #[.slice p m.length c]] w fun e w' => ∃ v, e = .returned v ∧ (∃ a' c', v = .agg #[.slice a' m.length c'] ∧ (modL n).In w' (From w.heap.size) m [.slice a' m.length c']) ∧ Below w.heap.size w w' := by
  have hm : Hid _ := h
  have hs : Hid _ := hs0
  have hn1 := hs0.1
  clear h hs0
  obtain ⟨iF, hiF, hzF0, hzF1, hzF2⟩ := parts_of infoFunc
  obtain ⟨iB, hiB, hzB0, hzB1, hzB2⟩ := parts_of infoBlock
  obtain ⟨iI, hiI, hzI0, hzI1, hzI2⟩ := parts_of infoIns
  refine fr_enter (n := 110) Try.func14 rfl rfl rfl ?_
  intro a hF
  have hW := Wd.start w
  replace hF : Fr 110 a [(0, .agg #[.slice p m.length c])] := hF
  refine wp_seq_k ?_
  intro K1 hK1
  refine fr_region ?_
  intro ops hops
  clear hops
  refine St.go hF ?_; clear hF a
  refine sB hW trivial rfl rfl ?_
  clear hW; intro w2 B2 hW2 hN; clear hN
  refine sAModule hW2 trivial rfl ?_
  clear hW2; intro w3 B3 hW3 hN; clear hN
  refine St.nil fun a4 h4 => ?_
  refine hK1 _ _ ?_
  refine wp_seq_k ?_
  intro K5 hK5
  refine fr_region ?_
  intro ops hops
  clear hops
  refine St.go h4 ?_; clear h4 a4
  refine sAModule hW3 trivial rfl ?_
  clear hW3; intro w6 B6 hW6 hN; clear hN
  refine St.nil fun a7 h7 => ?_
  refine hK5 _ _ ?_
  refine wp_seq_k ?_
  intro K8 hK8
  refine wp_seq_k ?_
  intro K9 hK9
  refine fr_region ?_
  intro ops hops
  clear hops
  refine St.go h7 ?_; clear h7 a7
  refine sa trivial rfl rfl ?_
  refine St.nil fun a10 h10 => ?_
  refine hK9 _ _ ?_
  refine wp_block ?_
  have hlo1 : w.heap.size ≤ w6.heap.size := hW6.bel.size
  have hlB6 : B6 < w6.heap.size := (hW6.get 0 rfl).lt
  have hlB3 : B3 < w6.heap.size := (hW6.get 1 rfl).lt
  have hlB2 : B2 < w6.heap.size := (hW6.get 2 rfl).lt
  refine fr_loop (fun r a w' => ∃ q1 : Nat, q1 ≤ m.length ∧ r = m.length - q1 ∧ ∃ v1 xs, ARow (funcL n) 50 w' w6.heap.size v1 (m.take q1) xs ∧ KeepBut w6.heap.size B6 w6 w' ∧ w6.heap.size ≤ w'.heap.size ∧ Fr 110 a [(0, .agg #[.slice p m.length c]), (1, .pointer (some ⟨B2, 0, none⟩)), (2, .pointer (some ⟨B3, 0, none⟩)), (3, .pointer (some ⟨B6, 0, none⟩)), (4, .int .i64 (q1 : Int))] ∧ Wd w w' [(B6, #[v1], 39), (B3, #[.slice none 0 0], 39), (B2, #[.slice p m.length c], 39)]) (m.length) ⟨0, Nat.zero_le _, rfl, .slice none 0 0, [], ARow.nil' _ _ _ _, KeepBut.refl _ _ _, Nat.le_refl _, (h10.keep (h10.keep (h10.keep (h10.keep (h10.keep h10.nil (t := 4) rfl) (t := 3) rfl) (t := 2) rfl) (t := 1) rfl) (t := 0) rfl), hW6⟩ ?_
  clear h10 hW6
  rintro r1 a11 w11 ⟨q1, hq1, hr1, v1, xs1, hA0, hK0, hz1, hF11, hWo1⟩ KL1 hKL1
  have hA1 : Hid _ := hA0
  have hK1 : Hid _ := hK0
  clear hA0 hK0
  have hW11 := Wd.start w11
  have hkB6 : Hid (Blk w11 B6 #[v1] 39) := hWo1.get 0 rfl
  have hkB3 : Hid (Blk w11 B3 #[.slice none 0 0] 39) := hWo1.get 1 rfl
  have hkB2 : Hid (Blk w11 B2 #[.slice p m.length c] 39) := hWo1.get 2 rfl
  refine wp_seq_k ?_
  intro K12 hK12
  refine wp_seq_k ?_
  intro K13 hK13
  refine fr_region ?_
  intro ops hops
  clear hops
  refine St.go hF11 ?_; clear hF11 a11
  refine sm trivial rfl rfl ?_
  refine sfModule0 trivial rfl rfl ?_
  refine scFuncs (bel_cell hW11.bel (cellOf hkB2.out 0 _ rfl)) trivial rfl rfl ?_
  refine slFuncs trivial rfl rfl ?_
  refine slt trivial rfl rfl rfl ?_
  refine St.nil fun a14 h14 => ?_
  refine hK13 _ _ ?_
  refine fr_cond (t := 16) h14 rfl (fun hb => ?_) (fun hb => ?_)
  ·have hlt1 : q1 < m.length := by have := of_decide_eq_true hb; omega
   clear hb
   obtain ⟨x, hx1⟩ : ∃ v9, (m)[q1]? = some v9 := ⟨_, List.getElem?_eq_getElem hlt1⟩
   obtain ⟨g1, o1, f1, hp1, E1, In1⟩ := func_at (Lay.below hm.out hWo1.bel) hx1
   replace In1 : Hid _ := In1
   replace hp1 : Hid _ := hp1
   replace hx1 : Hid _ := hx1
   replace E1 : Hid _ := E1
   have hs1 : Hid _ := hs.out.2 x (List.mem_of_getElem? hx1.out)
   have hn2 := hs1.out.1
   refine wp_skip ?_
   refine hK12 _ _ ?_
   refine wp_seq_k ?_
   intro K15 hK15
   refine wp_block ?_
   refine wp_seq_k ?_
   intro K16 hK16
   refine fr_region ?_
   intro ops hops
   clear hops
   refine St.go h14 ?_; clear h14 a14
   refine sfModule0 trivial rfl rfl ?_
   refine scFuncs (bel_cell hW11.bel (cellOf hkB2.out 0 _ rfl)) trivial rfl rfl ?_
   refine sm trivial rfl rfl ?_
   refine siFuncs hp1.out hlt1 trivial rfl rfl rfl ?_
   refine sSE Try.underlying50 rfl (rangeAt_bel E1.out hW11.bel) infFunc trivial rfl rfl ?_
   refine sAFunc hW11 trivial rfl ?_
   clear hW11; intro w17 B17 hW17 hN; clear hN
   refine sT 0 hW17 rfl rfl infFunc rfl rfl rfl ?_
   clear hW17; intro w18 hW18
   refine St.nil fun a19 h19 => ?_
   refine hK16 _ _ ?_
   refine wp_seq_k ?_
   intro K20 hK20
   have hF21 : Fr 110 a19 [(0, .agg #[.slice p m.length c]), (1, .pointer (some ⟨B2, 0, none⟩)), (2, .pointer (some ⟨B3, 0, none⟩)), (3, .pointer (some ⟨B6, 0, none⟩)), (4, .int .i64 (q1 : Int)), (5, .pointer (some ⟨B17, 0, none⟩))] := (h19.keep (h19.keep (h19.keep (h19.keep (h19.keep (h19.keep h19.nil (t := 5) rfl) (t := 4) rfl) (t := 3) rfl) (t := 2) rfl) (t := 1) rfl) (t := 0) rfl)
   have ho5 : a19.tmps.getD 5 undef = .pointer (some ⟨B17, 0, none⟩) := h19.sl 5 _ rfl
   have hDS : DStable (Z := Option Addr × Nat × Option Addr × Nat) [(4, fun z w O => (typesL n).In w O x.params [.slice z.1 x.params.length z.2.1]), (7, fun z w O => (typesL n).In w O x.results [.slice z.2.2.1 x.results.length z.2.2.2])] := by
     intro x hx
     simp only [List.mem_cons, List.not_mem_nil, or_false] at hx
     rcases hx with rfl | rfl
     · intro z w w9 O hk h; exact (typesL n).keep hk (fun _ h _ => h) h
     · intro z w w9 O hk h; exact (typesL n).keep hk (fun _ h _ => h) h
   refine fr_draw4 (Z := Option Addr × Nat × Option Addr × Nat) [(0, 24), (1, 25), (2, 26), (3, 27), (4, 28), (5, 29), (6, 30), (7, 31), (8, 32)] [(9, 6, 4, 50)] [(10, 6, 4, 50)] (fun z => [(24, .pointer (some ⟨B17, 0, none⟩)), (25, .int .i64 x.regs), (26, .pointer (some ⟨B17, 1, none⟩)), (27, .slice f1.pP x.params.length f1.cP), (28, .slice z.1 x.params.length z.2.1), (29, .pointer (some ⟨B17, 2, none⟩)), (30, .slice f1.pR x.results.length f1.cR), (31, .slice z.2.2.1 x.results.length z.2.2.2), (32, .agg #[.int .i64 x.regs, .slice z.1 x.params.length z.2.1, .slice z.2.2.1 x.results.length z.2.2.2, .slice none 0 0])]) (fun z => [(6, [.int .i64 x.regs, .slice z.1 x.params.length z.2.1, .slice z.2.2.1 x.results.length z.2.2.2, .slice none 0 0])]) [(4, fun z w O => (typesL n).In w O x.params [.slice z.1 x.params.length z.2.1]), (7, fun z w O => (typesL n).In w O x.results [.slice z.2.2.1 x.results.length z.2.2.2])] (none, 0, none, 0) (by kernel_rfl) hF21 (by kernel_rfl) (by kernel_rfl) (fun hDB => ?hst) ?hend
   case hst =>
    refine ⟨fun S a1 w1 hS hd hcl hI0 K hK => ?_, ?_⟩
    · obtain ⟨⟨p28, c28, p31, c31⟩, hI⟩ := hI0
      have hWd := hW18.below hI.1.bel
      have k0 : a1.tmps.getD 5 undef = .pointer (some ⟨B17, 0, none⟩) := ((hI.1.outer 5 (by kernel_rfl)).trans ho5)
      go_simp
      exact hK _ _ (DMz.pure hDS hDB hI (i := 0) (t := 24) (by decide) rfl hS (Below.refl _ _) (by kernel_rfl) (by kernel_rfl) rfl)
    refine ⟨fun S a1 w1 hS hd hcl hI0 K hK => ?_, ?_⟩
    · obtain ⟨⟨p28, c28, p31, c31⟩, hI⟩ := hI0
      have hWd := hW18.below hI.1.bel
      have k0 : a1.tmps.getD 24 undef = .pointer (some ⟨B17, 0, none⟩) := (hI.1.vals (0, 24) (by decide) (hd.at 0 (by kernel_rfl)) _ rfl)
      have c0 : w1.cell? ⟨B17, 0, none⟩ = some (.int .i64 x.regs) := cellOf (hWd.get 0 rfl) 0 _ rfl
      go_simp
      exact hK _ _ (DMz.pure hDS hDB hI (i := 1) (t := 25) (by decide) rfl hS (Below.refl _ _) (by kernel_rfl) (by kernel_rfl) rfl)
    refine ⟨fun S a1 w1 hS hd hcl hI0 K hK => ?_, ?_⟩
    · obtain ⟨⟨p28, c28, p31, c31⟩, hI⟩ := hI0
      have hWd := hW18.below hI.1.bel
      have k0 : a1.tmps.getD 5 undef = .pointer (some ⟨B17, 0, none⟩) := ((hI.1.outer 5 (by kernel_rfl)).trans ho5)
      go_simp
      exact hK _ _ (DMz.pure hDS hDB hI (i := 2) (t := 26) (by decide) rfl hS (Below.refl _ _) (by kernel_rfl) (by kernel_rfl) rfl)
    refine ⟨fun S a1 w1 hS hd hcl hI0 K hK => ?_, ?_⟩
    · obtain ⟨⟨p28, c28, p31, c31⟩, hI⟩ := hI0
      have hWd := hW18.below hI.1.bel
      have k0 : a1.tmps.getD 26 undef = .pointer (some ⟨B17, 1, none⟩) := (hI.1.vals (2, 26) (by decide) (hd.at 2 (by kernel_rfl)) _ rfl)
      have c1 : w1.cell? ⟨B17, 1, none⟩ = some (.slice f1.pP x.params.length f1.cP) := cellOf (hWd.get 0 rfl) 1 _ rfl
      go_simp
      exact hK _ _ (DMz.pure hDS hDB hI (i := 3) (t := 27) (by decide) rfl hS (Below.refl _ _) (by kernel_rfl) (by kernel_rfl) rfl)
    refine ⟨fun S a1 w1 hS hd hcl hI0 K hK => ?_, ?_⟩
    · obtain ⟨⟨p28, c28, p31, c31⟩, hI⟩ := hI0
      have hWd := hW18.below hI.1.bel
      have k0 : a1.tmps.getD 27 undef = .slice f1.pP x.params.length f1.cP := (hI.1.vals (3, 27) (by decide) (hd.at 3 (by kernel_rfl)) _ rfl)
      go_simp
      refine (rOwnTypes_any (Lay.below In1.out.params hWd.bel) hs1.out.2.1).mono ?_
      rintro e w9 ⟨p28n, c28n, rfl, h9, hb⟩
      refine hK _ _ (DMz.call hDS hDB hI (z' := (p28n, c28n, p31, c31)) (i := 4) (t := 28) (by decide) rfl hS hcl hb (by kernel_rfl) (by kernel_rfl) [7, 8, 10] (by kernel_rfl) ?_ ?_ ?_)
      · intro x hx; simp only [List.mem_cons, List.not_mem_nil, or_false] at hx; rcases hx with rfl | rfl | rfl | rfl | rfl | rfl | rfl | rfl | rfl
        all_goals first | exact .inr (.inr rfl) | exact .inl (by decide) | exact .inr (.inl rfl)
      · intro x hx; simp only [List.mem_cons, List.not_mem_nil, or_false] at hx; rcases hx with rfl
        all_goals exact .inl (by decide)
      · intro x hx; simp only [List.mem_cons, List.not_mem_nil, or_false] at hx; rcases hx with rfl | rfl
        · exact .inl ⟨rfl, fun k => w1.heap.size ≤ k ∧ k < w9.heap.size, Lay.mono h9 (fun k hk hl => ⟨hk, hl⟩), fun k hk => hk⟩
        · exact .inr ⟨show (7 : Nat) ≠ 4 from by decide, fun w O h => h⟩
    refine ⟨fun S a1 w1 hS hd hcl hI0 K hK => ?_, ?_⟩
    · obtain ⟨⟨p28, c28, p31, c31⟩, hI⟩ := hI0
      have hWd := hW18.below hI.1.bel
      have k0 : a1.tmps.getD 5 undef = .pointer (some ⟨B17, 0, none⟩) := ((hI.1.outer 5 (by kernel_rfl)).trans ho5)
      go_simp
      exact hK _ _ (DMz.pure hDS hDB hI (i := 5) (t := 29) (by decide) rfl hS (Below.refl _ _) (by kernel_rfl) (by kernel_rfl) rfl)
    refine ⟨fun S a1 w1 hS hd hcl hI0 K hK => ?_, ?_⟩
    · obtain ⟨⟨p28, c28, p31, c31⟩, hI⟩ := hI0
      have hWd := hW18.below hI.1.bel
      have k0 : a1.tmps.getD 29 undef = .pointer (some ⟨B17, 2, none⟩) := (hI.1.vals (5, 29) (by decide) (hd.at 5 (by kernel_rfl)) _ rfl)
      have c2 : w1.cell? ⟨B17, 2, none⟩ = some (.slice f1.pR x.results.length f1.cR) := cellOf (hWd.get 0 rfl) 2 _ rfl
      go_simp
      exact hK _ _ (DMz.pure hDS hDB hI (i := 6) (t := 30) (by decide) rfl hS (Below.refl _ _) (by kernel_rfl) (by kernel_rfl) rfl)
    refine ⟨fun S a1 w1 hS hd hcl hI0 K hK => ?_, ?_⟩
    · obtain ⟨⟨p28, c28, p31, c31⟩, hI⟩ := hI0
      have hWd := hW18.below hI.1.bel
      have k0 : a1.tmps.getD 30 undef = .slice f1.pR x.results.length f1.cR := (hI.1.vals (6, 30) (by decide) (hd.at 6 (by kernel_rfl)) _ rfl)
      go_simp
      refine (rOwnTypes_any (Lay.below In1.out.results hWd.bel) hs1.out.2.2.1).mono ?_
      rintro e w9 ⟨p31n, c31n, rfl, h9, hb⟩
      refine hK _ _ (DMz.call hDS hDB hI (z' := (p28, c28, p31n, c31n)) (i := 7) (t := 31) (by decide) rfl hS hcl hb (by kernel_rfl) (by kernel_rfl) [8, 10] (by kernel_rfl) ?_ ?_ ?_)
      · intro x hx; simp only [List.mem_cons, List.not_mem_nil, or_false] at hx; rcases hx with rfl | rfl | rfl | rfl | rfl | rfl | rfl | rfl | rfl
        all_goals first | exact .inr (.inr rfl) | exact .inl (by decide) | exact .inr (.inl rfl)
      · intro x hx; simp only [List.mem_cons, List.not_mem_nil, or_false] at hx; rcases hx with rfl
        all_goals exact .inl (by decide)
      · intro x hx; simp only [List.mem_cons, List.not_mem_nil, or_false] at hx; rcases hx with rfl | rfl
        · exact .inr ⟨show (4 : Nat) ≠ 7 from by decide, fun w O h => h⟩
        · exact .inl ⟨rfl, fun k => w1.heap.size ≤ k ∧ k < w9.heap.size, Lay.mono h9 (fun k hk hl => ⟨hk, hl⟩), fun k hk => hk⟩
    refine ⟨fun S a1 w1 hS hd hcl hI0 K hK => ?_, ?_⟩
    · obtain ⟨⟨p28, c28, p31, c31⟩, hI⟩ := hI0
      have hWd := hW18.below hI.1.bel
      have k0 : a1.tmps[25]?.getD undef = .int .i64 x.regs := by rw [← Array.getD_eq_getD_getElem?]; exact (hI.1.vals (1, 25) (by decide) (hd.at 1 (by kernel_rfl)) _ rfl)
      have k1 : a1.tmps[28]?.getD undef = .slice p28 x.params.length c28 := by rw [← Array.getD_eq_getD_getElem?]; exact (hI.1.vals (4, 28) (by decide) (hd.at 4 (by kernel_rfl)) _ rfl)
      have k2 : a1.tmps[31]?.getD undef = .slice p31 x.results.length c31 := by rw [← Array.getD_eq_getD_getElem?]; exact (hI.1.vals (7, 31) (by decide) (hd.at 7 (by kernel_rfl)) _ rfl)
      go_simp
      exact hK _ _ (DMz.pure hDS hDB hI (i := 8) (t := 32) (by decide) rfl hS (Below.refl _ _) (by kernel_rfl) (by kernel_rfl) rfl)
    refine ⟨fun S a1 w1 hS hd hcl hI0 K hK => ?_, ?_⟩
    · obtain ⟨⟨p28, c28, p31, c31⟩, hI⟩ := hI0
      go_simp
      exact hK _ _ (DMz.alloc hDS hDB hI (i := 9) (t := 6) (s := 4) (ty := 50) (by decide) rfl hS hcl (by kernel_rfl) (by kernel_rfl) rfl)
    refine ⟨fun S a1 w1 hS hd hcl hI0 K hK => ?_, ?_⟩
    · obtain ⟨⟨p28, c28, p31, c31⟩, hI⟩ := hI0
      have k0 : a1.tmps.getD 32 undef = .agg #[.int .i64 x.regs, .slice p28 x.params.length c28, .slice p31 x.results.length c31, .slice none 0 0] := (hI.1.vals (8, 32) (by decide) (hd.at 8 (by kernel_rfl)) _ rfl)
      obtain ⟨B, kB, hlo, c0, hBk, hcs⟩ := hI.1.box (i := 9) (t := 6) (s := 4) (ty := 50) (by decide) (hd.at 9 (by kernel_rfl))
      exact wp_fill hBk kB k0 infFunc rfl hcs.symm (hK _ _ (DMz.store hDS hDB hI (i := 10) (t := 6) (s := 4) (ty := 50) (j := 9) (by decide) (by decide) (hd.at 9 (by kernel_rfl)) kB hBk hcs hlo rfl rfl hS hcl (by kernel_rfl) (by kernel_rfl) rfl))
    trivial
   case hend =>
    rintro ⟨p28, c28, p31, c31⟩ S a22 w22 hS hD hFD
    obtain ⟨BD6, hd6, hBl6, hBk6⟩ := hD.1.full (j := 9) (i := 10) (t := 6) (s := 4) (ty := 50) (by decide) (hS _ (by decide)) (by decide) (hS _ (by decide)) rfl
    have hF22 : Fr 110 a22 [(6, .pointer (some ⟨BD6, 0, none⟩)), (0, .agg #[.slice p m.length c]), (1, .pointer (some ⟨B2, 0, none⟩)), (2, .pointer (some ⟨B3, 0, none⟩)), (3, .pointer (some ⟨B6, 0, none⟩)), (4, .int .i64 (q1 : Int)), (5, .pointer (some ⟨B17, 0, none⟩))] := (hFD.cons hd6)
    obtain ⟨O9, hN28, hO9⟩ := hD.2 _ List.mem_cons_self (hS 4 (by decide))
    replace hN28 := Lay.mono (show (typesL n).In _ _ x.params [.slice p28 x.params.length c28] from hN28) (O' := fun k => w18.heap.size ≤ k ∧ k < w22.heap.size ∧ k ≠ BD6) (fun k hk _ => ⟨(hO9.1 k hk).1, (hO9.1 k hk).2, fun e => hO9.2 (9, 6, 4, 50) (by decide) (hS _ (by decide)) BD6 hd6 (e ▸ hk)⟩)
    clear hO9
    obtain ⟨O9, hN31, hO9⟩ := hD.2 _ (List.mem_cons_of_mem _ List.mem_cons_self) (hS 7 (by decide))
    replace hN31 := Lay.mono (show (typesL n).In _ _ x.results [.slice p31 x.results.length c31] from hN31) (O' := fun k => w18.heap.size ≤ k ∧ k < w22.heap.size ∧ k ≠ BD6) (fun k hk _ => ⟨(hO9.1 k hk).1, (hO9.1 k hk).2, fun e => hO9.2 (9, 6, 4, 50) (by decide) (hS _ (by decide)) BD6 hd6 (e ▸ hk)⟩)
    clear hO9
    have hsD : w18.heap.size ≤ w22.heap.size := hD.1.bel.size
    have hW22 : Wd w11 w22 [(BD6, #[.int .i64 x.regs, .slice p28 x.params.length c28, .slice p31 x.results.length c31, .slice none 0 0], 50), (B17, #[.int .i64 x.regs, .slice f1.pP x.params.length f1.cP, .slice f1.pR x.results.length f1.cR, .slice f1.pB x.blocks.length f1.cB], 50)] := Wd.add (hW18.below hD.1.bel) hBk6 hW18 hBl6
    have hsd2 : w11.heap.size ≤ w18.heap.size := hW18.bel.size
    clear hS hD hFD hDS hW18 hd6
    clear hBk6
    refine hK20 _ _ ?_
    refine wp_seq_k ?_
    intro K23 hK23
    refine wp_seq_k ?_
    intro K24 hK24
    refine fr_region ?_
    intro ops hops
    clear hops
    refine St.go hF22 ?_; clear hF22 a22
    refine sa trivial rfl rfl ?_
    refine St.nil fun a25 h25 => ?_
    refine hK24 _ _ ?_
    refine wp_block ?_
    have hlo2 : w11.heap.size ≤ w22.heap.size := hW22.bel.size
    have hlBD6 : BD6 < w22.heap.size := (hW22.get 0 rfl).lt
    have hlB17 : B17 < w22.heap.size := (hW22.get 1 rfl).lt
    refine fr_loop (fun r a w' => ∃ q2 : Nat, q2 ≤ x.blocks.length ∧ r = x.blocks.length - q2 ∧ ∃ v2 xs, ARow (blockL n) 77 w' w22.heap.size v2 (x.blocks.take q2) xs ∧ KeepBut w22.heap.size BD6 w22 w' ∧ w22.heap.size ≤ w'.heap.size ∧ Fr 110 a [(0, .agg #[.slice p m.length c]), (1, .pointer (some ⟨B2, 0, none⟩)), (2, .pointer (some ⟨B3, 0, none⟩)), (3, .pointer (some ⟨B6, 0, none⟩)), (4, .int .i64 (q1 : Int)), (5, .pointer (some ⟨B17, 0, none⟩)), (6, .pointer (some ⟨BD6, 0, none⟩)), (7, .int .i64 (q2 : Int))] ∧ Wd w11 w' [(BD6, #[.int .i64 x.regs, .slice p28 x.params.length c28, .slice p31 x.results.length c31, v2], 50), (B17, #[.int .i64 x.regs, .slice f1.pP x.params.length f1.cP, .slice f1.pR x.results.length f1.cR, .slice f1.pB x.blocks.length f1.cB], 50)]) (x.blocks.length) ⟨0, Nat.zero_le _, rfl, .slice none 0 0, [], ARow.nil' _ _ _ _, KeepBut.refl _ _ _, Nat.le_refl _, (h25.keep (h25.keep (h25.keep (h25.keep (h25.keep (h25.keep (h25.keep (h25.keep h25.nil (t := 7) rfl) (t := 6) rfl) (t := 5) rfl) (t := 4) rfl) (t := 3) rfl) (t := 2) rfl) (t := 1) rfl) (t := 0) rfl), hW22⟩ ?_
    clear h25 hW22
    rintro r2 a26 w26 ⟨q2, hq2, hr2, v2, xs2, hA0, hK0, hz2, hF26, hWo2⟩ KL2 hKL2
    have hA2 : Hid _ := hA0
    have hK2 : Hid _ := hK0
    clear hA0 hK0
    have hW26 := Wd.start w26
    have hkBD6 : Hid (Blk w26 BD6 #[.int .i64 x.regs, .slice p28 x.params.length c28, .slice p31 x.results.length c31, v2] 50) := hWo2.get 0 rfl
    have hkB17 : Hid (Blk w26 B17 #[.int .i64 x.regs, .slice f1.pP x.params.length f1.cP, .slice f1.pR x.results.length f1.cR, .slice f1.pB x.blocks.length f1.cB] 50) := hWo2.get 1 rfl
    refine wp_seq_k ?_
    intro K27 hK27
    refine wp_seq_k ?_
    intro K28 hK28
    refine fr_region ?_
    intro ops hops
    clear hops
    refine St.go hF26 ?_; clear hF26 a26
    refine sm trivial rfl rfl ?_
    refine sfFunc3 trivial rfl rfl ?_
    refine scBlocks (bel_cell hW26.bel (cellOf hkB17.out 3 _ rfl)) trivial rfl rfl ?_
    refine slBlocks trivial rfl rfl ?_
    refine slt trivial rfl rfl rfl ?_
    refine St.nil fun a29 h29 => ?_
    refine hK28 _ _ ?_
    refine fr_cond (t := 37) h29 rfl (fun hb => ?_) (fun hb => ?_)
    ·have hlt2 : q2 < x.blocks.length := by have := of_decide_eq_true hb; omega
     clear hb
     obtain ⟨y, hx2⟩ : ∃ v9, (x.blocks)[q2]? = some v9 := ⟨_, List.getElem?_eq_getElem hlt2⟩
     obtain ⟨g2, o2, b2, hp2, E2, In2⟩ := block_at (Lay.below In1.out.blocks hWo2.bel) hx2
     replace In2 : Hid _ := In2
     replace hp2 : Hid _ := hp2
     replace hx2 : Hid _ := hx2
     replace E2 : Hid _ := E2
     have hs2 : Hid _ := hs1.out.2.2.2 y (List.mem_of_getElem? hx2.out)
     have hn3 := hs2.out.1
     refine wp_skip ?_
     refine hK27 _ _ ?_
     refine wp_seq_k ?_
     intro K30 hK30
     refine wp_block ?_
     refine wp_seq_k ?_
     intro K31 hK31
     refine fr_region ?_
     intro ops hops
     clear hops
     refine St.go h29 ?_; clear h29 a29
     refine sfFunc3 trivial rfl rfl ?_
     refine scBlocks (bel_cell hW26.bel (cellOf hkB17.out 3 _ rfl)) trivial rfl rfl ?_
     refine sm trivial rfl rfl ?_
     refine siBlocks hp2.out hlt2 trivial rfl rfl rfl ?_
     refine sSE Try.underlying77 rfl (rangeAt_bel E2.out hW26.bel) infBlock trivial rfl rfl ?_
     refine sABlock hW26 trivial rfl ?_
     clear hW26; intro w32 B32 hW32 hN; clear hN
     refine sT 0 hW32 rfl rfl infBlock rfl rfl rfl ?_
     clear hW32; intro w33 hW33
     refine St.nil fun a34 h34 => ?_
     refine hK31 _ _ ?_
     refine wp_seq_k ?_
     intro K35 hK35
     have hF36 : Fr 110 a34 [(0, .agg #[.slice p m.length c]), (1, .pointer (some ⟨B2, 0, none⟩)), (2, .pointer (some ⟨B3, 0, none⟩)), (3, .pointer (some ⟨B6, 0, none⟩)), (4, .int .i64 (q1 : Int)), (5, .pointer (some ⟨B17, 0, none⟩)), (6, .pointer (some ⟨BD6, 0, none⟩)), (7, .int .i64 (q2 : Int)), (8, .pointer (some ⟨B32, 0, none⟩))] := (h34.keep (h34.keep (h34.keep (h34.keep (h34.keep (h34.keep (h34.keep (h34.keep (h34.keep h34.nil (t := 8) rfl) (t := 7) rfl) (t := 6) rfl) (t := 5) rfl) (t := 4) rfl) (t := 3) rfl) (t := 2) rfl) (t := 1) rfl) (t := 0) rfl)
     have ho8 : a34.tmps.getD 8 undef = .pointer (some ⟨B32, 0, none⟩) := h34.sl 8 _ rfl
     have hDS : DStable (Z := Option Addr × Nat) [(4, fun z w O => (typesL n).In w O y.params [.slice z.1 y.params.length z.2])] := by
       intro x hx
       simp only [List.mem_cons, List.not_mem_nil, or_false] at hx
       rcases hx with rfl
       · intro z w w9 O hk h; exact (typesL n).keep hk (fun _ h _ => h) h
     refine fr_draw4 (Z := Option Addr × Nat) [(0, 45), (1, 46), (2, 47), (3, 48), (4, 49), (5, 50)] [(6, 9, 12, 77)] [(7, 9, 12, 77)] (fun z => [(45, .pointer (some ⟨B32, 0, none⟩)), (46, .int .i64 y.regs), (47, .pointer (some ⟨B32, 1, none⟩)), (48, .slice b2.pP y.params.length b2.cP), (49, .slice z.1 y.params.length z.2), (50, .agg #[.int .i64 y.regs, .slice z.1 y.params.length z.2, .slice none 0 0, .int .i64 0, .int .i64 0, .int .i64 0, .slice none 0 0, .slice none 0 0, .int .i64 0, .slice none 0 0, .slice none 0 0, .slice none 0 0])]) (fun z => [(9, [.int .i64 y.regs, .slice z.1 y.params.length z.2, .slice none 0 0, .int .i64 0, .int .i64 0, .int .i64 0, .slice none 0 0, .slice none 0 0, .int .i64 0, .slice none 0 0, .slice none 0 0, .slice none 0 0])]) [(4, fun z w O => (typesL n).In w O y.params [.slice z.1 y.params.length z.2])] (none, 0) (by kernel_rfl) hF36 (by kernel_rfl) (by kernel_rfl) (fun hDB => ?hst) ?hend
     case hst =>
      refine ⟨fun S a1 w1 hS hd hcl hI0 K hK => ?_, ?_⟩
      · obtain ⟨⟨p49, c49⟩, hI⟩ := hI0
        have hWd := hW33.below hI.1.bel
        have k0 : a1.tmps.getD 8 undef = .pointer (some ⟨B32, 0, none⟩) := ((hI.1.outer 8 (by kernel_rfl)).trans ho8)
        go_simp
        exact hK _ _ (DMz.pure hDS hDB hI (i := 0) (t := 45) (by decide) rfl hS (Below.refl _ _) (by kernel_rfl) (by kernel_rfl) rfl)
      refine ⟨fun S a1 w1 hS hd hcl hI0 K hK => ?_, ?_⟩
      · obtain ⟨⟨p49, c49⟩, hI⟩ := hI0
        have hWd := hW33.below hI.1.bel
        have k0 : a1.tmps.getD 45 undef = .pointer (some ⟨B32, 0, none⟩) := (hI.1.vals (0, 45) (by decide) (hd.at 0 (by kernel_rfl)) _ rfl)
        have c0 : w1.cell? ⟨B32, 0, none⟩ = some (.int .i64 y.regs) := cellOf (hWd.get 0 rfl) 0 _ rfl
        go_simp
        exact hK _ _ (DMz.pure hDS hDB hI (i := 1) (t := 46) (by decide) rfl hS (Below.refl _ _) (by kernel_rfl) (by kernel_rfl) rfl)
      refine ⟨fun S a1 w1 hS hd hcl hI0 K hK => ?_, ?_⟩
      · obtain ⟨⟨p49, c49⟩, hI⟩ := hI0
        have hWd := hW33.below hI.1.bel
        have k0 : a1.tmps.getD 8 undef = .pointer (some ⟨B32, 0, none⟩) := ((hI.1.outer 8 (by kernel_rfl)).trans ho8)
        go_simp
        exact hK _ _ (DMz.pure hDS hDB hI (i := 2) (t := 47) (by decide) rfl hS (Below.refl _ _) (by kernel_rfl) (by kernel_rfl) rfl)
      refine ⟨fun S a1 w1 hS hd hcl hI0 K hK => ?_, ?_⟩
      · obtain ⟨⟨p49, c49⟩, hI⟩ := hI0
        have hWd := hW33.below hI.1.bel
        have k0 : a1.tmps.getD 47 undef = .pointer (some ⟨B32, 1, none⟩) := (hI.1.vals (2, 47) (by decide) (hd.at 2 (by kernel_rfl)) _ rfl)
        have c1 : w1.cell? ⟨B32, 1, none⟩ = some (.slice b2.pP y.params.length b2.cP) := cellOf (hWd.get 0 rfl) 1 _ rfl
        go_simp
        exact hK _ _ (DMz.pure hDS hDB hI (i := 3) (t := 48) (by decide) rfl hS (Below.refl _ _) (by kernel_rfl) (by kernel_rfl) rfl)
      refine ⟨fun S a1 w1 hS hd hcl hI0 K hK => ?_, ?_⟩
      · obtain ⟨⟨p49, c49⟩, hI⟩ := hI0
        have hWd := hW33.below hI.1.bel
        have k0 : a1.tmps.getD 48 undef = .slice b2.pP y.params.length b2.cP := (hI.1.vals (3, 48) (by decide) (hd.at 3 (by kernel_rfl)) _ rfl)
        go_simp
        refine (rOwnTypes_any (Lay.below In2.out.params hWd.bel) hs2.out.2.1).mono ?_
        rintro e w9 ⟨p49n, c49n, rfl, h9, hb⟩
        refine hK _ _ (DMz.call hDS hDB hI (z' := (p49n, c49n)) (i := 4) (t := 49) (by decide) rfl hS hcl hb (by kernel_rfl) (by kernel_rfl) [5, 7] (by kernel_rfl) ?_ ?_ ?_)
        · intro x hx; simp only [List.mem_cons, List.not_mem_nil, or_false] at hx; rcases hx with rfl | rfl | rfl | rfl | rfl | rfl
          all_goals first | exact .inr (.inr rfl) | exact .inl (by decide) | exact .inr (.inl rfl)
        · intro x hx; simp only [List.mem_cons, List.not_mem_nil, or_false] at hx; rcases hx with rfl
          all_goals exact .inl (by decide)
        · intro x hx; simp only [List.mem_cons, List.not_mem_nil, or_false] at hx; rcases hx with rfl
          · exact .inl ⟨rfl, fun k => w1.heap.size ≤ k ∧ k < w9.heap.size, Lay.mono h9 (fun k hk hl => ⟨hk, hl⟩), fun k hk => hk⟩
      refine ⟨fun S a1 w1 hS hd hcl hI0 K hK => ?_, ?_⟩
      · obtain ⟨⟨p49, c49⟩, hI⟩ := hI0
        have hWd := hW33.below hI.1.bel
        have k0 : a1.tmps[46]?.getD undef = .int .i64 y.regs := by rw [← Array.getD_eq_getD_getElem?]; exact (hI.1.vals (1, 46) (by decide) (hd.at 1 (by kernel_rfl)) _ rfl)
        have k1 : a1.tmps[49]?.getD undef = .slice p49 y.params.length c49 := by rw [← Array.getD_eq_getD_getElem?]; exact (hI.1.vals (4, 49) (by decide) (hd.at 4 (by kernel_rfl)) _ rfl)
        go_simp
        exact hK _ _ (DMz.pure hDS hDB hI (i := 5) (t := 50) (by decide) rfl hS (Below.refl _ _) (by kernel_rfl) (by kernel_rfl) rfl)
      refine ⟨fun S a1 w1 hS hd hcl hI0 K hK => ?_, ?_⟩
      · obtain ⟨⟨p49, c49⟩, hI⟩ := hI0
        go_simp
        exact hK _ _ (DMz.alloc hDS hDB hI (i := 6) (t := 9) (s := 12) (ty := 77) (by decide) rfl hS hcl (by kernel_rfl) (by kernel_rfl) rfl)
      refine ⟨fun S a1 w1 hS hd hcl hI0 K hK => ?_, ?_⟩
      · obtain ⟨⟨p49, c49⟩, hI⟩ := hI0
        have k0 : a1.tmps.getD 50 undef = .agg #[.int .i64 y.regs, .slice p49 y.params.length c49, .slice none 0 0, .int .i64 0, .int .i64 0, .int .i64 0, .slice none 0 0, .slice none 0 0, .int .i64 0, .slice none 0 0, .slice none 0 0, .slice none 0 0] := (hI.1.vals (5, 50) (by decide) (hd.at 5 (by kernel_rfl)) _ rfl)
        obtain ⟨B, kB, hlo, c0, hBk, hcs⟩ := hI.1.box (i := 6) (t := 9) (s := 12) (ty := 77) (by decide) (hd.at 6 (by kernel_rfl))
        exact wp_fill hBk kB k0 infBlock rfl hcs.symm (hK _ _ (DMz.store hDS hDB hI (i := 7) (t := 9) (s := 12) (ty := 77) (j := 6) (by decide) (by decide) (hd.at 6 (by kernel_rfl)) kB hBk hcs hlo rfl rfl hS hcl (by kernel_rfl) (by kernel_rfl) rfl))
      trivial
     case hend =>
      rintro ⟨p49, c49⟩ S a37 w37 hS hD hFD
      obtain ⟨BD9, hd9, hBl9, hBk9⟩ := hD.1.full (j := 6) (i := 7) (t := 9) (s := 12) (ty := 77) (by decide) (hS _ (by decide)) (by decide) (hS _ (by decide)) rfl
      have hF37 : Fr 110 a37 [(9, .pointer (some ⟨BD9, 0, none⟩)), (0, .agg #[.slice p m.length c]), (1, .pointer (some ⟨B2, 0, none⟩)), (2, .pointer (some ⟨B3, 0, none⟩)), (3, .pointer (some ⟨B6, 0, none⟩)), (4, .int .i64 (q1 : Int)), (5, .pointer (some ⟨B17, 0, none⟩)), (6, .pointer (some ⟨BD6, 0, none⟩)), (7, .int .i64 (q2 : Int)), (8, .pointer (some ⟨B32, 0, none⟩))] := (hFD.cons hd9)
      obtain ⟨O9, hN49, hO9⟩ := hD.2 _ List.mem_cons_self (hS 4 (by decide))
      replace hN49 := Lay.mono (show (typesL n).In _ _ y.params [.slice p49 y.params.length c49] from hN49) (O' := fun k => w33.heap.size ≤ k ∧ k < w37.heap.size ∧ k ≠ BD9) (fun k hk _ => ⟨(hO9.1 k hk).1, (hO9.1 k hk).2, fun e => hO9.2 (6, 9, 12, 77) (by decide) (hS _ (by decide)) BD9 hd9 (e ▸ hk)⟩)
      clear hO9
      have hsD : w33.heap.size ≤ w37.heap.size := hD.1.bel.size
      have hW37 : Wd w26 w37 [(BD9, #[.int .i64 y.regs, .slice p49 y.params.length c49, .slice none 0 0, .int .i64 0, .int .i64 0, .int .i64 0, .slice none 0 0, .slice none 0 0, .int .i64 0, .slice none 0 0, .slice none 0 0, .slice none 0 0], 77), (B32, #[.int .i64 y.regs, .slice b2.pP y.params.length b2.cP, .slice b2.pC y.code.length b2.cC, .int .i64 y.fin.op, .int .i64 y.fin.a, .int .i64 y.fin.yes.block, .slice b2.e.pYR y.fin.yes.regs.length b2.e.cYR, .slice b2.e.pYA y.fin.yes.args.length b2.e.cYA, .int .i64 y.fin.no.block, .slice b2.e.pNR y.fin.no.regs.length b2.e.cNR, .slice b2.e.pNA y.fin.no.args.length b2.e.cNA, .slice b2.e.pA y.fin.args.length b2.e.cA], 77)] := Wd.add (hW33.below hD.1.bel) hBk9 hW33 hBl9
      have hsd3 : w26.heap.size ≤ w33.heap.size := hW33.bel.size
      clear hS hD hFD hDS hW33 hd9
      clear hBk9
      refine hK35 _ _ ?_
      refine wp_seq_k ?_
      intro K38 hK38
      refine wp_seq_k ?_
      intro K39 hK39
      refine fr_region ?_
      intro ops hops
      clear hops
      refine St.go hF37 ?_; clear hF37 a37
      refine sa trivial rfl rfl ?_
      refine St.nil fun a40 h40 => ?_
      refine hK39 _ _ ?_
      refine wp_block ?_
      have hlo3 : w26.heap.size ≤ w37.heap.size := hW37.bel.size
      have hlBD9 : BD9 < w37.heap.size := (hW37.get 0 rfl).lt
      have hlB32 : B32 < w37.heap.size := (hW37.get 1 rfl).lt
      refine fr_loop (fun r a w' => ∃ q3 : Nat, q3 ≤ y.code.length ∧ r = y.code.length - q3 ∧ ∃ v3 xs, ARow insL 46 w' w37.heap.size v3 (y.code.take q3) xs ∧ KeepBut w37.heap.size BD9 w37 w' ∧ w37.heap.size ≤ w'.heap.size ∧ Fr 110 a [(0, .agg #[.slice p m.length c]), (1, .pointer (some ⟨B2, 0, none⟩)), (2, .pointer (some ⟨B3, 0, none⟩)), (3, .pointer (some ⟨B6, 0, none⟩)), (4, .int .i64 (q1 : Int)), (5, .pointer (some ⟨B17, 0, none⟩)), (6, .pointer (some ⟨BD6, 0, none⟩)), (7, .int .i64 (q2 : Int)), (8, .pointer (some ⟨B32, 0, none⟩)), (9, .pointer (some ⟨BD9, 0, none⟩)), (10, .int .i64 (q3 : Int))] ∧ Wd w26 w' [(BD9, #[.int .i64 y.regs, .slice p49 y.params.length c49, v3, .int .i64 0, .int .i64 0, .int .i64 0, .slice none 0 0, .slice none 0 0, .int .i64 0, .slice none 0 0, .slice none 0 0, .slice none 0 0], 77), (B32, #[.int .i64 y.regs, .slice b2.pP y.params.length b2.cP, .slice b2.pC y.code.length b2.cC, .int .i64 y.fin.op, .int .i64 y.fin.a, .int .i64 y.fin.yes.block, .slice b2.e.pYR y.fin.yes.regs.length b2.e.cYR, .slice b2.e.pYA y.fin.yes.args.length b2.e.cYA, .int .i64 y.fin.no.block, .slice b2.e.pNR y.fin.no.regs.length b2.e.cNR, .slice b2.e.pNA y.fin.no.args.length b2.e.cNA, .slice b2.e.pA y.fin.args.length b2.e.cA], 77)]) (y.code.length) ⟨0, Nat.zero_le _, rfl, .slice none 0 0, [], ARow.nil' _ _ _ _, KeepBut.refl _ _ _, Nat.le_refl _, (h40.keep (h40.keep (h40.keep (h40.keep (h40.keep (h40.keep (h40.keep (h40.keep (h40.keep (h40.keep (h40.keep h40.nil (t := 10) rfl) (t := 9) rfl) (t := 8) rfl) (t := 7) rfl) (t := 6) rfl) (t := 5) rfl) (t := 4) rfl) (t := 3) rfl) (t := 2) rfl) (t := 1) rfl) (t := 0) rfl), hW37⟩ ?_
      clear h40 hW37
      rintro r3 a41 w41 ⟨q3, hq3, hr3, v3, xs3, hA0, hK0, hz3, hF41, hWo3⟩ KL3 hKL3
      have hA3 : Hid _ := hA0
      have hK3 : Hid _ := hK0
      clear hA0 hK0
      have hW41 := Wd.start w41
      have hkBD9 : Hid (Blk w41 BD9 #[.int .i64 y.regs, .slice p49 y.params.length c49, v3, .int .i64 0, .int .i64 0, .int .i64 0, .slice none 0 0, .slice none 0 0, .int .i64 0, .slice none 0 0, .slice none 0 0, .slice none 0 0] 77) := hWo3.get 0 rfl
      have hkB32 : Hid (Blk w41 B32 #[.int .i64 y.regs, .slice b2.pP y.params.length b2.cP, .slice b2.pC y.code.length b2.cC, .int .i64 y.fin.op, .int .i64 y.fin.a, .int .i64 y.fin.yes.block, .slice b2.e.pYR y.fin.yes.regs.length b2.e.cYR, .slice b2.e.pYA y.fin.yes.args.length b2.e.cYA, .int .i64 y.fin.no.block, .slice b2.e.pNR y.fin.no.regs.length b2.e.cNR, .slice b2.e.pNA y.fin.no.args.length b2.e.cNA, .slice b2.e.pA y.fin.args.length b2.e.cA] 77) := hWo3.get 1 rfl
      refine wp_seq_k ?_
      intro K42 hK42
      refine wp_seq_k ?_
      intro K43 hK43
      refine fr_region ?_
      intro ops hops
      clear hops
      refine St.go hF41 ?_; clear hF41 a41
      refine sm trivial rfl rfl ?_
      refine sfBlock2 trivial rfl rfl ?_
      refine scInss (bel_cell hW41.bel (cellOf hkB32.out 2 _ rfl)) trivial rfl rfl ?_
      refine slInss trivial rfl rfl ?_
      refine slt trivial rfl rfl rfl ?_
      refine St.nil fun a44 h44 => ?_
      refine hK43 _ _ ?_
      refine fr_cond (t := 55) h44 rfl (fun hb => ?_) (fun hb => ?_)
      ·have hlt3 : q3 < y.code.length := by have := of_decide_eq_true hb; omega
       clear hb
       obtain ⟨z, hx3⟩ : ∃ v9, (y.code)[q3]? = some v9 := ⟨_, List.getElem?_eq_getElem hlt3⟩
       obtain ⟨g3, o3, i3, hp3, E3, In3⟩ := ins_at (Lay.below In2.out.code hWo3.bel) hx3
       replace In3 : Hid _ := In3
       replace hp3 : Hid _ := hp3
       replace hx3 : Hid _ := hx3
       replace E3 : Hid _ := E3
       have hs3 : Hid _ := hs2.out.2.2.2 z (List.mem_of_getElem? hx3.out)
       refine wp_skip ?_
       refine hK42 _ _ ?_
       refine wp_seq_k ?_
       intro K45 hK45
       refine wp_block ?_
       refine wp_seq_k ?_
       intro K46 hK46
       refine fr_region ?_
       intro ops hops
       clear hops
       refine St.go h44 ?_; clear h44 a44
       refine sfBlock2 trivial rfl rfl ?_
       refine scInss (bel_cell hW41.bel (cellOf hkB32.out 2 _ rfl)) trivial rfl rfl ?_
       refine sm trivial rfl rfl ?_
       refine siInss hp3.out hlt3 trivial rfl rfl rfl ?_
       refine sSE Try.underlying46 rfl (rangeAt_bel E3.out hW41.bel) infIns trivial rfl rfl ?_
       refine sAIns hW41 trivial rfl ?_
       clear hW41; intro w47 B47 hW47 hN; clear hN
       refine sT 0 hW47 rfl rfl infIns rfl rfl rfl ?_
       clear hW47; intro w48 hW48
       refine St.nil fun a49 h49 => ?_
       refine hK46 _ _ ?_
       refine wp_seq_k ?_
       intro K50 hK50
       have hF51 : Fr 110 a49 [(0, .agg #[.slice p m.length c]), (1, .pointer (some ⟨B2, 0, none⟩)), (2, .pointer (some ⟨B3, 0, none⟩)), (3, .pointer (some ⟨B6, 0, none⟩)), (4, .int .i64 (q1 : Int)), (5, .pointer (some ⟨B17, 0, none⟩)), (6, .pointer (some ⟨BD6, 0, none⟩)), (7, .int .i64 (q2 : Int)), (8, .pointer (some ⟨B32, 0, none⟩)), (9, .pointer (some ⟨BD9, 0, none⟩)), (10, .int .i64 (q3 : Int)), (11, .pointer (some ⟨B47, 0, none⟩))] := (h49.keep (h49.keep (h49.keep (h49.keep (h49.keep (h49.keep (h49.keep (h49.keep (h49.keep (h49.keep (h49.keep (h49.keep h49.nil (t := 11) rfl) (t := 10) rfl) (t := 9) rfl) (t := 8) rfl) (t := 7) rfl) (t := 6) rfl) (t := 5) rfl) (t := 4) rfl) (t := 3) rfl) (t := 2) rfl) (t := 1) rfl) (t := 0) rfl)
       have ho11 : a49.tmps.getD 11 undef = .pointer (some ⟨B47, 0, none⟩) := h49.sl 11 _ rfl
       refine fr_draw_k 7 ([(11, fun v _ => v = .pointer (some ⟨B47, 0, none⟩)), (63, fun v _ => v = .pointer (some ⟨B47, 6, none⟩)), (64, fun v _ => v = .slice i3.pR z.regs.length i3.cR), (65, fun v w' => ∃ p c, v = .slice p z.regs.length c ∧ intsL.In w' (From w48.heap.size) z.regs [.slice p z.regs.length c]), (66, fun v _ => v = .pointer (some ⟨B47, 7, none⟩)), (67, fun v _ => v = .slice i3.pA z.args.length i3.cA), (68, fun v w' => ∃ p c, v = .slice p z.args.length c ∧ intsL.In w' (From w48.heap.size) z.args [.slice p z.args.length c]), (69, fun v _ => v = .pointer (some ⟨B47, 6, none⟩))] : PTab) (fun w' => Wd w41 w' [(B47, #[.int .i64 z.op, .int .i64 z.a, .int .i64 z.b, .int .i64 z.c, .int .i64 z.k, .int .i64 z.n, .slice i3.pR z.regs.length i3.cR, .slice i3.pA z.args.length i3.cA], 46)] ∧ Below w48.heap.size w48 w') (fun w w' => Below w.heap.size w w') (outs := [11]) (gs := []) (bs := [true, true, true, true, true, true, true]) (by kernel_rfl) hF51 rfl (by kernel_rfl) (by kernel_rfl) ?hR ?hG ⟨hW48.drewN 1, drewN_below (m := 1) (Below.refl _ _)⟩ ⟨ho11, trivial⟩ ?hA ?hend
       case hR => exact ⟨fun _ _ _ _ h => h, fun _ _ _ _ h => h, fun _ _ _ _ h => h, fun v w w' hr h => by obtain ⟨p, c, h1, h2⟩ := h; exact ⟨p, c, h1, Lay.below h2 hr⟩, fun _ _ _ _ h => h, fun _ _ _ _ h => h, fun v w w' hr h => by obtain ⟨p, c, h1, h2⟩ := h; exact ⟨p, c, h1, Lay.below h2 hr⟩, fun _ _ _ _ h => h, trivial⟩
       case hG => exact trivial
       case hA =>
        refine ⟨fun a w hW hk K hK => ?_, ?_⟩
        · obtain ⟨k0, -⟩ := hk
          have k0 : a.tmps.getD 11 undef = .pointer (some ⟨B47, 0, none⟩) := k0
          go_simp
          exact hK _ _ (Below.refl _ _) hW rfl
        refine ⟨fun a w hW hk K hK => ?_, ?_⟩
        · obtain ⟨k0, -⟩ := hk
          have k0 : a.tmps.getD 63 undef = .pointer (some ⟨B47, 6, none⟩) := k0
          have c6 : w.cell? ⟨B47, 6, none⟩ = some (.slice i3.pR z.regs.length i3.cR) := cellOf (hW.1.get 0 rfl) 6 _ rfl
          go_simp
          exact hK _ _ (Below.refl _ _) hW rfl
        refine ⟨fun a w hW hk K hK => ?_, ?_⟩
        · obtain ⟨k0, -⟩ := hk
          have k0 : a.tmps.getD 64 undef = .slice i3.pR z.regs.length i3.cR := k0
          go_simp
          refine (rOwnInts_any _ _ _ w (Lay.below In3.out.regs hW.1.bel) (by have := hs3.out.1; omega)).mono ?_
          rintro e w9 ⟨p9, c9, rfl, h9, hb⟩
          exact hK _ _ hb ⟨hW.1.below hb, Below.andThen hW.2 hb⟩ ⟨p9, c9, rfl, Lay.mono h9 (fun k hk _ => Nat.le_trans hW.2.size hk)⟩
        refine ⟨fun a w hW hk K hK => ?_, ?_⟩
        · obtain ⟨k0, -⟩ := hk
          have k0 : a.tmps.getD 11 undef = .pointer (some ⟨B47, 0, none⟩) := k0
          go_simp
          exact hK _ _ (Below.refl _ _) hW rfl
        refine ⟨fun a w hW hk K hK => ?_, ?_⟩
        · obtain ⟨k0, -⟩ := hk
          have k0 : a.tmps.getD 66 undef = .pointer (some ⟨B47, 7, none⟩) := k0
          have c7 : w.cell? ⟨B47, 7, none⟩ = some (.slice i3.pA z.args.length i3.cA) := cellOf (hW.1.get 0 rfl) 7 _ rfl
          go_simp
          exact hK _ _ (Below.refl _ _) hW rfl
        refine ⟨fun a w hW hk K hK => ?_, ?_⟩
        · obtain ⟨k0, -⟩ := hk
          have k0 : a.tmps.getD 67 undef = .slice i3.pA z.args.length i3.cA := k0
          go_simp
          refine (rOwnInts_any _ _ _ w (Lay.below In3.out.args hW.1.bel) (by have := hs3.out.2; omega)).mono ?_
          rintro e w9 ⟨p9, c9, rfl, h9, hb⟩
          exact hK _ _ hb ⟨hW.1.below hb, Below.andThen hW.2 hb⟩ ⟨p9, c9, rfl, Lay.mono h9 (fun k hk _ => Nat.le_trans hW.2.size hk)⟩
        refine ⟨fun a w hW hk K hK => ?_, ?_⟩
        · obtain ⟨k0, -⟩ := hk
          have k0 : a.tmps.getD 11 undef = .pointer (some ⟨B47, 0, none⟩) := k0
          go_simp
          exact hK _ _ (Below.refl _ _) hW rfl
        trivial
       case hend =>
        intro ops a52 w52 hWD hE hFD
        obtain ⟨p65, c65, hd65, hN65⟩ := hE 65 rfl
        replace hd65 : a52.tmps.getD 65 undef = .slice p65 z.regs.length c65 := hd65
        obtain ⟨p68, c68, hd68, hN68⟩ := hE 68 rfl
        replace hd68 : a52.tmps.getD 68 undef = .slice p68 z.args.length c68 := hd68
        have hd69 : a52.tmps.getD 69 undef = .pointer (some ⟨B47, 6, none⟩) := hE 69 rfl
        have hF52 : Fr 110 a52 [(69, .pointer (some ⟨B47, 6, none⟩)), (68, .slice p68 z.args.length c68), (65, .slice p65 z.regs.length c65), (0, .agg #[.slice p m.length c]), (1, .pointer (some ⟨B2, 0, none⟩)), (2, .pointer (some ⟨B3, 0, none⟩)), (3, .pointer (some ⟨B6, 0, none⟩)), (4, .int .i64 (q1 : Int)), (5, .pointer (some ⟨B17, 0, none⟩)), (6, .pointer (some ⟨BD6, 0, none⟩)), (7, .int .i64 (q2 : Int)), (8, .pointer (some ⟨B32, 0, none⟩)), (9, .pointer (some ⟨BD9, 0, none⟩)), (10, .int .i64 (q3 : Int)), (11, .pointer (some ⟨B47, 0, none⟩))] := (((hFD.cons hd65).cons hd68).cons hd69)
        clear hd65 hd68 hd69
        have hW52 : Wd w41 w52 [(B47, #[.int .i64 z.op, .int .i64 z.a, .int .i64 z.b, .int .i64 z.c, .int .i64 z.k, .int .i64 z.n, .slice i3.pR z.regs.length i3.cR, .slice i3.pA z.args.length i3.cA], 46)] := hWD.1
        have hsa3 : w41.heap.size ≤ w48.heap.size := hW48.bel.size
        have hmB47 : B47 < w48.heap.size := (hW48.get 0 rfl).lt
        clear hFD hWD hE hF51 h49
        clear hW48
        refine St.go hF52 ?_; clear hF52 a52
        refine s1k 0 inf1Ints hW52 rfl rfl rfl rfl rfl rfl ?_
        intro w53 hKp hW53
        replace hN65 := Lay.keep1 hN65 hKp hmB47
        replace hN68 := Lay.keep1 hN68 hKp hmB47
        clear hKp hW52
        refine sfIns7 trivial rfl rfl ?_
        refine s1k 0 inf1Ints hW53 rfl rfl rfl rfl rfl rfl ?_
        intro w54 hKp hW54
        replace hN65 := Lay.keep1 hN65 hKp hmB47
        replace hN68 := Lay.keep1 hN68 hKp hmB47
        clear hKp hW53
        refine St.nil fun a55 h55 => ?_
        refine hK50 _ _ ?_
        refine fr_region ?_
        intro ops hops
        clear hops
        refine St.go h55 ?_; clear h55 a55
        refine sfBlock2 trivial rfl rfl ?_
        refine scInss (bel_cell hW54.bel (cellOf hkBD9.out 2 _ rfl)) trivial rfl rfl ?_
        refine sS 0 8 Try.underlying46 rfl infIns hW54 trivial rfl rfl rfl rfl ?_
        intro a56 h56
        refine fr_row (t := 74) #[.int .i64 z.op, .int .i64 z.a, .int .i64 z.b, .int .i64 z.c, .int .i64 z.k, .int .i64 z.n, .slice p65 z.regs.length c65, .slice p68 z.args.length c68] 46 1 h56 hW54 rfl rfl rfl (fun K hK => ?_) ?_
        ·have k0 : a56.tmps[73]?.getD undef = .agg #[.int .i64 z.op, .int .i64 z.a, .int .i64 z.b, .int .i64 z.c, .int .i64 z.k, .int .i64 z.n, .slice p65 z.regs.length c65, .slice p68 z.args.length c68] := h56.sl2 73 _ rfl
         go_simp
         exact hK
        clear h56 hW54; intro a57 w58 B58 hW58 hN hF57; replace hN65 := Lay.below hN65 hN.bel; replace hN68 := Lay.below hN68 hN.bel; clear hN
        refine St.go hF57 ?_; clear hF57 a57
        have hI9 : insL.In w58 (From w41.heap.size) z [.int .i64 z.op, .int .i64 z.a, .int .i64 z.b, .int .i64 z.c, .int .i64 z.k, .int .i64 z.n, .slice p65 z.regs.length c65, .slice p68 z.args.length c68] := ins_shut (x := z) (i := ⟨p65, c65, p68, c68⟩) ⟨Lay.mono hN65 (fun k hk _ => Nat.le_trans hsa3 hk), Lay.mono hN68 (fun k hk _ => Nat.le_trans hsa3 hk), In3.out.bnd⟩
        have hAx := hA3.out.below hW58.bel
        have hzx : w37.heap.size ≤ w58.heap.size := Nat.le_trans hz3 hW58.bel.size
        have hKx := KeepBut.below hK3.out hW58.bel hz3
        refine sApp underIns hiI hzI0 hzI1 hzI2 rfl (by decide) rfl (hWo3.below hW58.bel) hlo3 (lts2 hlBD9 hlB32) hAx hzx (hW58.get 0 rfl) (Lay.mono hI9 (fun k hk _ => ⟨Nat.le_trans hz3 hk, hA3.out.own_lt hk⟩)) rfl (by rw [List.length_take]; omega) (by decide) rfl rfl rfl ?_
        intro g59 cp59 w59 hA9 hgr hW59
        have hK9 := hKx.grown hgr hzx (fun k hk => (hAx.lo_le hk).1)
        clear hAx hzx hKx hgr hI9 hW58
        refine sfBlock2 trivial rfl rfl ?_
        refine s1k 0 inf1Inss hW59 rfl rfl rfl rfl rfl rfl ?_
        intro w60 hKp hW60
        replace hA9 := ARow.keep1 hA9 hKp hlBD9
        replace hK9 := KeepBut.keep1t hK9 hKp hlBD9
        clear hKp hW59
        refine St.nil fun a61 h61 => ?_
        refine hK45 _ _ ?_
        refine fr_region ?_
        intro ops hops
        clear hops
        refine St.go h61 ?_; clear h61 a61
        refine sm trivial rfl rfl ?_
        refine sad (by omega) trivial rfl rfl rfl ?_
        refine sa trivial rfl rfl ?_
        refine St.nil fun a62 h62 => ?_
        have hA8 := hA9.next hx3.out
        exact hKL3 _ _ (y.code.length - (q3 + 1)) (by omega) ⟨q3 + 1, by omega, rfl, _, _, hA8, hK9, Nat.le_of_lt (Nat.lt_of_le_of_lt (hA8.lo_le (g := g59) rfl).1 (hA8.lo_le (g := g59) rfl).2), (h62.keep (h62.keep (h62.keep (h62.keep (h62.keep (h62.keep (h62.keep (h62.keep (h62.keep (h62.keep (h62.keep h62.nil (t := 10) rfl) (t := 9) rfl) (t := 8) rfl) (t := 7) rfl) (t := 6) rfl) (t := 5) rfl) (t := 4) rfl) (t := 3) rfl) (t := 2) rfl) (t := 1) rfl) (t := 0) rfl), hW60⟩
      ·have hge3 : q3 = y.code.length := by have := of_decide_eq_false hb; omega
       clear hb hW41
       have hAx := hA3.out.full hge3
       obtain ⟨pL3, cL3, hv9⟩ := hAx.form
       subst hv9
       have hL3 := hAx.lay
       clear hAx
       replace hL3 := Lay.mono hL3 (O' := fun k => w26.heap.size ≤ k ∧ k ≠ BD9) (fun k hk _ => ⟨by have h9 : w37.heap.size ≤ k := hk; omega, by have h9 : w37.heap.size ≤ k := hk; omega⟩)
       replace hN49 := Lay.keepBut hN49 hK3.out (O' := fun k => w26.heap.size ≤ k ∧ k ≠ BD9) (fun k hk _ => ⟨hk.2.1, hk.2.2⟩) (fun k hk _ => ⟨Nat.le_trans hsd3 hk.1, hk.2.2⟩)
       refine wp_exit ?_
       refine hK38 _ _ ?_
       refine wp_seq_k ?_
       intro K63 hK63
       have hF64 : Fr 110 a44 [(0, .agg #[.slice p m.length c]), (1, .pointer (some ⟨B2, 0, none⟩)), (2, .pointer (some ⟨B3, 0, none⟩)), (3, .pointer (some ⟨B6, 0, none⟩)), (4, .int .i64 (q1 : Int)), (5, .pointer (some ⟨B17, 0, none⟩)), (6, .pointer (some ⟨BD6, 0, none⟩)), (7, .int .i64 (q2 : Int)), (8, .pointer (some ⟨B32, 0, none⟩)), (9, .pointer (some ⟨BD9, 0, none⟩)), (10, .int .i64 (q3 : Int))] := (h44.keep (h44.keep (h44.keep (h44.keep (h44.keep (h44.keep (h44.keep (h44.keep (h44.keep (h44.keep (h44.keep h44.nil (t := 10) rfl) (t := 9) rfl) (t := 8) rfl) (t := 7) rfl) (t := 6) rfl) (t := 5) rfl) (t := 4) rfl) (t := 3) rfl) (t := 2) rfl) (t := 1) rfl) (t := 0) rfl)
       have ho8 : a44.tmps.getD 8 undef = .pointer (some ⟨B32, 0, none⟩) := h44.sl 8 _ rfl
       have ho9 : a44.tmps.getD 9 undef = .pointer (some ⟨BD9, 0, none⟩) := h44.sl 9 _ rfl
       refine fr_draw_k 20 ([(8, fun v _ => v = .pointer (some ⟨B32, 0, none⟩)), (9, fun v _ => v = .pointer (some ⟨BD9, 0, none⟩)), (77, fun v _ => v = .pointer (some ⟨B32, 3, none⟩)), (78, fun v _ => v = .pointer (some ⟨B32, 3, none⟩)), (79, fun v _ => v = .int .i64 y.fin.op), (80, fun v _ => v = .pointer (some ⟨B32, 3, none⟩)), (81, fun v _ => v = .pointer (some ⟨B32, 4, none⟩)), (82, fun v _ => v = .int .i64 y.fin.a), (83, fun v _ => v = .pointer (some ⟨B32, 3, none⟩)), (84, fun v _ => v = .pointer (some ⟨B32, 5, none⟩)), (85, fun v _ => v = .agg #[.int .i64 y.fin.yes.block, .slice b2.e.pYR y.fin.yes.regs.length b2.e.cYR, .slice b2.e.pYA y.fin.yes.args.length b2.e.cYA]), (86, fun v w' => ∃ p c p2 c2, v = .agg #[.int .i64 y.fin.yes.block, .slice p y.fin.yes.regs.length c, .slice p2 y.fin.yes.args.length c2] ∧ TIn2 w' (From w41.heap.size) y.fin.yes p c p2 c2), (87, fun v _ => v = .pointer (some ⟨B32, 3, none⟩)), (88, fun v _ => v = .pointer (some ⟨B32, 8, none⟩)), (89, fun v _ => v = .agg #[.int .i64 y.fin.no.block, .slice b2.e.pNR y.fin.no.regs.length b2.e.cNR, .slice b2.e.pNA y.fin.no.args.length b2.e.cNA]), (90, fun v w' => ∃ p c p2 c2, v = .agg #[.int .i64 y.fin.no.block, .slice p y.fin.no.regs.length c, .slice p2 y.fin.no.args.length c2] ∧ TIn2 w' (From w41.heap.size) y.fin.no p c p2 c2), (91, fun v _ => v = .pointer (some ⟨B32, 3, none⟩)), (92, fun v _ => v = .pointer (some ⟨B32, 11, none⟩)), (93, fun v _ => v = .slice b2.e.pA y.fin.args.length b2.e.cA), (94, fun v w' => ∃ p c, v = .slice p y.fin.args.length c ∧ intsL.In w' (From w41.heap.size) y.fin.args [.slice p y.fin.args.length c]), (95, fun v w' => ∃ e : EP, v = .agg #[.int .i64 y.fin.op, .int .i64 y.fin.a, .int .i64 y.fin.yes.block, .slice e.pYR y.fin.yes.regs.length e.cYR, .slice e.pYA y.fin.yes.args.length e.cYA, .int .i64 y.fin.no.block, .slice e.pNR y.fin.no.regs.length e.cNR, .slice e.pNA y.fin.no.args.length e.cNA, .slice e.pA y.fin.args.length e.cA] ∧ EIn w' (From w41.heap.size) y.fin e), (96, fun v _ => v = .pointer (some ⟨BD9, 3, none⟩))] : PTab) (fun w' => Wd w26 w' [(BD9, #[.int .i64 y.regs, .slice p49 y.params.length c49, .slice pL3 y.code.length cL3, .int .i64 0, .int .i64 0, .int .i64 0, .slice none 0 0, .slice none 0 0, .int .i64 0, .slice none 0 0, .slice none 0 0, .slice none 0 0], 77), (B32, #[.int .i64 y.regs, .slice b2.pP y.params.length b2.cP, .slice b2.pC y.code.length b2.cC, .int .i64 y.fin.op, .int .i64 y.fin.a, .int .i64 y.fin.yes.block, .slice b2.e.pYR y.fin.yes.regs.length b2.e.cYR, .slice b2.e.pYA y.fin.yes.args.length b2.e.cYA, .int .i64 y.fin.no.block, .slice b2.e.pNR y.fin.no.regs.length b2.e.cNR, .slice b2.e.pNA y.fin.no.args.length b2.e.cNA, .slice b2.e.pA y.fin.args.length b2.e.cA], 77)] ∧ Below w41.heap.size w41 w') (fun w w' => Below w.heap.size w w') (outs := [8, 9]) (gs := []) (bs := [true, true, true, true, true, true, true, true, true, true, true, true, true, true, true, true, true, true, true, true]) (by kernel_rfl) hF64 rfl (by kernel_rfl) (by kernel_rfl) ?hR ?hG ⟨hWo3.drewN 1, drewN_below (m := 1) (Below.refl _ _)⟩ ⟨ho8, ho9, trivial⟩ ?hA ?hend
       case hR => exact ⟨fun _ _ _ _ h => h, fun _ _ _ _ h => h, fun _ _ _ _ h => h, fun _ _ _ _ h => h, fun _ _ _ _ h => h, fun _ _ _ _ h => h, fun _ _ _ _ h => h, fun _ _ _ _ h => h, fun _ _ _ _ h => h, fun _ _ _ _ h => h, fun _ _ _ _ h => h, fun v w w' hr h => by obtain ⟨p, c, p2, c2, h1, h2⟩ := h; exact ⟨p, c, p2, c2, h1, h2.below hr⟩, fun _ _ _ _ h => h, fun _ _ _ _ h => h, fun _ _ _ _ h => h, fun v w w' hr h => by obtain ⟨p, c, p2, c2, h1, h2⟩ := h; exact ⟨p, c, p2, c2, h1, h2.below hr⟩, fun _ _ _ _ h => h, fun _ _ _ _ h => h, fun _ _ _ _ h => h, fun v w w' hr h => by obtain ⟨p, c, h1, h2⟩ := h; exact ⟨p, c, h1, Lay.below h2 hr⟩, fun v w w' hr h => by obtain ⟨e, h1, h2⟩ := h; exact ⟨e, h1, h2.below hr⟩, fun _ _ _ _ h => h, trivial⟩
       case hG => exact trivial
       case hA =>
        refine ⟨fun a w hW hk K hK => ?_, ?_⟩
        · obtain ⟨k0, -⟩ := hk
          have k0 : a.tmps.getD 8 undef = .pointer (some ⟨B32, 0, none⟩) := k0
          go_simp
          exact hK _ _ (Below.refl _ _) hW rfl
        refine ⟨fun a w hW hk K hK => ?_, ?_⟩
        · obtain ⟨k0, -⟩ := hk
          have k0 : a.tmps.getD 77 undef = .pointer (some ⟨B32, 3, none⟩) := k0
          go_simp
          exact hK _ _ (Below.refl _ _) hW rfl
        refine ⟨fun a w hW hk K hK => ?_, ?_⟩
        · obtain ⟨k0, -⟩ := hk
          have k0 : a.tmps.getD 78 undef = .pointer (some ⟨B32, 3, none⟩) := k0
          have c3 : w.cell? ⟨B32, 3, none⟩ = some (.int .i64 y.fin.op) := cellOf (hW.1.get 1 rfl) 3 _ rfl
          go_simp
          exact hK _ _ (Below.refl _ _) hW rfl
        refine ⟨fun a w hW hk K hK => ?_, ?_⟩
        · obtain ⟨k0, -⟩ := hk
          have k0 : a.tmps.getD 8 undef = .pointer (some ⟨B32, 0, none⟩) := k0
          go_simp
          exact hK _ _ (Below.refl _ _) hW rfl
        refine ⟨fun a w hW hk K hK => ?_, ?_⟩
        · obtain ⟨k0, -⟩ := hk
          have k0 : a.tmps.getD 80 undef = .pointer (some ⟨B32, 3, none⟩) := k0
          go_simp
          exact hK _ _ (Below.refl _ _) hW rfl
        refine ⟨fun a w hW hk K hK => ?_, ?_⟩
        · obtain ⟨k0, -⟩ := hk
          have k0 : a.tmps.getD 81 undef = .pointer (some ⟨B32, 4, none⟩) := k0
          have c4 : w.cell? ⟨B32, 4, none⟩ = some (.int .i64 y.fin.a) := cellOf (hW.1.get 1 rfl) 4 _ rfl
          go_simp
          exact hK _ _ (Below.refl _ _) hW rfl
        refine ⟨fun a w hW hk K hK => ?_, ?_⟩
        · obtain ⟨k0, -⟩ := hk
          have k0 : a.tmps.getD 8 undef = .pointer (some ⟨B32, 0, none⟩) := k0
          go_simp
          exact hK _ _ (Below.refl _ _) hW rfl
        refine ⟨fun a w hW hk K hK => ?_, ?_⟩
        · obtain ⟨k0, -⟩ := hk
          have k0 : a.tmps.getD 83 undef = .pointer (some ⟨B32, 3, none⟩) := k0
          go_simp
          exact hK _ _ (Below.refl _ _) hW rfl
        refine ⟨fun a w hW hk K hK => ?_, ?_⟩
        · obtain ⟨k0, -⟩ := hk
          have k0 : a.tmps.getD 84 undef = .pointer (some ⟨B32, 5, none⟩) := k0
          have c5 : w.cell? ⟨B32, 5, none⟩ = some (.int .i64 y.fin.yes.block) := cellOf (hW.1.get 1 rfl) 5 _ rfl
          have c6 : w.cell? ⟨B32, 6, none⟩ = some (.slice b2.e.pYR y.fin.yes.regs.length b2.e.cYR) := cellOf (hW.1.get 1 rfl) 6 _ rfl
          have c7 : w.cell? ⟨B32, 7, none⟩ = some (.slice b2.e.pYA y.fin.yes.args.length b2.e.cYA) := cellOf (hW.1.get 1 rfl) 7 _ rfl
          go_simp
          exact hK _ _ (Below.refl _ _) hW rfl
        refine ⟨fun a w hW hk K hK => ?_, ?_⟩
        · obtain ⟨k0, -⟩ := hk
          have k0 : a.tmps.getD 85 undef = .agg #[.int .i64 y.fin.yes.block, .slice b2.e.pYR y.fin.yes.regs.length b2.e.cYR, .slice b2.e.pYA y.fin.yes.args.length b2.e.cYA] := k0
          go_simp
          refine (rOwnTo_any _ _ _ _ _ w (In2.out.fin.yes.below hW.1.bel) (by have := hs2.out.2.2.1.1.1; omega) (by have := hs2.out.2.2.1.1.2; omega)).mono ?_
          rintro e w9 ⟨p9, c9, p8, c8, rfl, h9, hb⟩
          exact hK _ _ hb ⟨hW.1.below hb, Below.andThen hW.2 hb⟩ ⟨p9, c9, p8, c8, rfl, h9.mono (fun k hk _ => Nat.le_trans hW.2.size hk)⟩
        refine ⟨fun a w hW hk K hK => ?_, ?_⟩
        · obtain ⟨k0, -⟩ := hk
          have k0 : a.tmps.getD 8 undef = .pointer (some ⟨B32, 0, none⟩) := k0
          go_simp
          exact hK _ _ (Below.refl _ _) hW rfl
        refine ⟨fun a w hW hk K hK => ?_, ?_⟩
        · obtain ⟨k0, -⟩ := hk
          have k0 : a.tmps.getD 87 undef = .pointer (some ⟨B32, 3, none⟩) := k0
          go_simp
          exact hK _ _ (Below.refl _ _) hW rfl
        refine ⟨fun a w hW hk K hK => ?_, ?_⟩
        · obtain ⟨k0, -⟩ := hk
          have k0 : a.tmps.getD 88 undef = .pointer (some ⟨B32, 8, none⟩) := k0
          have c8 : w.cell? ⟨B32, 8, none⟩ = some (.int .i64 y.fin.no.block) := cellOf (hW.1.get 1 rfl) 8 _ rfl
          have c9 : w.cell? ⟨B32, 9, none⟩ = some (.slice b2.e.pNR y.fin.no.regs.length b2.e.cNR) := cellOf (hW.1.get 1 rfl) 9 _ rfl
          have c10 : w.cell? ⟨B32, 10, none⟩ = some (.slice b2.e.pNA y.fin.no.args.length b2.e.cNA) := cellOf (hW.1.get 1 rfl) 10 _ rfl
          go_simp
          exact hK _ _ (Below.refl _ _) hW rfl
        refine ⟨fun a w hW hk K hK => ?_, ?_⟩
        · obtain ⟨k0, -⟩ := hk
          have k0 : a.tmps.getD 89 undef = .agg #[.int .i64 y.fin.no.block, .slice b2.e.pNR y.fin.no.regs.length b2.e.cNR, .slice b2.e.pNA y.fin.no.args.length b2.e.cNA] := k0
          go_simp
          refine (rOwnTo_any _ _ _ _ _ w (In2.out.fin.no.below hW.1.bel) (by have := hs2.out.2.2.1.2.1.1; omega) (by have := hs2.out.2.2.1.2.1.2; omega)).mono ?_
          rintro e w9 ⟨p9, c9, p8, c8, rfl, h9, hb⟩
          exact hK _ _ hb ⟨hW.1.below hb, Below.andThen hW.2 hb⟩ ⟨p9, c9, p8, c8, rfl, h9.mono (fun k hk _ => Nat.le_trans hW.2.size hk)⟩
        refine ⟨fun a w hW hk K hK => ?_, ?_⟩
        · obtain ⟨k0, -⟩ := hk
          have k0 : a.tmps.getD 8 undef = .pointer (some ⟨B32, 0, none⟩) := k0
          go_simp
          exact hK _ _ (Below.refl _ _) hW rfl
        refine ⟨fun a w hW hk K hK => ?_, ?_⟩
        · obtain ⟨k0, -⟩ := hk
          have k0 : a.tmps.getD 91 undef = .pointer (some ⟨B32, 3, none⟩) := k0
          go_simp
          exact hK _ _ (Below.refl _ _) hW rfl
        refine ⟨fun a w hW hk K hK => ?_, ?_⟩
        · obtain ⟨k0, -⟩ := hk
          have k0 : a.tmps.getD 92 undef = .pointer (some ⟨B32, 11, none⟩) := k0
          have c11 : w.cell? ⟨B32, 11, none⟩ = some (.slice b2.e.pA y.fin.args.length b2.e.cA) := cellOf (hW.1.get 1 rfl) 11 _ rfl
          go_simp
          exact hK _ _ (Below.refl _ _) hW rfl
        refine ⟨fun a w hW hk K hK => ?_, ?_⟩
        · obtain ⟨k0, -⟩ := hk
          have k0 : a.tmps.getD 93 undef = .slice b2.e.pA y.fin.args.length b2.e.cA := k0
          go_simp
          refine (rOwnInts_any _ _ _ w (Lay.below In2.out.fin.args hW.1.bel) (by have := hs2.out.2.2.1.2.2; omega)).mono ?_
          rintro e w9 ⟨p9, c9, rfl, h9, hb⟩
          exact hK _ _ hb ⟨hW.1.below hb, Below.andThen hW.2 hb⟩ ⟨p9, c9, rfl, Lay.mono h9 (fun k hk _ => Nat.le_trans hW.2.size hk)⟩
        refine ⟨fun a w hW hk K hK => ?_, ?_⟩
        · obtain ⟨k0, k1, k2, k3, k4, -⟩ := hk
          have k0 : a.tmps[79]?.getD undef = .int .i64 y.fin.op := by rw [← Array.getD_eq_getD_getElem?]; exact k0
          have k1 : a.tmps[82]?.getD undef = .int .i64 y.fin.a := by rw [← Array.getD_eq_getD_getElem?]; exact k1
          obtain ⟨r86, rc86, a86x, ac86, k2, hT86⟩ := k2
          have k2 : a.tmps[86]?.getD undef = .agg #[.int .i64 y.fin.yes.block, .slice r86 y.fin.yes.regs.length rc86, .slice a86x y.fin.yes.args.length ac86] := by rw [← Array.getD_eq_getD_getElem?]; exact k2
          obtain ⟨r90, rc90, a90x, ac90, k3, hT90⟩ := k3
          have k3 : a.tmps[90]?.getD undef = .agg #[.int .i64 y.fin.no.block, .slice r90 y.fin.no.regs.length rc90, .slice a90x y.fin.no.args.length ac90] := by rw [← Array.getD_eq_getD_getElem?]; exact k3
          obtain ⟨p94, c94, k4, hN94⟩ := k4
          have k4 : a.tmps[94]?.getD undef = .slice p94 y.fin.args.length c94 := by rw [← Array.getD_eq_getD_getElem?]; exact k4
          go_simp
          exact hK _ _ (Below.refl _ _) hW ⟨⟨r86, rc86, a86x, ac86, r90, rc90, a90x, ac90, p94, c94⟩, rfl, ⟨hT86, hT90, hN94, In2.out.fin.bnd⟩⟩
        refine ⟨fun a w hW hk K hK => ?_, ?_⟩
        · obtain ⟨k0, -⟩ := hk
          have k0 : a.tmps.getD 9 undef = .pointer (some ⟨BD9, 0, none⟩) := k0
          go_simp
          exact hK _ _ (Below.refl _ _) hW rfl
        trivial
       case hend =>
        intro ops a65 w65 hWD hE hFD
        obtain ⟨e95, hd95, hE95⟩ := hE 95 rfl
        replace hd95 : a65.tmps.getD 95 undef = .agg #[.int .i64 y.fin.op, .int .i64 y.fin.a, .int .i64 y.fin.yes.block, .slice e95.pYR y.fin.yes.regs.length e95.cYR, .slice e95.pYA y.fin.yes.args.length e95.cYA, .int .i64 y.fin.no.block, .slice e95.pNR y.fin.no.regs.length e95.cNR, .slice e95.pNA y.fin.no.args.length e95.cNA, .slice e95.pA y.fin.args.length e95.cA] := hd95
        have hd96 : a65.tmps.getD 96 undef = .pointer (some ⟨BD9, 3, none⟩) := hE 96 rfl
        have hF65 : Fr 110 a65 [(96, .pointer (some ⟨BD9, 3, none⟩)), (95, .agg #[.int .i64 y.fin.op, .int .i64 y.fin.a, .int .i64 y.fin.yes.block, .slice e95.pYR y.fin.yes.regs.length e95.cYR, .slice e95.pYA y.fin.yes.args.length e95.cYA, .int .i64 y.fin.no.block, .slice e95.pNR y.fin.no.regs.length e95.cNR, .slice e95.pNA y.fin.no.args.length e95.cNA, .slice e95.pA y.fin.args.length e95.cA]), (0, .agg #[.slice p m.length c]), (1, .pointer (some ⟨B2, 0, none⟩)), (2, .pointer (some ⟨B3, 0, none⟩)), (3, .pointer (some ⟨B6, 0, none⟩)), (4, .int .i64 (q1 : Int)), (5, .pointer (some ⟨B17, 0, none⟩)), (6, .pointer (some ⟨BD6, 0, none⟩)), (7, .int .i64 (q2 : Int)), (8, .pointer (some ⟨B32, 0, none⟩)), (9, .pointer (some ⟨BD9, 0, none⟩)), (10, .int .i64 (q3 : Int))] := ((hFD.cons hd95).cons hd96)
        clear hd95 hd96
        have hW65 : Wd w26 w65 [(BD9, #[.int .i64 y.regs, .slice p49 y.params.length c49, .slice pL3 y.code.length cL3, .int .i64 0, .int .i64 0, .int .i64 0, .slice none 0 0, .slice none 0 0, .int .i64 0, .slice none 0 0, .slice none 0 0, .slice none 0 0], 77), (B32, #[.int .i64 y.regs, .slice b2.pP y.params.length b2.cP, .slice b2.pC y.code.length b2.cC, .int .i64 y.fin.op, .int .i64 y.fin.a, .int .i64 y.fin.yes.block, .slice b2.e.pYR y.fin.yes.regs.length b2.e.cYR, .slice b2.e.pYA y.fin.yes.args.length b2.e.cYA, .int .i64 y.fin.no.block, .slice b2.e.pNR y.fin.no.regs.length b2.e.cNR, .slice b2.e.pNA y.fin.no.args.length b2.e.cNA, .slice b2.e.pA y.fin.args.length b2.e.cA], 77)] := hWD.1
        have hsa2 : w26.heap.size ≤ w41.heap.size := hWo3.bel.size
        have hmBD9 : BD9 < w41.heap.size := (hWo3.get 0 rfl).lt
        have hmB32 : B32 < w41.heap.size := (hWo3.get 1 rfl).lt
        replace hN49 := Lay.below hN49 hWD.2
        replace hL3 := Lay.below hL3 hWD.2
        clear hFD hWD hE hF64 h44
        clear hWo3
        refine St.go hF65 ?_; clear hF65 a65
        refine sTk 0 hW65 rfl rfl infEnd rfl rfl rfl ?_
        intro w66 hKp hW66
        replace hN49 := Lay.keepNe hN49 hKp (fun k hk => hk.2)
        replace hL3 := Lay.keepNe hL3 hKp (fun k hk => hk.2)
        replace hE95 := EIn.keep1 hE95 hKp hmBD9
        clear hKp hW65
        refine St.nil fun a67 h67 => ?_
        refine hK63 _ _ ?_
        refine fr_region ?_
        intro ops hops
        clear hops
        refine St.go h67 ?_; clear h67 a67
        refine sfFunc3 trivial rfl rfl ?_
        refine scBlocks (bel_cell hW66.bel (cellOf hkBD6.out 3 _ rfl)) trivial rfl rfl ?_
        refine sS 0 12 Try.underlying77 rfl infBlock hW66 trivial rfl rfl rfl rfl ?_
        intro a68 h68
        refine fr_row (t := 100) #[.int .i64 y.regs, .slice p49 y.params.length c49, .slice pL3 y.code.length cL3, .int .i64 y.fin.op, .int .i64 y.fin.a, .int .i64 y.fin.yes.block, .slice e95.pYR y.fin.yes.regs.length e95.cYR, .slice e95.pYA y.fin.yes.args.length e95.cYA, .int .i64 y.fin.no.block, .slice e95.pNR y.fin.no.regs.length e95.cNR, .slice e95.pNA y.fin.no.args.length e95.cNA, .slice e95.pA y.fin.args.length e95.cA] 77 1 h68 hW66 rfl rfl rfl (fun K hK => ?_) ?_
        ·have k0 : a68.tmps[99]?.getD undef = .agg #[.int .i64 y.regs, .slice p49 y.params.length c49, .slice pL3 y.code.length cL3, .int .i64 y.fin.op, .int .i64 y.fin.a, .int .i64 y.fin.yes.block, .slice e95.pYR y.fin.yes.regs.length e95.cYR, .slice e95.pYA y.fin.yes.args.length e95.cYA, .int .i64 y.fin.no.block, .slice e95.pNR y.fin.no.regs.length e95.cNR, .slice e95.pNA y.fin.no.args.length e95.cNA, .slice e95.pA y.fin.args.length e95.cA] := h68.sl2 99 _ rfl
         go_simp
         exact hK
        clear h68 hW66; intro a69 w70 B70 hW70 hN hF69; replace hN49 := Lay.below hN49 hN.bel; replace hL3 := Lay.below hL3 hN.bel; replace hE95 := EIn.below hE95 hN.bel; clear hN
        refine St.go hF69 ?_; clear hF69 a69
        have hI9 : (blockL n).In w70 (From w26.heap.size) y [.int .i64 y.regs, .slice p49 y.params.length c49, .slice pL3 y.code.length cL3, .int .i64 y.fin.op, .int .i64 y.fin.a, .int .i64 y.fin.yes.block, .slice e95.pYR y.fin.yes.regs.length e95.cYR, .slice e95.pYA y.fin.yes.args.length e95.cYA, .int .i64 y.fin.no.block, .slice e95.pNR y.fin.no.regs.length e95.cNR, .slice e95.pNA y.fin.no.args.length e95.cNA, .slice e95.pA y.fin.args.length e95.cA] := block_shut (x := y) (b := ⟨p49, c49, pL3, cL3, e95⟩) ⟨Lay.mono hN49 (fun k hk _ => hk.1), Lay.mono hL3 (fun k hk _ => hk.1), EIn.mono hE95 (fun k hk _ => Nat.le_trans hsa2 hk), In2.out.bnd⟩
        have hAx := hA2.out.below hW70.bel
        have hzx : w22.heap.size ≤ w70.heap.size := Nat.le_trans hz2 hW70.bel.size
        have hKx := KeepBut.below hK2.out hW70.bel hz2
        refine sApp underBlocks hiB hzB0 hzB1 hzB2 rfl (by decide) rfl (hWo2.below hW70.bel) hlo2 (lts2 hlBD6 hlB17) hAx hzx (hW70.get 0 rfl) (Lay.mono hI9 (fun k hk _ => ⟨Nat.le_trans hz2 hk, hA2.out.own_lt hk⟩)) rfl (by rw [List.length_take]; omega) (by decide) rfl rfl rfl ?_
        intro g71 cp71 w71 hA9 hgr hW71
        have hK9 := hKx.grown hgr hzx (fun k hk => (hAx.lo_le hk).1)
        clear hAx hzx hKx hgr hI9 hW70
        refine sfFunc3 trivial rfl rfl ?_
        refine s1k 0 inf1Blocks hW71 rfl rfl rfl rfl rfl rfl ?_
        intro w72 hKp hW72
        replace hA9 := ARow.keep1 hA9 hKp hlBD6
        replace hK9 := KeepBut.keep1t hK9 hKp hlBD6
        clear hKp hW71
        refine St.nil fun a73 h73 => ?_
        refine hK30 _ _ ?_
        refine fr_region ?_
        intro ops hops
        clear hops
        refine St.go h73 ?_; clear h73 a73
        refine sm trivial rfl rfl ?_
        refine sad (by omega) trivial rfl rfl rfl ?_
        refine sa trivial rfl rfl ?_
        refine St.nil fun a74 h74 => ?_
        have hA8 := hA9.next hx2.out
        exact hKL2 _ _ (x.blocks.length - (q2 + 1)) (by omega) ⟨q2 + 1, by omega, rfl, _, _, hA8, hK9, Nat.le_of_lt (Nat.lt_of_le_of_lt (hA8.lo_le (g := g71) rfl).1 (hA8.lo_le (g := g71) rfl).2), (h74.keep (h74.keep (h74.keep (h74.keep (h74.keep (h74.keep (h74.keep (h74.keep h74.nil (t := 7) rfl) (t := 6) rfl) (t := 5) rfl) (t := 4) rfl) (t := 3) rfl) (t := 2) rfl) (t := 1) rfl) (t := 0) rfl), hW72⟩
    ·have hge2 : q2 = x.blocks.length := by have := of_decide_eq_false hb; omega
     clear hb hW26
     have hAx := hA2.out.full hge2
     obtain ⟨pL2, cL2, hv9⟩ := hAx.form
     subst hv9
     have hL2 := hAx.lay
     clear hAx
     replace hL2 := Lay.mono hL2 (O' := fun k => w11.heap.size ≤ k ∧ k ≠ BD6) (fun k hk _ => ⟨by have h9 : w22.heap.size ≤ k := hk; omega, by have h9 : w22.heap.size ≤ k := hk; omega⟩)
     replace hN28 := Lay.keepBut hN28 hK2.out (O' := fun k => w11.heap.size ≤ k ∧ k ≠ BD6) (fun k hk _ => ⟨hk.2.1, hk.2.2⟩) (fun k hk _ => ⟨Nat.le_trans hsd2 hk.1, hk.2.2⟩)
     replace hN31 := Lay.keepBut hN31 hK2.out (O' := fun k => w11.heap.size ≤ k ∧ k ≠ BD6) (fun k hk _ => ⟨hk.2.1, hk.2.2⟩) (fun k hk _ => ⟨Nat.le_trans hsd2 hk.1, hk.2.2⟩)
     refine wp_exit ?_
     refine hK23 _ _ ?_
     refine fr_region ?_
     intro ops hops
     clear hops
     refine St.go h29 ?_; clear h29 a29
     refine sfModule0 trivial rfl rfl ?_
     refine scFuncs (bel_cell hWo2.bel (cellOf hkB6.out 0 _ rfl)) trivial rfl rfl ?_
     refine sS 0 4 Try.underlying50 rfl infFunc hWo2 trivial rfl rfl rfl rfl ?_
     intro a75 h75
     refine fr_row (t := 106) #[.int .i64 x.regs, .slice p28 x.params.length c28, .slice p31 x.results.length c31, .slice pL2 x.blocks.length cL2] 50 1 h75 hWo2 rfl rfl rfl (fun K hK => ?_) ?_
     ·have k0 : a75.tmps[105]?.getD undef = .agg #[.int .i64 x.regs, .slice p28 x.params.length c28, .slice p31 x.results.length c31, .slice pL2 x.blocks.length cL2] := h75.sl2 105 _ rfl
      go_simp
      exact hK
     clear h75 hWo2; intro a76 w77 B77 hW77 hN hF76; replace hN28 := Lay.below hN28 hN.bel; replace hN31 := Lay.below hN31 hN.bel; replace hL2 := Lay.below hL2 hN.bel; clear hN
     refine St.go hF76 ?_; clear hF76 a76
     have hI9 : (funcL n).In w77 (From w11.heap.size) x [.int .i64 x.regs, .slice p28 x.params.length c28, .slice p31 x.results.length c31, .slice pL2 x.blocks.length cL2] := func_shut (x := x) (f := ⟨p28, c28, p31, c31, pL2, cL2⟩) ⟨Lay.mono hN28 (fun k hk _ => hk.1), Lay.mono hN31 (fun k hk _ => hk.1), Lay.mono hL2 (fun k hk _ => hk.1), In1.out.bnd⟩
     have hAx := hA1.out.below hW77.bel
     have hzx : w6.heap.size ≤ w77.heap.size := Nat.le_trans hz1 hW77.bel.size
     have hKx := KeepBut.below hK1.out hW77.bel hz1
     refine sApp underFuncs hiF hzF0 hzF1 hzF2 rfl (by decide) rfl (hWo1.below hW77.bel) hlo1 (lts3 hlB6 hlB3 hlB2) hAx hzx (hW77.get 0 rfl) (Lay.mono hI9 (fun k hk _ => ⟨Nat.le_trans hz1 hk, hA1.out.own_lt hk⟩)) rfl (by rw [List.length_take]; omega) (by decide) rfl rfl rfl ?_
     intro g78 cp78 w78 hA9 hgr hW78
     have hK9 := hKx.grown hgr hzx (fun k hk => (hAx.lo_le hk).1)
     clear hAx hzx hKx hgr hI9 hW77
     refine sfModule0 trivial rfl rfl ?_
     refine s1k 0 inf1Funcs hW78 rfl rfl rfl rfl rfl rfl ?_
     intro w79 hKp hW79
     replace hA9 := ARow.keep1 hA9 hKp hlB6
     replace hK9 := KeepBut.keep1t hK9 hKp hlB6
     clear hKp hW78
     refine St.nil fun a80 h80 => ?_
     refine hK15 _ _ ?_
     refine fr_region ?_
     intro ops hops
     clear hops
     refine St.go h80 ?_; clear h80 a80
     refine sm trivial rfl rfl ?_
     refine sad (by omega) trivial rfl rfl rfl ?_
     refine sa trivial rfl rfl ?_
     refine St.nil fun a81 h81 => ?_
     have hA8 := hA9.next hx1.out
     exact hKL1 _ _ (m.length - (q1 + 1)) (by omega) ⟨q1 + 1, by omega, rfl, _, _, hA8, hK9, Nat.le_of_lt (Nat.lt_of_le_of_lt (hA8.lo_le (g := g78) rfl).1 (hA8.lo_le (g := g78) rfl).2), (h81.keep (h81.keep (h81.keep (h81.keep (h81.keep h81.nil (t := 4) rfl) (t := 3) rfl) (t := 2) rfl) (t := 1) rfl) (t := 0) rfl), hW79⟩
  ·have hge1 : q1 = m.length := by have := of_decide_eq_false hb; omega
   clear hb hW11
   have hAx := hA1.out.full hge1
   obtain ⟨pL1, cL1, hv9⟩ := hAx.form
   subst hv9
   have hL1 := hAx.lay
   clear hAx
   refine wp_exit ?_
   refine hK8 _ _ ?_
   refine wp_seq_k ?_
   intro K82 hK82
   refine fr_region ?_
   intro ops hops
   clear hops
   refine St.go h14 ?_; clear h14 a14
   refine sS 0 1 Try.underlying39 rfl infModule hWo1 trivial rfl rfl rfl rfl ?_
   refine sTk 1 hWo1 rfl rfl infModule rfl rfl rfl ?_
   intro w83 hKp hW83
   replace hL1 := Lay.keep1 hL1 hKp hlB3
   clear hKp hWo1
   refine St.nil fun a84 h84 => ?_
   refine hK82 _ _ ?_
   refine wp_ret ?_
   repeat (first | with_reducible refine of_then_ret ?_ | with_reducible refine of_block_ret ?_)
   exact ret_box 1 h84 hW83 rfl rfl rfl Try.underlying39 rfl infModule ⟨_, rfl, ⟨pL1, cL1, rfl, Lay.mono hL1 (fun k hk _ => Nat.le_trans hlo1 hk)⟩, hW83.bel⟩
end Go.Proofs.Ytmnmnokkojcodab
